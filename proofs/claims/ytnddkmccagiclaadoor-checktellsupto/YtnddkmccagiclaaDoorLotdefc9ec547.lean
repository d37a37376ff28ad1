/-
  Whatever can be read as data of the type 'Type{Kind int, L []Type}' is a tree that lies in memory.
-/
import Derived.Test.YtnddkmccagiclaaDoorRows
import Derived.Test.YtnddkmccagiclaaDoorLot1e7586c05d
import Derived.ProofKit
import Derived.Deep.Slices
import Derived.Test.YtnddkmccagiclaaDoorLote54be471a2
import Derived.OpenShut
import Derived.Lib.LaidTab
namespace Go.Proofs.YtnddkmccagiclaaDoor
open Go.ChangeShapes Go.WideShapes Go.ChangeAt Go.RowKit
theorem Tryd.cells24 : Tryd.prog.cellsOf 24 = 2 := by kernel_rfl
theorem Tryd.cells22 : Tryd.prog.cellsOf 22 = 1 := by kernel_rfl
theorem Tryd.cells3 : Tryd.prog.cellsOf 3 = 1 := by kernel_rfl
theorem cell_spot {w : World} {a : Addr} {v : Value} (h : w.cell? a = some v) : a = ⟨a.block, a.off, none⟩ := by
  obtain ⟨b, o, s⟩ := a
  cases s with
  | none => rfl
  | some s =>
    unfold World.cell? at h
    split at h <;> simp at h
theorem cellsTwo {w : World} {base : Nat} {a : Addr} {u v : Value} (h : w.cells? base a 2 = some [u, v]) : w.cell? a = some u ∧ w.cell? (a.add 1) = some v := by
  unfold World.cells? at h
  split at h
  · have h0 : a.add 0 = a := by simp [Addr.add]
    simp only [List.range_succ, List.range_zero, List.nil_append, List.cons_append, List.mapM_cons, List.mapM_nil, h0] at h
    cases hu : w.cell? a with
    | none => simp [hu] at h
    | some u' =>
      cases hv : w.cell? (a.add 1) with
      | none => simp [hu, hv] at h
      | some v' =>
        simp [hu, hv] at h
        exact ⟨by rw [h.1], by rw [h.2]⟩
  · cases h
end Go.Proofs.YtnddkmccagiclaaDoor

/-
  Whatever can be read as data of the type 'Term' is a term's tree that lies in memory.
-/
namespace Go.Proofs.YtnddkmccagiclaaDoor
open Go.ChangeShapes Go.WideShapes Go.ChangeAt Go.RowKit
theorem Tryd.cells27 : Tryd.prog.cellsOf 27 = 7 := by kernel_rfl
theorem Tryd.cells25 : Tryd.prog.cellsOf 25 = 1 := by kernel_rfl
theorem cells_seven {w : World} {base : Nat} {a : Addr} {l : List Value} (h : w.cells? base a 7 = some l) : ∀ i, i < 7 → w.cell? (a.add i) = l[i]? := by
  unfold World.cells? at h
  split at h
  · intro i hi
    have hm := Lib.mapM_at h i i (by simp [hi])
    obtain ⟨b, hb, hf⟩ := hm
    rw [hb]
    exact hf
  · cases h
end Go.Proofs.YtnddkmccagiclaaDoor
