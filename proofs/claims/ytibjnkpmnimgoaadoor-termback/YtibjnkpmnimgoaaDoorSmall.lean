/-
  What the calls of kind.To, kind.Ground, kind.Plain and kind.alikeAtTop answer, at whatever trees lie in memory.
-/
import Derived.Test.YtibjnkpmnimgoaaDoorRows
import Derived.Test.YtibjnkpmnimgoaaDoorMath
namespace Go.Proofs.YtibjnkpmnimgoaaDoor
open Go.RowKit

set_option maxHeartbeats 400000 in
/-- kind.alikeAtTop. -/
theorem alike_walk (k k' : Int) (a a' : Option Addr) (m m' c c' : Nat) (w : World) :
    Calls Tryd.prog 78 #[.agg #[.int .i64 k, .slice a m c], .agg #[.int .i64 k', .slice a' m' c']] w fun e w' => e = .returned (.bool (k == k' && (m : Int) == (m' : Int))) ∧ Below w.heap.size w w' := by
  by_cases h : (k == k') = true
  · go_enter Tryd.func78, Tryd.ntmps78
    go_wp2_with fail
    go_ret
    exact ⟨by simp [h], ((Below.refl _ _).alloc (Nat.le_refl _) _).alloc (by simp) _⟩
  · have h' : (k == k') = false := by simpa using h
    clear h
    go_enter Tryd.func78, Tryd.ntmps78
    go_wp2_with fail
    go_ret
    exact ⟨by simp [h'], ((Below.refl _ _).alloc (Nat.le_refl _) _).alloc (by simp) _⟩

theorem alike_any (k k' : Int) (a a' : Option Addr) (m m' c c' : Nat) (r : Bool) (hr : (k == k' && (m : Int) == (m' : Int)) = r) (w : World) :
    Calls Tryd.prog 78 #[.agg #[.int .i64 k, .slice a m c], .agg #[.int .i64 k', .slice a' m' c']] w fun e w' => e = .returned (.bool r) ∧ Below w.heap.size w w' := by
  rw [← hr]
  exact alike_walk k k' a a' m m' c c' w

set_option maxHeartbeats 400000 in
/-- kind.To. -/
theorem to_cells (k k' : Int) (a a' : Option Addr) (m m' c c' : Nat) (w : World) :
    Calls Tryd.prog 90 #[.agg #[.int .i64 k, .slice a m c], .agg #[.int .i64 k', .slice a' m' c']] w fun e w' => ∃ g, w.heap.size ≤ g ∧ e = .returned (.agg #[.int .i64 3, .slice (some ⟨g, 0, none⟩) 2 2]) ∧ w'.cell? ⟨g, 0, none⟩ = some (.int .i64 k) ∧ w'.cell? ⟨g, 1, none⟩ = some (.slice a m c) ∧ w'.cell? ⟨g, 2, none⟩ = some (.int .i64 k') ∧ w'.cell? ⟨g, 3, none⟩ = some (.slice a' m' c') ∧ Below w.heap.size w w' := by
  go_enter Tryd.func90, Tryd.ntmps90
  go_wp2_with fail
  refine bodyPost_ret (v := .agg #[.int .i64 3, .slice (some ⟨w.heap.size + 1 + 1 + 1, 0, none⟩) 2 2]) (by simp [results, Tryd.results90, go_sem]) rfl ⟨_, ?_, rfl, by simp [go_sem], by simp [go_sem], by simp [go_sem], by simp [go_sem], ?_⟩
  · omega
  exact ((((Below.refl _ _).alloc (Nat.le_refl _) _).alloc (by simp) _).alloc (by simp; omega) _).alloc (by simp; omega) _

theorem to_any (x y : Tr) (w : World) (hx : x.In w) (hy : y.In w) :
    Calls Tryd.prog 90 #[.agg #[.int .i64 x.k, .slice x.a x.l.length x.c], .agg #[.int .i64 y.k, .slice y.a y.l.length y.c]] w fun e w' => ∃ g, w.heap.size ≤ g ∧ e = .returned (.agg #[.int .i64 3, .slice (some ⟨g, 0, none⟩) 2 2]) ∧ (Tr.mk 3 (some ⟨g, 0, none⟩) 2 [x, y]).In w' ∧ Below w.heap.size w w' := by
  refine (to_cells x.k y.k x.a y.a x.l.length y.l.length x.c y.c w).mono ?_
  rintro e w' ⟨g, hg, rfl, c0, c1, c2, c3, hb⟩
  refine ⟨g, hg, rfl, ?_, hb⟩
  exact Tr.In_two c0 c1 c2 c3 (hx.below hb) (hy.below hb)

/-- A type without parts. -/
def leaf (k : Int) : Tr := .mk k none 0 []
theorem leaf_in (k : Int) (w : World) : (leaf k).In w := Tr.In_nil w k none 0
theorem leaf_bl (k : Int) (P : Nat → Prop) : (leaf k).Bl P := Tr.Bl_nil P k none 0

end Go.Proofs.YtibjnkpmnimgoaaDoor
