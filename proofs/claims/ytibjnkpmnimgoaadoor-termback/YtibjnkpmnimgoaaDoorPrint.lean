/-
  What the calls of term.typeText, term.termText and term.Print answer.
-/
import Derived.Test.YtibjnkpmnimgoaaDoorGoodAll
import Derived.Test.YtibjnkpmnimgoaaDoorNumber
namespace Go.Proofs.YtibjnkpmnimgoaaDoor
open Go.RowKit

theorem bw_app (a b : List UInt8) : bw a ++ bw b = bw (a ++ b) := by
  apply ByteArray.ext
  show (bw a ++ bw b).data = (a ++ b).toArray
  rw [ByteArray.data_append]
  simp [bw]

theorem cat_run (a b : List UInt8) (h : a.length + b.length ≤ 1000000000) (w : World) : (Op.stringOp .add (bw a) (bw b)).run Tryd.prog w = .ok (.string (bw (a ++ b))) w := by
  rw [run_string_add_sum, bw_app]
  show a.toArray.size + b.toArray.size ≤ 9223372036854775807
  simp; omega

set_option maxRecDepth 20000 in
set_option maxHeartbeats 1000000 in
theorem typeText_leaf (k : Int) (hk : k = 0 ∨ k = 1 ∨ k = 2) (a : Option Addr) (c m : Nat) (w : World) (hg : Gl w) :
    Calls Tryd.prog 53 #[.agg #[.int .i64 k, .slice a m c]] w fun e w' => e = .returned (.string (bw (typeW k))) ∧ Below w.heap.size w w' := by
  have c0 := hg.ty.cell 0
  have c1 := hg.ty.cell 1
  have c2 := hg.ty.cell 2
  simp only [List.getElem?_toArray, List.getElem?_cons_zero, List.getElem?_cons_succ] at c0 c1 c2
  have hgs := hg.size
  have h3 : 3 < w.heap.size := by omega
  clear hg
  rcases hk with rfl | rfl | rfl
  all_goals
    go_enter Tryd.func53, Tryd.ntmps53
    go_wp2_with fail
    go_ret
    exact ⟨rfl, (Below.refl _ _).alloc (Nat.le_refl _) _⟩

set_option maxRecDepth 20000 in
set_option maxHeartbeats 2000000 in
theorem typeText_fun (b o c : Nat) (x y : Tr) (tf : Tr → List UInt8) (hlx : (tf x).length ≤ 1000000) (hly : (tf y).length ≤ 1000000) (w : World)
    (x0 : w.cell? ⟨b, o, none⟩ = some (.int .i64 x.k)) (x1 : w.cell? ⟨b, o + 1, none⟩ = some (.slice x.a x.l.length x.c))
    (y0 : w.cell? ⟨b, o + 2, none⟩ = some (.int .i64 y.k)) (y1 : w.cell? ⟨b, o + 3, none⟩ = some (.slice y.a y.l.length y.c))
    (G : Hid (∀ (q : Tr) W, (q = x ∨ q = y) → Below w.heap.size w W → Calls Tryd.prog 53 #[.agg #[.int .i64 q.k, .slice q.a q.l.length q.c]] W fun e w' => e = .returned (.string (bw (tf q))) ∧ Below W.heap.size W w')) :
    Calls Tryd.prog 53 #[.agg #[.int .i64 3, .slice (some ⟨b, o, none⟩) 2 c]] w fun e w' => e = .returned (.string (bw ([40, 116, 111, 32] ++ tf x ++ [32] ++ tf y ++ [41]))) ∧ Below w.heap.size w w' := by
  have lb : b < w.heap.size := World.block_lt_of_cell? _ _ x0
  have hb0 : Below w.heap.size w (w.alloc (.cells #[.int .i64 3, .slice (some ⟨b, o, none⟩) 2 c] 24)).drew := ((Below.refl _ _).alloc (Nat.le_refl _) _).drew
  have hb1 : Below w.heap.size w (w.alloc (.cells #[.int .i64 3, .slice (some ⟨b, o, none⟩) 2 c] 24)) := ((Below.refl _ _).alloc (Nat.le_refl _) _)
  have a1 : ∀ w, (Op.stringOp .add ⟨#[40, 116, 111, 32]⟩ (bw (tf x))).run Tryd.prog w = .ok (.string (bw ([40, 116, 111, 32] ++ tf x))) w := cat_run [40, 116, 111, 32] (tf x) (by simp; omega)
  have a2 : ∀ w, (Op.stringOp .add (bw ([40, 116, 111, 32] ++ tf x)) ⟨#[32]⟩).run Tryd.prog w = .ok (.string (bw ([40, 116, 111, 32] ++ tf x ++ [32]))) w := cat_run ([40, 116, 111, 32] ++ tf x) [32] (by simp; omega)
  have a3 : ∀ w, (Op.stringOp .add (bw ([40, 116, 111, 32] ++ tf x ++ [32])) (bw (tf y))).run Tryd.prog w = .ok (.string (bw ([40, 116, 111, 32] ++ tf x ++ [32] ++ tf y))) w := cat_run ([40, 116, 111, 32] ++ tf x ++ [32]) (tf y) (by simp; omega)
  have a4 : ∀ w, (Op.stringOp .add (bw ([40, 116, 111, 32] ++ tf x ++ [32] ++ tf y)) ⟨#[41]⟩).run Tryd.prog w = .ok (.string (bw ([40, 116, 111, 32] ++ tf x ++ [32] ++ tf y ++ [41]))) w := cat_run ([40, 116, 111, 32] ++ tf x ++ [32] ++ tf y) [41] (by simp; omega)
  obtain ⟨v1, hv1⟩ : ∃ v, bw ([40, 116, 111, 32] ++ tf x) = v := ⟨_, rfl⟩
  obtain ⟨v2, hv2⟩ : ∃ v, bw ([40, 116, 111, 32] ++ tf x ++ [32]) = v := ⟨_, rfl⟩
  obtain ⟨v3, hv3⟩ : ∃ v, bw ([40, 116, 111, 32] ++ tf x ++ [32] ++ tf y) = v := ⟨_, rfl⟩
  obtain ⟨v4, hv4⟩ : ∃ v, bw ([40, 116, 111, 32] ++ tf x ++ [32] ++ tf y ++ [41]) = v := ⟨_, rfl⟩
  rw [hv1] at a1 a2
  rw [hv2] at a2 a3
  rw [hv3] at a3 a4
  rw [hv4] at a4
  rw [hv4]
  clear hv1 hv2 hv3 hv4
  go_enter Tryd.func53, Tryd.ntmps53
  go_wp2_with fail
  go_region_held3 (fun w' => Below w.heap.size w w' ∧ w'.cell? ⟨w.heap.size, 1, none⟩ = some (.slice (some ⟨b, o, none⟩) 2 c) ∧ w'.cell? ⟨b, o, none⟩ = some (.int .i64 x.k) ∧ w'.cell? ⟨b, o + 1, none⟩ = some (.slice x.a x.l.length x.c) ∧ w'.cell? ⟨b, o + 2, none⟩ = some (.int .i64 y.k) ∧ w'.cell? ⟨b, o + 3, none⟩ = some (.slice y.a y.l.length y.c))
    (first
      | exact ⟨hb0, by simp [go_sem], cell_later hb0 x0, cell_later hb0 x1, cell_later hb0 y0, cell_later hb0 y1⟩
      | (go_split_ands; exact ⟨Below.trans (by assumption) ((h53).mono (Below.size (by assumption))), cell_later h53 (by assumption), cell_later h53 (by assumption), cell_later h53 (by assumption), cell_later h53 (by assumption), cell_later h53 (by assumption)⟩)
      | go_keep)
    (first
      | (go_at_call 53; go_split_ands; refine (G.out _ _ ?_ (by assumption)).mono ?_; (first | exact .inl rfl | exact .inr rfl); rintro e w53 ⟨rfl, h53⟩))
  go_split_ands
  have hbe : Below w.heap.size w w53 := by assumption
  go_wp2_with fail
  go_ret
  exact ⟨rfl, hbe⟩
end Go.Proofs.YtibjnkpmnimgoaaDoor
