/-
  The call of chaperonelaw.types answers true, and nothing that was there has turned.
-/
import Derived.Test.YtaaplpcpifdnfaaTypes
namespace Go.Proofs.Ytaaplpcpifdnfaa
open Go.RowKit

set_option maxHeartbeats 1000000 in
theorem typesLaw_any (w : World) : Calls Try.prog 12 #[] w fun e w' => e = .returned (.bool true) ∧ Below w.heap.size w w' := by
  go_enter Try.func12, Try.ntmps12
  go_wp2_with fail
  refine (to_any (leaf 1) (leaf 0) _ (leaf_in _ _) (leaf_in _ _)).mono ?_
  rintro e w1 ⟨g, _, rfl, hin, hb1⟩
  have HI : Hid ((nf g).In w1) := hin
  clear hin
  have G1 : Hid (∀ W, (nf g).In W → Calls Try.prog 7 #[.agg #[.int .i64 3, .slice (some ⟨g, 0, none⟩) 2 2]] W fun e w' => e = .returned (.bool true) ∧ Below W.heap.size W w') := fun W h => by
    have := good_any (nf g) W h
    rw [nf_good] at this
    exact this
  have hg : (nf g).hgt ≤ 1000 := Nat.le_trans (Tr.hgt_good 4 _ (nf_good g)) (by omega)
  have hs : (nf g).sm := Tr.sm_good 4 _ (nf_good g)
  have hr : (nf g).right := Tr.right_good 4 _ (nf_good g)
  have G2 : Hid (∀ W, (nf g).In W → Calls Try.prog 17 #[.agg #[.int .i64 3, .slice (some ⟨g, 0, none⟩) 2 2], .agg #[.int .i64 0, .slice none 0 0]] W fun e w' => e = .returned (.bool true) ∧ Below W.heap.size W w') := fun W h => by
    have := fits_whole (nf g) (leaf 0) W h (leaf_in _ _) hg hs
    rw [nf_fits] at this
    exact this
  have G3 : Hid (∀ W, (nf g).In W → Calls Try.prog 17 #[.agg #[.int .i64 3, .slice (some ⟨g, 0, none⟩) 2 2], .agg #[.int .i64 1, .slice none 0 0]] W fun e w' => e = .returned (.bool false) ∧ Below W.heap.size W w') := fun W h => by
    have := fits_whole (nf g) (leaf 1) W h (leaf_in _ _) hg hs
    rw [nf_nofit] at this
    exact this
  have G4 : Hid (∀ W, (nf g).In W → Calls Try.prog 21 #[.agg #[.int .i64 3, .slice (some ⟨g, 0, none⟩) 2 2], .agg #[.int .i64 3, .slice (some ⟨g, 0, none⟩) 2 2]] W fun e w' => ∃ a m c, e = .returned (.agg #[.int .i64 3, .slice a m c]) ∧ Below W.heap.size W w') := fun W h => by
    refine (join_whole (nf g) (nf g) W h h hr hr hg).mono ?_
    rintro e w' ⟨t, rfl, ht, _, _, hb⟩
    have : t.k = 3 := by rw [← Tr.ty_k, ht, nf_join]
    exact ⟨t.a, t.l.length, t.c, by rw [this], hb⟩
  have hb0 : Below w.heap.size w w1 := hb1
  clear hg hs hr hb1
  have hb2 : Below w.heap.size w (w1.alloc (.cells #[.int .i64 3, .slice (some ⟨g, 0, none⟩) 2 2] 24)) := hb0.alloc hb0.size _
  have hbb : Below w1.heap.size w1 (w1.alloc (.cells #[.int .i64 3, .slice (some ⟨g, 0, none⟩) 2 2] 24)) := (Below.refl _ _).alloc (Nat.le_refl _) _
  go_wp2_with fail
  refine (G1.out _ (HI.out.below hbb)).mono ?_
  rintro e w2 ⟨rfl, hb3⟩
  have p0 : w2.cell? ⟨w1.heap.size, 0, none⟩ = some (.int .i64 3) := cell_later hb3 (by simp [go_sem])
  have p1 : w2.cell? ⟨w1.heap.size, 1, none⟩ = some (.slice (some ⟨g, 0, none⟩) 2 2) := cell_later hb3 (by simp [go_sem])
  have HI2 : Hid ((nf g).In w2) := (HI.out.below hbb).below hb3
  have hb4 : Below w.heap.size w w2 := hb2.trans (hb3.mono hb2.size)
  clear hb3 hbb hb2 hb0 HI G1
  go_wp2_with fail
  refine (G2.out _ HI2.out).mono ?_
  rintro e w3 ⟨rfl, hb5⟩
  have hb6 : Below w.heap.size w w3 := hb4.trans (hb5.mono hb4.size)
  replace p0 := cell_later hb5 p0
  replace p1 := cell_later hb5 p1
  have HI3 : Hid ((nf g).In w3) := HI2.out.below hb5
  clear hb4 hb5 HI2 G2
  go_wp2_with fail
  refine (G3.out _ HI3.out).mono ?_
  rintro e w4 ⟨rfl, hb7⟩
  have hb8 : Below w.heap.size w w4 := hb6.trans (hb7.mono hb6.size)
  replace p0 := cell_later hb7 p0
  replace p1 := cell_later hb7 p1
  have HI4 : Hid ((nf g).In w4) := HI3.out.below hb7
  clear hb6 hb7 HI3 G3
  go_wp2_with fail
  refine (G4.out _ HI4.out).mono ?_
  rintro e w5 ⟨a, m, c, rfl, hb9⟩
  have hb10 : Below w.heap.size w w5 := hb8.trans (hb9.mono hb8.size)
  clear hb8 hb9 HI4 G4
  have hfk := field_kind 3 (.slice a m c)
  go_wp2_with fail
  go_ret
  exact ⟨rfl, hb10⟩
end Go.Proofs.Ytaaplpcpifdnfaa
