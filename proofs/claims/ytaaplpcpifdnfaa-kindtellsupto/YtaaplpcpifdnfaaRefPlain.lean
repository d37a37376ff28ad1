/-
  What the calls of chaperoneref.IsType, chaperoneref.PlainOf, chaperoneref.any0, chaperoneref.fun and chaperoneref.GroundOf answer at a tree that lies in memory.
-/
import Derived.Test.YtaaplpcpifdnfaaRefDeep
import Derived.Test.YtaaplpcpifdnfaaGrounds
namespace Go.Proofs.Ytaaplpcpifdnfaa
open Go.RowKit

theorem good_right : ∀ (n : Nat) (t : Tr), goodT n t = (rightY t.ty && decide (t.hgt ≤ n))
  | 0, t => by
    have := t.hgt_pos
    have e : decide (t.hgt ≤ 0) = false := by simp; omega
    rw [e]
    simp [goodT]
  | n + 1, ⟨k, a, c, l⟩ => by
    rw [right_ty, hgt_most]
    match l with
    | [] =>
      have e : (k == 0 || k == 1 || k == 2) = (decide (0 ≤ k) && decide (k ≤ 2)) := by
        rw [Bool.eq_iff_iff]; simp; omega
      simp [goodT, topR, most, e]
    | [x] => simp [goodT, topR]
    | [x, y] =>
      have h1 := good_right n x
      have h2 := good_right n y
      have e : decide (most [x, y] + 1 ≤ n + 1) = (decide (x.hgt ≤ n) && decide (y.hgt ≤ n)) := by
        rw [Bool.eq_iff_iff]
        simp [most]
        omega
      simp only [goodT, h1, h2, e, topR, List.all_cons, List.all_nil, List.length_cons, List.length_nil]
      cases k == 3 <;> cases rightY x.ty <;> cases rightY y.ty <;> cases decide (x.hgt ≤ n) <;> simp
    | x :: y :: z :: r =>
      have e1 : (((x :: y :: z :: r).length : Int) == 0) = false := by simp; omega
      have e2 : (((x :: y :: z :: r).length : Int) == 2) = false := by simp; omega
      have e3 : topR k (x :: y :: z :: r).length = false := by unfold topR; rw [e1, e2]; simp
      simp only [goodT, e3, Bool.false_and]

set_option maxHeartbeats 400000 in
/-- chaperoneref.IsType. -/
theorem isType_any (n : Nat) (hn : n ≤ 1000000000) (x : Tr) (w : World) (hx : x.In w) (hh : x.hgt ≤ n) (hs : x.sm) :
    Calls Try.prog 9 #[.agg #[.int .i64 x.k, .slice x.a x.l.length x.c]] w fun e w' => e = .returned (.bool (goodT 4 x)) ∧ Below w.heap.size w w' := by
  have hg := good_right 4 x
  have hb0 : Below w.heap.size w (w.alloc (.cells #[.int .i64 x.k, .slice x.a x.l.length x.c] 24)) := (Below.refl _ _).alloc (Nat.le_refl _) _
  obtain ⟨r, hr⟩ : ∃ r, rightY x.ty = r := ⟨_, rfl⟩
  have G1 : Hid (∀ W, x.In W → Calls Try.prog 13 #[.agg #[.int .i64 x.k, .slice x.a x.l.length x.c]] W fun e w' => e = .returned (.bool r) ∧ Below W.heap.size W w') := fun W h => hr ▸ isRight_any n x W h hh hs
  have G2 : Hid (∀ W, x.In W → Calls Try.prog 29 #[.agg #[.int .i64 x.k, .slice x.a x.l.length x.c]] W fun e w' => e = .returned (.int .i64 (x.hgt : Int)) ∧ Below W.heap.size W w') := fun W h => deepOf_any n hn x W h hh hs
  have HG : Hid (goodT 4 x = (r && decide (x.hgt ≤ 4))) := by show _ = _; rw [hg, hr]
  clear hg hr hh hs
  cases r
  · go_enter Try.func9, Try.ntmps9
    go_wp2_with fail
    refine (G1.out _ (hx.below hb0)).mono ?_
    rintro e w1 ⟨rfl, h1⟩
    have hb1 := hb0.trans (h1.mono hb0.size)
    clear h1 hb0
    go_wp2_with fail
    go_ret
    exact ⟨by rw [HG.out]; rfl, hb1⟩
  · go_enter Try.func9, Try.ntmps9
    go_wp2_with fail
    refine (G1.out _ (hx.below hb0)).mono ?_
    rintro e w1 ⟨rfl, h1⟩
    have hb1 := hb0.trans (h1.mono hb0.size)
    have p0 : w1.cell? ⟨w.heap.size, 0, none⟩ = some (.int .i64 x.k) := cell_later h1 (by simp [go_sem])
    have p1 : w1.cell? ⟨w.heap.size, 1, none⟩ = some (.slice x.a x.l.length x.c) := cell_later h1 (by simp [go_sem])
    clear h1 hb0
    go_wp2_with fail
    refine (G2.out _ (hx.below hb1)).mono ?_
    rintro e w2 ⟨rfl, h2⟩
    have hb2 := hb1.trans (h2.mono hb1.size)
    have HE : Hid (goodT 4 x = decide ((x.hgt : Int) < 5)) := by
      show _ = _
      rw [HG.out, Bool.true_and, Bool.eq_iff_iff]; simp; omega
    clear h2 hb1 HG
    go_wp2_with fail
    go_ret
    exact ⟨by rw [HE.out]; rfl, hb2⟩
end Go.Proofs.Ytaaplpcpifdnfaa
