/-
  What the calls of kind.goodWithin and kind.Good answer, at whatever tree lies in memory.
-/
import Derived.Test.YtibjnkpmnimgoaaDoorRows
import Derived.Test.YtibjnkpmnimgoaaDoorTree
namespace Go.Proofs.YtibjnkpmnimgoaaDoor
open Go.RowKit

set_option maxHeartbeats 400000 in
theorem within_zero (k : Int) (a : Option Addr) (c : Nat) (l : List Tr) (w : World) :
    Calls Tryd.prog 110 #[.agg #[.int .i64 k, .slice a l.length c], .int .i64 0] w fun e w' => e = .returned (.bool false) ∧ Below w.heap.size w w' := by
  go_enter Tryd.func110, Tryd.ntmps110
  go_wp2_with fail
  go_ret
  exact ⟨rfl, (Below.refl _ _).alloc (Nat.le_refl _) _⟩

set_option maxHeartbeats 400000 in
theorem within_leaf (n : Nat) (hn : n ≤ 1000) (k : Int) (hk : k = 0 ∨ k = 1 ∨ k = 2) (a : Option Addr) (c : Nat) (m : Nat) (w : World) :
    Calls Tryd.prog 110 #[.agg #[.int .i64 k, .slice a m c], .int .i64 ((n : Int) + 1)] w fun e w' => e = .returned (.bool ((m : Int) == 0)) ∧ Below w.heap.size w w' := by
  have h1 : (((n : Int) + 1) == 0) = false := by simp; omega
  rcases hk with rfl | rfl | rfl <;>
  · go_enter Tryd.func110, Tryd.ntmps110
    go_wp2_with fail
    go_ret
    exact ⟨rfl, (Below.refl _ _).alloc (Nat.le_refl _) _⟩

set_option maxHeartbeats 400000 in
theorem within_other (n : Nat) (hn : n ≤ 1000) (k : Int) (h0 : (k == 0) = false) (h1 : (k == 1) = false) (h2 : (k == 2) = false) (h3 : (k == 3) = false) (a : Option Addr) (c : Nat) (m : Nat) (w : World) :
    Calls Tryd.prog 110 #[.agg #[.int .i64 k, .slice a m c], .int .i64 ((n : Int) + 1)] w fun e w' => e = .returned (.bool false) ∧ Below w.heap.size w w' := by
  have hz : (((n : Int) + 1) == 0) = false := by simp; omega
  go_enter Tryd.func110, Tryd.ntmps110
  go_wp2_with fail
  go_ret
  exact ⟨rfl, (Below.refl _ _).alloc (Nat.le_refl _) _⟩

set_option maxHeartbeats 400000 in
theorem within_fun_no (n : Nat) (hn : n ≤ 1000) (a : Option Addr) (c : Nat) (m : Nat) (hm : ((m : Int) == 2) = false) (w : World) :
    Calls Tryd.prog 110 #[.agg #[.int .i64 3, .slice a m c], .int .i64 ((n : Int) + 1)] w fun e w' => e = .returned (.bool false) ∧ Below w.heap.size w w' := by
  have hz : (((n : Int) + 1) == 0) = false := by simp; omega
  go_enter Tryd.func110, Tryd.ntmps110
  go_wp2_with fail
  go_ret
  exact ⟨rfl, (Below.refl _ _).alloc (Nat.le_refl _) _⟩

set_option maxHeartbeats 400000 in
theorem within_fun (n : Nat) (hn : n ≤ 1000) (b o c : Nat) (kx ky : Int) (ax ay : Option Addr) (mx my cx cy : Nat) (gx gy : Bool) (w : World)
    (x0 : w.cell? ⟨b, o, none⟩ = some (.int .i64 kx)) (x1 : w.cell? ⟨b, o + 1, none⟩ = some (.slice ax mx cx))
    (y0 : w.cell? ⟨b, o + 2, none⟩ = some (.int .i64 ky)) (y1 : w.cell? ⟨b, o + 3, none⟩ = some (.slice ay my cy))
    (hx : Hid (∀ w', Below w.heap.size w w' → Calls Tryd.prog 110 #[.agg #[.int .i64 kx, .slice ax mx cx], .int .i64 (n : Int)] w' fun e w'' => e = .returned (.bool gx) ∧ Below w'.heap.size w' w''))
    (hy : Hid (∀ w', Below w.heap.size w w' → Calls Tryd.prog 110 #[.agg #[.int .i64 ky, .slice ay my cy], .int .i64 (n : Int)] w' fun e w'' => e = .returned (.bool gy) ∧ Below w'.heap.size w' w'')) :
    Calls Tryd.prog 110 #[.agg #[.int .i64 3, .slice (some ⟨b, o, none⟩) 2 c], .int .i64 ((n : Int) + 1)] w fun e w' => e = .returned (.bool (gx && gy)) ∧ Below w.heap.size w w' := by
  have hz : (((n : Int) + 1) == 0) = false := by simp; omega
  have lb : b < w.heap.size := World.block_lt_of_cell? _ _ x0
  cases gx
  · go_enter Tryd.func110, Tryd.ntmps110
    go_wp2_with fail
    refine (hx.out _ ((Below.refl _ _).alloc (Nat.le_refl _) _)).mono ?_
    rintro e w1 ⟨rfl, hb1⟩
    go_wp2_with fail
    go_ret
    exact ⟨rfl, ((Below.refl _ _).alloc (Nat.le_refl _) _).trans (hb1.mono (by simp))⟩
  · go_enter Tryd.func110, Tryd.ntmps110
    go_wp2_with fail
    refine (hx.out _ ((Below.refl _ _).alloc (Nat.le_refl _) _)).mono ?_
    rintro e w1 ⟨rfl, hb1⟩
    have hbw : Below w.heap.size w w1 := ((Below.refl _ _).alloc (Nat.le_refl _) _).trans (hb1.mono (by simp))
    have b1 : w1.cell? ⟨w.heap.size, 1, none⟩ = some (.slice (some ⟨b, o, none⟩) 2 c) := cell_later hb1 (by simp [go_sem])
    have y0' := cell_later hbw y0
    have y1' := cell_later hbw y1
    go_wp2_with fail
    refine (hy.out _ hbw).mono ?_
    rintro e w2 ⟨rfl, hb2⟩
    go_wp2_with fail
    go_ret
    exact ⟨by simp, hbw.trans (hb2.mono hbw.size)⟩

theorem within_zero' (t : Tr) (w : World) : Calls Tryd.prog 110 #[.agg #[.int .i64 t.k, .slice t.a t.l.length t.c], .int .i64 0] w fun e w' => e = .returned (.bool (goodT 0 t)) ∧ Below w.heap.size w w' := by
  refine (within_zero t.k t.a t.c t.l w).mono ?_
  rintro e w' ⟨rfl, hb⟩
  exact ⟨by simp [goodT], hb⟩

theorem within_any (n : Nat) : n ≤ 1000 → ∀ (t : Tr) (w : World), t.In w →
    Calls Tryd.prog 110 #[.agg #[.int .i64 t.k, .slice t.a t.l.length t.c], .int .i64 (n : Int)] w fun e w' => e = .returned (.bool (goodT n t)) ∧ Below w.heap.size w w' := by
  induction n with
  | zero =>
    intro _ t w _
    have e : ((0 : Nat) : Int) = 0 := rfl
    rw [e]
    exact within_zero' t w
  | succ n ih =>
    intro hn ⟨k, a, c, l⟩ w hin
    have e : ((n + 1 : Nat) : Int) = (n : Int) + 1 := by omega
    rw [e]
    dsimp only
    by_cases hk : k = 0 ∨ k = 1 ∨ k = 2
    · refine (within_leaf n (by omega) k hk a c l.length w).mono ?_
      rintro e w' ⟨rfl, hb⟩
      refine ⟨?_, hb⟩
      have e3 : (k == 3) = false := by simp; omega
      have eo : (k == 0 || k == 1 || k == 2) = true := by simpa [or_assoc] using hk
      match l with
      | [] => simp [goodT, eo]
      | [x] => simp [goodT]
      | [x, y] => simp [goodT, e3]
      | x :: y :: z :: r => simp [goodT]; omega
    · have h0 : (k == 0) = false := by simp; omega
      have h1 : (k == 1) = false := by simp; omega
      have h2 : (k == 2) = false := by simp; omega
      by_cases h3 : k = 3
      · subst h3
        match l, hin with
        | [], hin => exact within_fun_no n (by omega) a c 0 (by decide) w
        | [x], hin => exact within_fun_no n (by omega) a c 1 (by decide) w
        | x :: y :: z :: r, hin =>
          refine (within_fun_no n (by omega) a c (x :: y :: z :: r).length (by simp; omega) w).mono ?_
          rintro e w' ⟨rfl, hb⟩
          exact ⟨by simp [goodT], hb⟩
        | [x, y], hin =>
          obtain ⟨b, o, e0, x0, x1, hx⟩ := hin.at 0 (by simp)
          obtain ⟨b', o', e1, y0, y1, hy⟩ := hin.at 1 (by simp)
          rw [e0] at e1
          obtain ⟨rfl, rfl⟩ : b = b' ∧ o = o' := by simpa using e1
          subst e0
          refine (within_fun n (by omega) b o c x.k y.k x.a y.a x.l.length y.l.length x.c y.c (goodT n x) (goodT n y) w (by simpa using x0) (by simpa using x1) (by simpa using y0) (by simpa using y1)
            (fun w' hb => ih (by omega) x w' (hx.below hb)) (fun w' hb => ih (by omega) y w' (hy.below hb))).mono ?_
          rintro e w' ⟨rfl, hb⟩
          exact ⟨by simp [goodT], hb⟩
      · refine (within_other n (by omega) k h0 h1 h2 (by simpa using h3) a c l.length w).mono ?_
        rintro e w' ⟨rfl, hb⟩
        refine ⟨?_, hb⟩
        have e3 : (k == 3) = false := by simpa using h3
        match l with
        | [] => simp [goodT, h0, h1, h2]
        | [x] => simp [goodT]
        | [x, y] => simp [goodT, e3]
        | x :: y :: z :: r => simp [goodT]

set_option maxHeartbeats 400000 in
/-- kind.Good. -/
theorem good_any (t : Tr) (w : World) (hin : t.In w) :
    Calls Tryd.prog 97 #[.agg #[.int .i64 t.k, .slice t.a t.l.length t.c]] w fun e w' => e = .returned (.bool (goodT 4 t)) ∧ Below w.heap.size w w' := by
  have hw := within_any 4 (by omega) t
  have HW : Hid (∀ (w : World), t.In w → Calls Tryd.prog 110 #[.agg #[.int .i64 t.k, .slice t.a t.l.length t.c], .int .i64 4] w fun e w' => e = .returned (.bool (goodT 4 t)) ∧ Below w.heap.size w w') := hw
  clear hw
  go_enter Tryd.func97, Tryd.ntmps97
  go_wp2_with fail
  refine (HW.out _ (hin.below ((Below.refl _ _).alloc (Nat.le_refl _) _))).mono ?_
  rintro e w1 ⟨rfl, hb1⟩
  go_wp2_with fail
  go_ret
  exact ⟨rfl, ((Below.refl _ _).alloc (Nat.le_refl _) _).trans (hb1.mono (by simp))⟩
end Go.Proofs.YtibjnkpmnimgoaaDoor
