/-
  What the call of check's ruleOf answers at If, Fn and Call.
-/
import Derived.Test.YtnddkmccagiclaaDoorLote74bb2c053
import Derived.Test.YtnddkmccagiclaaDoorRows
import Derived.Test.YtnddkmccagiclaaDoorLot1e7586c05d
import Derived.Test.YtnddkmccagiclaaDoorLot7570b2d23b
import Derived.BigQuiet
import Derived.Deep.QuietTactic
import Derived.WalkSmall
import Derived.Deep.RegionLaw
import Derived.Deep.RegionHeld3
import Derived.Deep.LoopGhost
namespace Go.Proofs.YtnddkmccagiclaaDoor
open Go.RowKit
/-- The rule is written to its place: what it is still lies there. -/
theorem RuOut.store {Q : Nat → Prop} {k : Int} {x : TT} {w w1 : World} {I U : Tr} (hb : Below w.heap.size w w1) (hw : WR k x w.heap.size w1) (hI : I.In w1) (hU : U.In w1) (bI : I.Bl fun b => Q b ∧ b ≠ w.heap.size + 1) (bU : U.Bl fun b => Q b ∧ b ≠ w.heap.size + 1) :
    ∃ W, W = (((w1.setCell ⟨w.heap.size + 1, 0, none⟩ (.int .i64 I.k)).setCell ⟨w.heap.size + 1, 1, none⟩ (.slice I.a I.l.length I.c)).setCell ⟨w.heap.size + 1, 2, none⟩ (.slice U.a U.l.length U.c)) ∧ Below w.heap.size w W ∧ I.In W ∧ U.In W ∧ I.Bl Q ∧ U.Bl Q ∧
      W.cell? ⟨w.heap.size + 1, 0, none⟩ = some (.int .i64 I.k) ∧ W.cell? ⟨w.heap.size + 1, 1, none⟩ = some (.slice I.a I.l.length I.c) ∧ W.cell? ⟨w.heap.size + 1, 2, none⟩ = some (.slice U.a U.l.length U.c) := by
  have hc : ∀ b, (Q b ∧ b ≠ w.heap.size + 1) → ∀ o, (((w1.setCell ⟨w.heap.size + 1, 0, none⟩ (.int .i64 I.k)).setCell ⟨w.heap.size + 1, 1, none⟩ (.slice I.a I.l.length I.c)).setCell ⟨w.heap.size + 1, 2, none⟩ (.slice U.a U.l.length U.c)).cell? ⟨b, o, none⟩ = w1.cell? ⟨b, o, none⟩ := by
    intro b hb o
    have nb := hb.2
    rw [World.cell?_setCell_other _ _ _ _ (by simp), World.cell?_setCell_other _ _ _ _ (by simp), World.cell?_setCell_other _ _ _ _ (by simp)]
  refine ⟨_, rfl, ((hb.setCell (by simp) _).setCell (by simp) _).setCell (by simp) _, hI.congr hc bI, hU.congr hc bU, bI.mono fun b h => h.1, bU.mono fun b h => h.1, ?_, ?_, ?_⟩
  · simpa using set_get (j := 2) (v := .slice U.a U.l.length U.c) (set_get (j := 1) (v := .slice I.a I.l.length I.c) (set_get (j := 0) (v := .int .i64 I.k) hw.r0))
  · simpa using set_get (j := 2) (v := .slice U.a U.l.length U.c) (set_get (j := 1) (v := .slice I.a I.l.length I.c) (set_get (j := 0) (v := .int .i64 I.k) hw.r1))
  · simpa using set_get (j := 2) (v := .slice U.a U.l.length U.c) (set_get (j := 1) (v := .slice I.a I.l.length I.c) (set_get (j := 0) (v := .int .i64 I.k) hw.r2))
set_option maxRecDepth 20000 in
set_option maxHeartbeats 1000000 in
theorem ruleOf_8 (Q : Nat → Prop) (x : TT) (p : Tr) (pb po pm pc : Nat) (ta : Option Addr) (tm tc : Nat) (w : World) (hm : 0 < pm) (c0 : w.cell? ⟨pb, po, none⟩ = some (.int .i64 p.k)) (c1 : w.cell? ⟨pb, po + 1, none⟩ = some (.slice p.a p.l.length p.c)) (hp : p.In w) (rp : p.right) (hQ : ∀ b, w.heap.size ≤ b → Q b) (bp : p.Bl Q) :
    Calls Tryd.prog 65 #[.agg #[.int .i64 8, .int .i64 x.n, .int .i64 x.t.k, .slice x.t.a x.t.l.length x.t.c, .int .i64 x.f.k, .slice x.f.a x.f.l.length x.f.c, .slice x.a x.l.length x.c], .slice (some ⟨pb, po, none⟩) pm pc, .slice ta tm tc] w (RuOut Q w (callY p.ty)) := by
  have hb0 := wRule_below 8 x w
  have hw0 := wRule_ok 8 x w
  have hz := wRule_size 8 x w
  have HC : Hid (Calls Tryd.prog 91 #[.agg #[.int .i64 p.k, .slice p.a p.l.length p.c]] (wRule 8 x w) (RuOut (fun b => Q b ∧ b ≠ w.heap.size + 1) (wRule 8 x w) (callY p.ty))) :=
    ruleOfCall_any _ p (wRule 8 x w) (hp.below hb0) rp (fun b hb => ⟨hQ b (by omega), by omega⟩) (bp.and (hp.bl.mono fun b hb => by omega))
  have d0 := cell_later hb0 c0
  have d1 := cell_later hb0 c1
  have i1 : (0 : Int) < (pm : Int) := by omega
  obtain ⟨W0, hW0⟩ : ∃ W0, W0 = wRule 8 x w := ⟨_, rfl⟩
  rw [← hW0] at hb0 hw0 hz HC
  unfold wRule at d0 d1 hW0
  clear c0 c1 hp rp bp
  go_enter Tryd.func65, Tryd.ntmps65
  go_wp2_with fail
  rw [← hW0]
  clear hW0 d0 d1
  refine HC.out.mono ?_
  rintro e w1 ⟨h1, ⟨hr, rfl⟩ | ⟨I, U, hr, rfl, iI, iU, bI, bU⟩⟩
  · have hw1 := hw0.below h1
    obtain ⟨_, r0, r1, r2, rf, _, _, _, _⟩ := hw1
    have f0 := rf 0
    have f1 := rf 1
    have f2 := rf 2
    have HE : Hid (RuOut Q w (callY p.ty) (.returned (.tuple #[.agg #[.int .i64 0, .slice none 0 0, .slice none 0 0], .bool false])) (((w1.setCell ⟨w.heap.size + 1, 0, none⟩ (.int .i64 0)).setCell ⟨w.heap.size + 1, 1, none⟩ (.slice none 0 0)).setCell ⟨w.heap.size + 1, 2, none⟩ (.slice none 0 0))) :=
      ⟨(((hb0.trans (h1.mono (by omega))).setCell (by simp) _).setCell (by simp) _).setCell (by simp) _, .inl ⟨hr, rfl⟩⟩
    clear hb0 h1 hz hr HC hw0
    go_wp2_with fail
    refine bodyPost_ret (v := .tuple #[.agg #[.int .i64 0, .slice none 0 0, .slice none 0 0], .bool false]) ?_ rfl HE.out
    simp [results, Tryd.results65, go_sem, r0, r1, r2]
  · have hw1 := hw0.below h1
    have HS : Hid _ := RuOut.store (Q := Q) (hb0.trans (h1.mono (by omega))) hw1 iI iU bI bU
    obtain ⟨_, r0, r1, r2, rf, _, _, _, _⟩ := hw1
    have f0 := rf 0
    have f1 := rf 1
    have f2 := rf 2
    have HR : Hid (callY p.ty = some (I.ty, U.l.map Tr.ty)) := hr
    clear hb0 h1 hz hr HC hw0 iI iU bI bU
    go_wp2_with fail
    obtain ⟨W, hW, e1, e2, e3, e4, e5, e6, e7, e8⟩ := HS.out
    rw [← hW]
    clear hW
    refine bodyPost_ret (v := .tuple #[.agg #[.int .i64 I.k, .slice I.a I.l.length I.c, .slice U.a U.l.length U.c], .bool true]) ?_ rfl ⟨e1, .inr ⟨I, U, HR.out, rfl, e2, e3, e4, e5⟩⟩
    simp [results, Tryd.results65, go_sem, e6, e7, e8]
end Go.Proofs.YtnddkmccagiclaaDoor

/-
  What the calls of kind.goodWithin and kind.Good answer, at whatever tree lies in memory.
-/
namespace Go.Proofs.YtnddkmccagiclaaDoor
open Go.RowKit
set_option maxHeartbeats 400000 in
theorem within_zero (k : Int) (a : Option Addr) (c : Nat) (l : List Tr) (w : World) :
    Calls Tryd.prog 110 #[.agg #[.int .i64 k, .slice a l.length c], .int .i64 0] w fun e w' => e = .returned (.bool false) ∧ Below w.heap.size w w' := by
  go_enter Tryd.func110, Tryd.ntmps110
  go_wp2_with fail
  go_ret
  exact ⟨rfl, (Below.refl _ _).alloc (Nat.le_refl _) _⟩
set_option maxHeartbeats 400000 in
theorem within_leaf (n : Nat) (hn : n ≤ 1000) (k : Int) (hk : k = 0 ∨ k = 1 ∨ k = 2) (a : Option Addr) (c : Nat) (m : Nat) (w : World) :
    Calls Tryd.prog 110 #[.agg #[.int .i64 k, .slice a m c], .int .i64 ((n : Int) + 1)] w fun e w' => e = .returned (.bool ((m : Int) == 0)) ∧ Below w.heap.size w w' := by
  have h1 : (((n : Int) + 1) == 0) = false := by simp; omega
  rcases hk with rfl | rfl | rfl <;>
  · go_enter Tryd.func110, Tryd.ntmps110
    go_wp2_with fail
    go_ret
    exact ⟨rfl, (Below.refl _ _).alloc (Nat.le_refl _) _⟩
set_option maxHeartbeats 400000 in
theorem within_other (n : Nat) (hn : n ≤ 1000) (k : Int) (h0 : (k == 0) = false) (h1 : (k == 1) = false) (h2 : (k == 2) = false) (h3 : (k == 3) = false) (a : Option Addr) (c : Nat) (m : Nat) (w : World) :
    Calls Tryd.prog 110 #[.agg #[.int .i64 k, .slice a m c], .int .i64 ((n : Int) + 1)] w fun e w' => e = .returned (.bool false) ∧ Below w.heap.size w w' := by
  have hz : (((n : Int) + 1) == 0) = false := by simp; omega
  go_enter Tryd.func110, Tryd.ntmps110
  go_wp2_with fail
  go_ret
  exact ⟨rfl, (Below.refl _ _).alloc (Nat.le_refl _) _⟩
set_option maxHeartbeats 400000 in
theorem within_fun_no (n : Nat) (hn : n ≤ 1000) (a : Option Addr) (c : Nat) (m : Nat) (hm : ((m : Int) == 2) = false) (w : World) :
    Calls Tryd.prog 110 #[.agg #[.int .i64 3, .slice a m c], .int .i64 ((n : Int) + 1)] w fun e w' => e = .returned (.bool false) ∧ Below w.heap.size w w' := by
  have hz : (((n : Int) + 1) == 0) = false := by simp; omega
  go_enter Tryd.func110, Tryd.ntmps110
  go_wp2_with fail
  go_ret
  exact ⟨rfl, (Below.refl _ _).alloc (Nat.le_refl _) _⟩
set_option maxHeartbeats 400000 in
theorem within_fun (n : Nat) (hn : n ≤ 1000) (b o c : Nat) (kx ky : Int) (ax ay : Option Addr) (mx my cx cy : Nat) (gx gy : Bool) (w : World)
    (x0 : w.cell? ⟨b, o, none⟩ = some (.int .i64 kx)) (x1 : w.cell? ⟨b, o + 1, none⟩ = some (.slice ax mx cx))
    (y0 : w.cell? ⟨b, o + 2, none⟩ = some (.int .i64 ky)) (y1 : w.cell? ⟨b, o + 3, none⟩ = some (.slice ay my cy))
    (hx : Hid (∀ w', Below w.heap.size w w' → Calls Tryd.prog 110 #[.agg #[.int .i64 kx, .slice ax mx cx], .int .i64 (n : Int)] w' fun e w'' => e = .returned (.bool gx) ∧ Below w'.heap.size w' w''))
    (hy : Hid (∀ w', Below w.heap.size w w' → Calls Tryd.prog 110 #[.agg #[.int .i64 ky, .slice ay my cy], .int .i64 (n : Int)] w' fun e w'' => e = .returned (.bool gy) ∧ Below w'.heap.size w' w'')) :
    Calls Tryd.prog 110 #[.agg #[.int .i64 3, .slice (some ⟨b, o, none⟩) 2 c], .int .i64 ((n : Int) + 1)] w fun e w' => e = .returned (.bool (gx && gy)) ∧ Below w.heap.size w w' := by
  have hz : (((n : Int) + 1) == 0) = false := by simp; omega
  have lb : b < w.heap.size := World.block_lt_of_cell? _ _ x0
  cases gx
  · go_enter Tryd.func110, Tryd.ntmps110
    go_wp2_with fail
    refine (hx.out _ ((Below.refl _ _).alloc (Nat.le_refl _) _)).mono ?_
    rintro e w1 ⟨rfl, hb1⟩
    go_wp2_with fail
    go_ret
    exact ⟨rfl, ((Below.refl _ _).alloc (Nat.le_refl _) _).trans (hb1.mono (by simp))⟩
  · go_enter Tryd.func110, Tryd.ntmps110
    go_wp2_with fail
    refine (hx.out _ ((Below.refl _ _).alloc (Nat.le_refl _) _)).mono ?_
    rintro e w1 ⟨rfl, hb1⟩
    have hbw : Below w.heap.size w w1 := ((Below.refl _ _).alloc (Nat.le_refl _) _).trans (hb1.mono (by simp))
    have b1 : w1.cell? ⟨w.heap.size, 1, none⟩ = some (.slice (some ⟨b, o, none⟩) 2 c) := cell_later hb1 (by simp [go_sem])
    have y0' := cell_later hbw y0
    have y1' := cell_later hbw y1
    go_wp2_with fail
    refine (hy.out _ hbw).mono ?_
    rintro e w2 ⟨rfl, hb2⟩
    go_wp2_with fail
    go_ret
    exact ⟨by simp, hbw.trans (hb2.mono hbw.size)⟩
theorem within_zero' (t : Tr) (w : World) : Calls Tryd.prog 110 #[.agg #[.int .i64 t.k, .slice t.a t.l.length t.c], .int .i64 0] w fun e w' => e = .returned (.bool (goodT 0 t)) ∧ Below w.heap.size w w' := by
  refine (within_zero t.k t.a t.c t.l w).mono ?_
  rintro e w' ⟨rfl, hb⟩
  exact ⟨by simp [goodT], hb⟩
theorem within_any (n : Nat) : n ≤ 1000 → ∀ (t : Tr) (w : World), t.In w →
    Calls Tryd.prog 110 #[.agg #[.int .i64 t.k, .slice t.a t.l.length t.c], .int .i64 (n : Int)] w fun e w' => e = .returned (.bool (goodT n t)) ∧ Below w.heap.size w w' := by
  induction n with
  | zero =>
    intro _ t w _
    have e : ((0 : Nat) : Int) = 0 := rfl
    rw [e]
    exact within_zero' t w
  | succ n ih =>
    intro hn ⟨k, a, c, l⟩ w hin
    have e : ((n + 1 : Nat) : Int) = (n : Int) + 1 := by omega
    rw [e]
    dsimp only
    by_cases hk : k = 0 ∨ k = 1 ∨ k = 2
    · refine (within_leaf n (by omega) k hk a c l.length w).mono ?_
      rintro e w' ⟨rfl, hb⟩
      refine ⟨?_, hb⟩
      have e3 : (k == 3) = false := by simp; omega
      have eo : (k == 0 || k == 1 || k == 2) = true := by simpa [or_assoc] using hk
      match l with
      | [] => simp [goodT, eo]
      | [x] => simp [goodT]
      | [x, y] => simp [goodT, e3]
      | x :: y :: z :: r => simp [goodT]; omega
    · have h0 : (k == 0) = false := by simp; omega
      have h1 : (k == 1) = false := by simp; omega
      have h2 : (k == 2) = false := by simp; omega
      by_cases h3 : k = 3
      · subst h3
        match l, hin with
        | [], hin => exact within_fun_no n (by omega) a c 0 (by decide) w
        | [x], hin => exact within_fun_no n (by omega) a c 1 (by decide) w
        | x :: y :: z :: r, hin =>
          refine (within_fun_no n (by omega) a c (x :: y :: z :: r).length (by simp; omega) w).mono ?_
          rintro e w' ⟨rfl, hb⟩
          exact ⟨by simp [goodT], hb⟩
        | [x, y], hin =>
          obtain ⟨b, o, e0, x0, x1, hx⟩ := hin.at 0 (by simp)
          obtain ⟨b', o', e1, y0, y1, hy⟩ := hin.at 1 (by simp)
          rw [e0] at e1
          obtain ⟨rfl, rfl⟩ : b = b' ∧ o = o' := by simpa using e1
          subst e0
          refine (within_fun n (by omega) b o c x.k y.k x.a y.a x.l.length y.l.length x.c y.c (goodT n x) (goodT n y) w (by simpa using x0) (by simpa using x1) (by simpa using y0) (by simpa using y1)
            (fun w' hb => ih (by omega) x w' (hx.below hb)) (fun w' hb => ih (by omega) y w' (hy.below hb))).mono ?_
          rintro e w' ⟨rfl, hb⟩
          exact ⟨by simp [goodT], hb⟩
      · refine (within_other n (by omega) k h0 h1 h2 (by simpa using h3) a c l.length w).mono ?_
        rintro e w' ⟨rfl, hb⟩
        refine ⟨?_, hb⟩
        have e3 : (k == 3) = false := by simpa using h3
        match l with
        | [] => simp [goodT, h0, h1, h2]
        | [x] => simp [goodT]
        | [x, y] => simp [goodT, e3]
        | x :: y :: z :: r => simp [goodT]
set_option maxHeartbeats 400000 in
/-- kind.Good. -/
theorem good_any (t : Tr) (w : World) (hin : t.In w) :
    Calls Tryd.prog 97 #[.agg #[.int .i64 t.k, .slice t.a t.l.length t.c]] w fun e w' => e = .returned (.bool (goodT 4 t)) ∧ Below w.heap.size w w' := by
  have hw := within_any 4 (by omega) t
  have HW : Hid (∀ (w : World), t.In w → Calls Tryd.prog 110 #[.agg #[.int .i64 t.k, .slice t.a t.l.length t.c], .int .i64 4] w fun e w' => e = .returned (.bool (goodT 4 t)) ∧ Below w.heap.size w w') := hw
  clear hw
  go_enter Tryd.func97, Tryd.ntmps97
  go_wp2_with fail
  refine (HW.out _ (hin.below ((Below.refl _ _).alloc (Nat.le_refl _) _))).mono ?_
  rintro e w1 ⟨rfl, hb1⟩
  go_wp2_with fail
  go_ret
  exact ⟨rfl, ((Below.refl _ _).alloc (Nat.le_refl _) _).trans (hb1.mono (by simp))⟩
end Go.Proofs.YtnddkmccagiclaaDoor

/-
  What the calls of truthOf, typeKindOf, tellsType and isSpace answer.
-/
namespace Go.Proofs.YtnddkmccagiclaaDoor
open Go.RowKit
set_option maxHeartbeats 400000 in
theorem tells_any (k : Int) (w : World) : Calls Tryd.prog 52 #[.int .i64 k] w fun e w' => e = .returned (.bool (tells k)) ∧ w' = w := by
  cases h7 : (k == 7) with
  | true =>
    go_enter Tryd.func52, Tryd.ntmps52
    go_wp2_with fail
    go_ret
    exact ⟨by simp [tells, h7], rfl⟩
  | false =>
    go_enter Tryd.func52, Tryd.ntmps52
    go_wp2_with fail
    go_ret
    exact ⟨by simp [tells, h7], rfl⟩
end Go.Proofs.YtnddkmccagiclaaDoor

/-
  What the calls of term.isAny, term.goodTypes and (*walk).goodNumber answer, at whatever term lies in memory.
-/
namespace Go.Proofs.YtnddkmccagiclaaDoor
open Go.RowKit
theorem below_dN {B : Nat} {a w : World} (h : Below B a w) (n : Nat) : Below B a (w.drewN n) := ⟨h.os, h.tape, h.output, h.size, h.block⟩
set_option maxHeartbeats 400000 in
theorem same_top (x y : Tr) (rp : Option Addr) (w : World) (ht : Hid ((x.k == y.k && (x.l.length : Int) == (y.l.length : Int)) = false)) :
    Calls Tryd.prog 48 #[.agg #[.int .i64 x.k, .slice x.a x.l.length x.c], .agg #[.int .i64 y.k, .slice y.a y.l.length y.c], .int .i64 1000, .pointer rp] w fun e w' => e = .returned (.bool false) ∧ Below w.heap.size w w' := by
  go_enter Tryd.func48, Tryd.ntmps48
  go_wp2_with fail
  refine (alike_any _ _ _ _ _ _ _ _ false ht.out _).mono ?_
  rintro e w1 ⟨rfl, hb1⟩
  go_wp2_with fail
  go_ret
  exact ⟨rfl, (((Below.refl _ _).alloc (Nat.le_refl _) _).alloc (by simp) _).trans (hb1.mono (by simp; omega))⟩
set_option maxHeartbeats 400000 in
theorem same_by (x y : Tr) (r : Bool) (w : World) (hx : x.In w) (hy : y.In w)
    (HC : Hid (∀ (rp : Option Addr) (w : World), x.In w → y.In w → Calls Tryd.prog 48 #[.agg #[.int .i64 x.k, .slice x.a x.l.length x.c], .agg #[.int .i64 y.k, .slice y.a y.l.length y.c], .int .i64 1000, .pointer rp] w fun e w' => e = .returned (.bool r) ∧ Below w.heap.size w w')) :
    Calls Tryd.prog 27 #[.agg #[.int .i64 x.k, .slice x.a x.l.length x.c], .agg #[.int .i64 y.k, .slice y.a y.l.length y.c]] w fun e w' => e = .returned (.bool r) ∧ Below w.heap.size w w' := by
  have HH : Hid (∀ (w : World), x.In w → y.In w → Calls Tryd.prog 46 #[.func (.func 48) #[] #[], .agg #[.int .i64 x.k, .slice x.a x.l.length x.c], .agg #[.int .i64 y.k, .slice y.a y.l.length y.c]] w fun e w' => e = .returned (.bool r) ∧ Below w.heap.size w w') := fun w h1 h2 => holds_31 x y r w h1 h2 HC
  clear HC
  go_enter Tryd.func27, Tryd.ntmps27
  go_wp2_with fail
  have hb0 : Below w.heap.size w ((w.alloc (Obj.cells #[.int .i64 x.k, .slice x.a x.l.length x.c] 24)).alloc (Obj.cells #[.int .i64 y.k, .slice y.a y.l.length y.c] 24)) := ((Below.refl _ _).alloc (Nat.le_refl _) _).alloc (by simp) _
  refine (HH.out _ (hx.below hb0) (hy.below hb0)).mono ?_
  rintro e w1 ⟨rfl, hb1⟩
  have hb2 := hb0.trans (hb1.mono (by simp; omega))
  clear hb0 hb1
  go_wp2_with fail
  go_ret
  exact ⟨rfl, hb2⟩
theorem ret_bool {a b : Bool} (h : a = b) : Ending.returned (.bool a) = .returned (.bool b) := by rw [h]
theorem leaf_ty (k : Int) : (leaf k).ty = ⟨k, []⟩ := by simp [leaf, Tr.ty_mk]
/-- kind.Same of any type and Any. -/
theorem same_any0 (x : Tr) (w : World) (hx : x.In w) :
    Calls Tryd.prog 27 #[.agg #[.int .i64 x.k, .slice x.a x.l.length x.c], .agg #[.int .i64 0, .slice none 0 0]] w fun e w' => e = .returned (.bool (isAnyY x.ty)) ∧ Below w.heap.size w w' := by
  have e0 : isAnyY x.ty = relY escSame x.ty (leaf 0).ty := by rw [leaf_ty]; rfl
  rw [e0]
  by_cases ht : (x.k == (leaf 0).k && (x.l.length : Int) == ((leaf 0).l.length : Int)) = false
  · have hr : relY escSame x.ty (leaf 0).ty = false := relY_top escSame x (leaf 0) rfl ht
    rw [hr]
    exact same_by x (leaf 0) false w hx (leaf_in 0 w) (fun rp w h1 h2 => same_top x (leaf 0) rp w ht)
  · have hl : x.l = [] := by
      simp [leaf] at ht
      exact ht.2
    have hh : x.hgt ≤ 1000 := by
      obtain ⟨k, a, c, l⟩ := x
      dsimp only at hl
      subst hl
      rw [Tr.hgt_mk]
      simp
    have hs : x.sm := by
      obtain ⟨k, a, c, l⟩ := x
      dsimp only at hl
      subst hl
      exact Tr.sm_mk.2 ⟨by simp, fun t h => by cases h⟩
    exact same_whole x (leaf 0) w hx (leaf_in 0 w) hh hs
set_option maxHeartbeats 400000 in
/-- term.isAny. -/
theorem isAny_any (x : Tr) (w : World) (hx : x.In w) :
    Calls Tryd.prog 96 #[.agg #[.int .i64 x.k, .slice x.a x.l.length x.c]] w fun e w' => e = .returned (.bool (isAnyY x.ty)) ∧ Below w.heap.size w w' := by
  have HC : Hid (∀ w, x.In w → Calls Tryd.prog 27 #[.agg #[.int .i64 x.k, .slice x.a x.l.length x.c], .agg #[.int .i64 0, .slice none 0 0]] w fun e w' => e = .returned (.bool (isAnyY x.ty)) ∧ Below w.heap.size w w') := same_any0 x
  go_enter Tryd.func96, Tryd.ntmps96
  go_wp2_with fail
  have hb0 : Below w.heap.size w (w.alloc (Obj.cells #[.int .i64 x.k, .slice x.a x.l.length x.c] 24)) := (Below.refl _ _).alloc (Nat.le_refl _) _
  refine (HC.out _ (hx.below hb0)).mono ?_
  rintro e w1 ⟨rfl, hb1⟩
  have hb2 := hb0.trans (hb1.mono (by simp))
  clear hb0 hb1
  go_wp2_with fail
  go_ret
  exact ⟨rfl, hb2⟩
set_option maxHeartbeats 1000000 in
/-- term.goodTypes. -/
theorem goodTypes_any (x : TT) (w : World) (ht : x.t.In w) (hf : x.f.In w) :
    Calls Tryd.prog 79 #[.agg #[.int .i64 x.k, .int .i64 x.n, .int .i64 x.t.k, .slice x.t.a x.t.l.length x.t.c, .int .i64 x.f.k, .slice x.f.a x.f.l.length x.f.c, .slice x.a x.l.length x.c]] w fun e w' => e = .returned (.bool (okTypes x.k x.t.ty x.f.ty)) ∧ Below w.heap.size w w' := by
  have HF : Hid (∀ w, x.f.In w → Calls Tryd.prog 96 #[.agg #[.int .i64 x.f.k, .slice x.f.a x.f.l.length x.f.c]] w fun e w' => e = .returned (.bool (isAnyY x.f.ty)) ∧ Below w.heap.size w w') := isAny_any x.f
  have HT : Hid (∀ w, x.t.In w → Calls Tryd.prog 96 #[.agg #[.int .i64 x.t.k, .slice x.t.a x.t.l.length x.t.c]] w fun e w' => e = .returned (.bool (isAnyY x.t.ty)) ∧ Below w.heap.size w w') := isAny_any x.t
  have HG : Hid (∀ w, x.t.In w → Calls Tryd.prog 97 #[.agg #[.int .i64 x.t.k, .slice x.t.a x.t.l.length x.t.c]] w fun e w' => e = .returned (.bool (goodY 4 x.t.ty)) ∧ Below w.heap.size w w') := by
    intro w h
    have := good_any x.t w h
    rw [goodT_eq] at this
    exact this
  have HK : Hid (∀ w, Calls Tryd.prog 52 #[.int .i64 x.k] w fun e w' => e = .returned (.bool (tells x.k)) ∧ w' = w) := tells_any x.k
  obtain ⟨bf, hbf⟩ : ∃ b, isAnyY x.f.ty = b := ⟨_, rfl⟩
  obtain ⟨bt, hbt⟩ : ∃ b, tells x.k = b := ⟨_, rfl⟩
  have HO : Hid (okTypes x.k x.t.ty x.f.ty = (bf && (if bt = true then goodY 4 x.t.ty else isAnyY x.t.ty))) := by show _ = _; rw [okTypes, hbf, hbt]
  rw [hbf] at HF
  rw [hbt] at HK
  clear hbf hbt
  have hb0 : Below w.heap.size w (w.alloc (Obj.cells #[.int .i64 x.k, .int .i64 x.n, .int .i64 x.t.k, .slice x.t.a x.t.l.length x.t.c, .int .i64 x.f.k, .slice x.f.a x.f.l.length x.f.c, .slice x.a x.l.length x.c] 27)) := (Below.refl _ _).alloc (Nat.le_refl _) _
  cases bf
  · go_enter Tryd.func79, Tryd.ntmps79
    go_wp2_with fail
    refine (HF.out _ (hf.below hb0)).mono ?_
    rintro e w1 ⟨rfl, hb1⟩
    have hb2 := hb0.trans (hb1.mono (by simp))
    clear hb0 hb1
    go_wp2_with fail
    go_ret
    exact ⟨by rw [HO.out]; rfl, hb2⟩
  · go_enter Tryd.func79, Tryd.ntmps79
    go_wp2_with fail
    refine (HF.out _ (hf.below hb0)).mono ?_
    rintro e w1 ⟨rfl, hb1⟩
    have hb2 := hb0.trans (hb1.mono (by simp))
    have q0 : w1.cell? ⟨w.heap.size, 0, none⟩ = some (.int .i64 x.k) := cell_later hb1 (by simp [go_sem])
    have q2 : w1.cell? ⟨w.heap.size, 2, none⟩ = some (.int .i64 x.t.k) := cell_later hb1 (by simp [go_sem])
    have q3 : w1.cell? ⟨w.heap.size, 3, none⟩ = some (.slice x.t.a x.t.l.length x.t.c) := cell_later hb1 (by simp [go_sem])
    clear hb0 hb1
    go_wp2_with fail
    refine (HK.out _).mono ?_
    rintro e w' ⟨rfl, rfl⟩
    cases bt
    · go_wp2_with fail
      refine (HT.out _ (ht.below hb2)).mono ?_
      rintro e w2 ⟨rfl, hb3⟩
      have hb4 := hb2.trans (hb3.mono hb2.size)
      clear hb3 hb2
      go_wp2_with fail
      go_ret
      exact ⟨by rw [HO.out]; rfl, hb4⟩
    · go_wp2_with fail
      refine (HG.out _ (ht.below hb2)).mono ?_
      rintro e w2 ⟨rfl, hb3⟩
      have hb4 := hb2.trans (hb3.mono hb2.size)
      clear hb3 hb2
      go_wp2_with fail
      go_ret
      exact ⟨by rw [HO.out]; rfl, hb4⟩
set_option maxHeartbeats 1000000 in
/-- (*walk).goodNumber. -/
theorem goodNumber_any (R : Nat) (ar : Int) (ins : Nat) (hi : ins ≤ 1000) (x : TT) (hn : x.n ≤ 9223372036854775807) (w : World) (hr : w.cell? ⟨R, 0, none⟩ = some (.int .i64 ar)) :
    Calls Tryd.prog 80 #[.pointer (some ⟨R, 0, none⟩), .agg #[.int .i64 x.k, .int .i64 x.n, .int .i64 x.t.k, .slice x.t.a x.t.l.length x.t.c, .int .i64 x.f.k, .slice x.f.a x.f.l.length x.f.c, .slice x.a x.l.length x.c], .int .i64 (ins : Int)] w fun e w' => e = .returned (.bool (okNum ar (ins : Int) x.k x.n)) ∧ Below w.heap.size w w' := by
  have hRl : R < w.heap.size := World.block_lt_of_cell? _ _ hr
  by_cases h1 : x.k = 1
  · have hk : (x.k == 1) = true := by simp [h1]
    by_cases h0 : 0 ≤ x.n
    · have hd : decide (0 ≤ x.n) = true := by simp [h0]
      have HO : Hid (okNum ar (ins : Int) x.k x.n = decide (x.n - (ins : Int) < ar)) := by show _ = _; rw [okNum, if_pos h1, hd, Bool.true_and]
      clear h1
      go_enter Tryd.func80, Tryd.ntmps80
      go_wp2_with fail
      go_quiet (fail)
      go_wp2_with fail
      go_ret
      exact ⟨ret_bool HO.out.symm, below_dN ((Below.refl _ _).alloc (Nat.le_refl _) _) _⟩
    · have hd : decide (0 ≤ x.n) = false := by simpa using h0
      have HO : Hid (okNum ar (ins : Int) x.k x.n = false) := by show _ = _; rw [okNum, if_pos h1, hd, Bool.false_and]
      clear h1
      go_enter Tryd.func80, Tryd.ntmps80
      go_wp2_with fail
      go_quiet (fail)
      go_wp2_with fail
      go_ret
      exact ⟨ret_bool HO.out.symm, below_dN ((Below.refl _ _).alloc (Nat.le_refl _) _) _⟩
  · have hk1 : (x.k == 1) = false := by simpa using h1
    by_cases h2 : x.k = 2
    · have hk2 : (x.k == 2) = true := by simp [h2]
      by_cases h0 : -1000000 ≤ x.n
      · have hd : decide (-1000000 ≤ x.n) = true := by simp [h0]
        have HO : Hid (okNum ar (ins : Int) x.k x.n = decide (x.n ≤ 1000000)) := by show _ = _; rw [okNum, if_neg h1, if_pos h2, hd, Bool.true_and]
        clear h1 h2
        go_enter Tryd.func80, Tryd.ntmps80
        go_wp2_with fail
        go_ret
        exact ⟨ret_bool HO.out.symm, (Below.refl _ _).alloc (Nat.le_refl _) _⟩
      · have hd : decide (-1000000 ≤ x.n) = false := by simpa using h0
        have HO : Hid (okNum ar (ins : Int) x.k x.n = false) := by show _ = _; rw [okNum, if_neg h1, if_pos h2, hd, Bool.false_and]
        clear h1 h2
        go_enter Tryd.func80, Tryd.ntmps80
        go_wp2_with fail
        go_ret
        exact ⟨ret_bool HO.out.symm, (Below.refl _ _).alloc (Nat.le_refl _) _⟩
    · have hk2 : (x.k == 2) = false := by simpa using h2
      by_cases h3 : x.k = 3
      · have hk3 : (x.k == 3) = true := by simp [h3]
        cases h0 : (x.n == 0) with
        | true =>
          have HO : Hid (okNum ar (ins : Int) x.k x.n = true) := by show _ = _; rw [okNum, if_neg h1, if_neg h2, if_pos h3, h0, Bool.true_or]
          clear h1 h2 h3
          go_enter Tryd.func80, Tryd.ntmps80
          go_wp2_with fail
          go_ret
          exact ⟨ret_bool HO.out.symm, (Below.refl _ _).alloc (Nat.le_refl _) _⟩
        | false =>
          have HO : Hid (okNum ar (ins : Int) x.k x.n = (x.n == 1)) := by show _ = _; rw [okNum, if_neg h1, if_neg h2, if_pos h3, h0, Bool.false_or]
          clear h1 h2 h3
          go_enter Tryd.func80, Tryd.ntmps80
          go_wp2_with fail
          go_ret
          exact ⟨ret_bool HO.out.symm, (Below.refl _ _).alloc (Nat.le_refl _) _⟩
      · have hk3 : (x.k == 3) = false := by simpa using h3
        have HO : Hid (okNum ar (ins : Int) x.k x.n = (x.n == 0)) := by show _ = _; rw [okNum, if_neg h1, if_neg h2, if_neg h3]
        clear h1 h2 h3
        go_enter Tryd.func80, Tryd.ntmps80
        go_wp2_with fail
        go_ret
        exact ⟨ret_bool HO.out.symm, (Below.refl _ _).alloc (Nat.le_refl _) _⟩
end Go.Proofs.YtnddkmccagiclaaDoor

/-
  What the call of check's ruleOf answers at If and Fn: drawn regions.
-/
namespace Go.Proofs.YtnddkmccagiclaaDoor
open Go.RowKit
/-- A rule, or none, in letters. -/
theorem RuOut.letters {Q : Nat → Prop} {w w' : World} {r : Option (Ty × List Ty)} {e : Ending} (h : RuOut Q w r e w') :
    ∃ (I U : Tr) (b : Bool), e = .returned (.tuple #[.agg #[.int .i64 I.k, .slice I.a I.l.length I.c, .slice U.a U.l.length U.c], .bool b]) ∧ Below w.heap.size w w' ∧ I.In w' ∧ U.In w' ∧ I.Bl Q ∧ U.Bl Q ∧ ((b = false ∧ r = none ∧ I = leaf 0 ∧ U = leaf 0) ∨ (b = true ∧ r = some (I.ty, U.l.map Tr.ty))) := by
  obtain ⟨hb, ⟨hr, rfl⟩ | ⟨I, U, hr, rfl, iI, iU, bI, bU⟩⟩ := h
  · exact ⟨leaf 0, leaf 0, false, rfl, hb, leaf_in _ _, leaf_in _ _, leaf_bl _ _, leaf_bl _ _, .inl ⟨rfl, hr, rfl, rfl⟩⟩
  · exact ⟨I, U, true, rfl, hb, iI, iU, bI, bU, .inr ⟨rfl, hr⟩⟩
theorem RuOut.of {Q : Nat → Prop} {w w' : World} {r : Option (Ty × List Ty)} {I U : Tr} {b : Bool} (hb : Below w.heap.size w w') (iI : I.In w') (iU : U.In w') (bI : I.Bl Q) (bU : U.Bl Q) (h : (b = false ∧ r = none ∧ I = leaf 0 ∧ U = leaf 0) ∨ (b = true ∧ r = some (I.ty, U.l.map Tr.ty))) :
    RuOut Q w r (.returned (.tuple #[.agg #[.int .i64 I.k, .slice I.a I.l.length I.c, .slice U.a U.l.length U.c], .bool b])) w' := by
  rcases h with ⟨rfl, rfl, rfl, rfl⟩ | ⟨rfl, hr⟩
  · exact ⟨hb, .inl ⟨rfl, rfl⟩⟩
  · exact ⟨hb, .inr ⟨I, U, hr, rfl, iI, iU, bI, bU⟩⟩
set_option maxRecDepth 20000 in
set_option maxHeartbeats 1000000 in
theorem ruleOf_6 (Q : Nat → Prop) (x : TT) (p q : Tr) (pb po pm pc : Nat) (ta : Option Addr) (tm tc : Nat) (w : World) (hm : 2 < pm) (c0 : w.cell? ⟨pb, po + 2, none⟩ = some (.int .i64 p.k)) (c1 : w.cell? ⟨pb, po + 3, none⟩ = some (.slice p.a p.l.length p.c)) (c2 : w.cell? ⟨pb, po + 4, none⟩ = some (.int .i64 q.k)) (c3 : w.cell? ⟨pb, po + 5, none⟩ = some (.slice q.a q.l.length q.c)) (hp : p.In w) (hq : q.In w) (rp : p.right) (rq : q.right) (hh : p.hgt ≤ 1000) (hs : p.sm) (hQ : ∀ b, w.heap.size ≤ b → Q b) :
    Calls Tryd.prog 65 #[.agg #[.int .i64 6, .int .i64 x.n, .int .i64 x.t.k, .slice x.t.a x.t.l.length x.t.c, .int .i64 x.f.k, .slice x.f.a x.f.l.length x.f.c, .slice x.a x.l.length x.c], .slice (some ⟨pb, po, none⟩) pm pc, .slice ta tm tc] w (RuOut Q w (ifY ⟨2, []⟩ p.ty q.ty)) := by
  have hb0 := (wRule_below 6 x w).drew
  have hw0 : WR 6 x w.heap.size (wRule 6 x w).drew := (wRule_ok 6 x w).below ((Below.refl _ _).drew)
  have hz : (wRule 6 x w).drew.heap.size = w.heap.size + 1 + 1 + 1 + 1 := wRule_size 6 x w
  have HC : Hid (Calls Tryd.prog 89 #[.agg #[.int .i64 2, .slice none 0 0], .agg #[.int .i64 p.k, .slice p.a p.l.length p.c], .agg #[.int .i64 q.k, .slice q.a q.l.length q.c]] (wRule 6 x w).drew (RuOut (fun b => Q b ∧ b ≠ w.heap.size + 1) (wRule 6 x w).drew (ifY ⟨2, []⟩ p.ty q.ty))) := by
    have := ruleOfIf_any (fun b => Q b ∧ b ≠ w.heap.size + 1) (leaf 2) p q (wRule 6 x w).drew (leaf_in _ _) (hp.below hb0) (hq.below hb0) rp rq hh hs (fun b hb => ⟨hQ b (by omega), by omega⟩) (leaf_bl _ _)
    rw [leaf_ty] at this
    exact this
  have d0 := cell_later hb0 c0
  have d1 := cell_later hb0 c1
  have d2 := cell_later hb0 c2
  have d3 := cell_later hb0 c3
  have i1 : (1 : Int) < (pm : Int) := by omega
  have i2 : (2 : Int) < (pm : Int) := by omega
  have j1 : 1 < pm := by omega
  obtain ⟨W0, hW0⟩ : ∃ W0, W0 = wRule 6 x w := ⟨_, rfl⟩
  rw [← hW0] at hb0 hw0 hz HC d0 d1 d2 d3
  unfold wRule at hW0
  clear c0 c1 c2 c3 hp hq rp rq hh hs
  obtain ⟨_, r0, r1, r2, rf, _, _, b0, b1⟩ := id hw0
  have f0 := rf 0
  have f1 := rf 1
  have f2 := rf 2
  have HB : Hid (Below w.heap.size w W0.drew ∧ WR 6 x w.heap.size W0.drew ∧ W0.drew.heap.size = w.heap.size + 1 + 1 + 1 + 1) := ⟨hb0, hw0, hz⟩
  clear hb0 hw0 hz
  go_enter Tryd.func65, Tryd.ntmps65
  go_wp2_with fail
  rw [← hW0]
  clear hW0
  go_region_law
    (first
      | (go_simp; go_at_call 89; refine HC.out.mono ?_; rintro e w1 hR; obtain ⟨I, U, b, rfl, h1, iI, iU, bI, bU, hr⟩ := hR.letters; have hw1 := HB.out.2.1.below h1; obtain ⟨_, r0, r1, r2, rf, _, _, _, _⟩ := id hw1; have f0 := rf 0; have f1 := rf 1; have f2 := rf 2; go_wp2_with fail))
  all_goals
    have HS : Hid _ := RuOut.store (Q := Q) (HB.out.1.trans (h1.mono (by have := HB.out.2.2; omega))) hw1 iI iU bI bU
    have HR : Hid _ := hr
    clear h1 HC HB hw1 iI iU bI bU hR hr
    go_wp2_with fail
    obtain ⟨W, hW, e1, e2, e3, e4, e5, e6, e7, e8⟩ := HS.out
    rw [← hW]
    clear hW
    refine bodyPost_ret (v := .tuple #[.agg #[.int .i64 I.k, .slice I.a I.l.length I.c, .slice U.a U.l.length U.c], .bool b]) ?_ rfl (RuOut.of e1 e2 e3 e4 e5 HR.out)
    simp [results, Tryd.results65, go_sem, e6, e7, e8]
set_option maxRecDepth 20000 in
set_option maxHeartbeats 1000000 in
theorem ruleOf_7 (Q : Nat → Prop) (x : TT) (p : Tr) (pb po pc : Nat) (ta : Option Addr) (tm tc : Nat) (w : World) (c0 : w.cell? ⟨pb, po, none⟩ = some (.int .i64 p.k)) (c1 : w.cell? ⟨pb, po + 1, none⟩ = some (.slice p.a p.l.length p.c)) (hp : p.In w) (ht : x.t.In w) (bp : p.Bl Q) (bt : x.t.Bl Q) (hpb : Q pb) (hQ : ∀ b, w.heap.size ≤ b → Q b) :
    Calls Tryd.prog 65 #[.agg #[.int .i64 7, .int .i64 x.n, .int .i64 x.t.k, .slice x.t.a x.t.l.length x.t.c, .int .i64 x.f.k, .slice x.f.a x.f.l.length x.f.c, .slice x.a x.l.length x.c], .slice (some ⟨pb, po, none⟩) 1 pc, .slice ta tm tc] w (RuOut Q w (some (⟨3, [x.t.ty, p.ty]⟩, [p.ty]))) := by
  have hb0 := (wRule_below 7 x w).drew
  have hw0 : WR 7 x w.heap.size (wRule 7 x w).drew := (wRule_ok 7 x w).below ((Below.refl _ _).drew)
  have hz : (wRule 7 x w).drew.heap.size = w.heap.size + 1 + 1 + 1 + 1 := wRule_size 7 x w
  have hU : (Tr.mk 0 (some ⟨pb, po, none⟩) pc [p]).In w := by
    refine Tr.In_mk.2 ⟨fun j h => ?_, fun t h => ?_⟩
    · have hj : j = 0 := by simpa using h
      subst hj
      exact ⟨pb, po, rfl, by simpa using c0, by simpa [Tr.sl] using c1⟩
    · have : t = p := by simpa using h
      subst this; exact hp
  have lpb : pb < w.heap.size := World.block_lt_of_cell? _ _ c0
  have hUb : (Tr.mk 0 (some ⟨pb, po, none⟩) pc [p]).Bl fun b => Q b ∧ b ≠ w.heap.size + 1 := by
    refine Tr.Bl_mk.2 ⟨fun _ y hy => ?_, fun t h => ?_⟩
    · cases hy; exact ⟨hpb, by show pb ≠ _; omega⟩
    · have : t = p := by simpa using h
      subst this; exact bp.and (hp.bl.mono fun b hb => by omega)
  have HC : Hid (Calls Tryd.prog 90 #[.agg #[.int .i64 x.t.k, .slice x.t.a x.t.l.length x.t.c], .agg #[.int .i64 p.k, .slice p.a p.l.length p.c]] (wRule 7 x w).drew fun e w' => ∃ I : Tr, e = .returned (.agg #[.int .i64 I.k, .slice I.a I.l.length I.c]) ∧ I.ty = ⟨3, [x.t.ty, p.ty]⟩ ∧ I.In w' ∧ (I.Bl fun b => Q b ∧ b ≠ w.heap.size + 1) ∧ Below (wRule 7 x w).drew.heap.size (wRule 7 x w).drew w') := by
    refine (to_any x.t p (wRule 7 x w).drew (ht.below hb0) (hp.below hb0)).mono ?_
    rintro e w' ⟨g, hg, rfl, hin, hb⟩
    refine ⟨⟨3, some ⟨g, 0, none⟩, 2, [x.t, p]⟩, rfl, by simp [Tr.ty_mk], hin, Tr.Bl_two ⟨hQ g (by omega), by omega⟩ (bt.and (ht.bl.mono fun b hb => by omega)) (bp.and (hp.bl.mono fun b hb => by omega)), hb⟩
  have HU : Hid ((Tr.mk 0 (some ⟨pb, po, none⟩) pc [p]).In (wRule 7 x w).drew ∧ (Tr.mk 0 (some ⟨pb, po, none⟩) pc [p]).Bl fun b => Q b ∧ b ≠ w.heap.size + 1) := ⟨hU.below hb0, hUb⟩
  have d0 := cell_later hb0 c0
  have d1 := cell_later hb0 c1
  obtain ⟨W0, hW0⟩ : ∃ W0, W0 = wRule 7 x w := ⟨_, rfl⟩
  rw [← hW0] at hb0 hw0 hz HC HU d0 d1
  unfold wRule at hW0
  clear c0 c1 hp ht bp bt hU hUb hQ
  obtain ⟨⟨_, _, t2, t3, _, _, _⟩, r0, r1, r2, rf, _, _, _, _⟩ := id hw0
  have f0 := rf 0
  have f1 := rf 1
  have f2 := rf 2
  have HB : Hid (Below w.heap.size w W0.drew ∧ WR 7 x w.heap.size W0.drew ∧ W0.drew.heap.size = w.heap.size + 1 + 1 + 1 + 1) := ⟨hb0, hw0, hz⟩
  clear hb0 hw0 hz
  go_enter Tryd.func65, Tryd.ntmps65
  go_wp2_with fail
  rw [← hW0]
  clear hW0
  go_region_law
    (first
      | (go_simp; go_at_call 90; refine HC.out.mono ?_; rintro e w1 ⟨I, rfl, hty, iI, bI, h1⟩; have hw1 := HB.out.2.1.below h1; obtain ⟨_, r0, r1, r2, rf, _, _, _, _⟩ := id hw1; have f0 := rf 0; have f1 := rf 1; have f2 := rf 2; go_wp2_with fail))
  all_goals
    have HS : Hid _ := RuOut.store (Q := Q) (HB.out.1.trans (h1.mono (by have := HB.out.2.2; omega))) hw1 iI (HU.out.1.below h1) bI HU.out.2
    have HR : Hid (some ((⟨3, [x.t.ty, p.ty]⟩ : Ty), [p.ty]) = some (I.ty, (Tr.mk 0 (some ⟨pb, po, none⟩) pc [p]).l.map Tr.ty)) := by rw [hty]; exact rfl
    clear h1 HC HB HU hw1 iI bI hty
    go_wp2_with fail
    obtain ⟨W, hW, e1, e2, e3, e4, e5, e6, e7, e8⟩ := HS.out
    have hW' : W = (((w1.setCell ⟨w.heap.size + 1, 0, none⟩ (.int .i64 I.k)).setCell ⟨w.heap.size + 1, 1, none⟩ (.slice I.a I.l.length I.c)).setCell ⟨w.heap.size + 1, 2, none⟩ (.slice (some ⟨pb, po, none⟩) 1 pc)) := hW
    rw [← hW']
    clear hW hW'
    refine bodyPost_ret (v := .tuple #[.agg #[.int .i64 I.k, .slice I.a I.l.length I.c, .slice (some ⟨pb, po, none⟩) 1 pc], .bool true]) ?_ rfl (RuOut.of (U := ⟨0, some ⟨pb, po, none⟩, pc, [p]⟩) e1 e2 e3 e4 e5 (.inr ⟨rfl, HR.out⟩))
    have e8' : W.cell? ⟨w.heap.size + 1, 2, none⟩ = some (.slice (some ⟨pb, po, none⟩) 1 pc) := e8
    simp [results, Tryd.results65, go_sem, e6, e7, e8']
end Go.Proofs.YtnddkmccagiclaaDoor

/-
  What the call of check's ruleOf answers, at every kind that a good term has.
-/
namespace Go.Proofs.YtnddkmccagiclaaDoor
open Go.RowKit
/-- The rule of a term: by its kind, number and type, the types of its parts, and what the functions around it take. -/
def ruleY (k n : Int) (t : Ty) (ps takes : List Ty) : Option (Ty × List Ty) :=
  if k = 1 then some (takes.getD n.toNat ⟨0, []⟩, [])
  else if k = 2 then some (⟨1, []⟩, [])
  else if k = 3 then some (⟨2, []⟩, [])
  else if k = 4 then some (⟨1, []⟩, [⟨1, []⟩, ⟨1, []⟩])
  else if k = 5 then some (⟨2, []⟩, [⟨1, []⟩, ⟨1, []⟩])
  else if k = 6 then ifY ⟨2, []⟩ (ps.getD 1 ⟨0, []⟩) (ps.getD 2 ⟨0, []⟩)
  else if k = 7 then some (⟨3, [t, ps.getD 0 ⟨0, []⟩]⟩, ps)
  else if k = 8 then callY (ps.getD 0 ⟨0, []⟩)
  else if k = 9 then some (t, [t])
  else none
theorem bl_one {Q : Nat → Prop} {g c : Nat} {x : Tr} (h : Q g) (hx : x.Bl Q) : (Tr.mk 0 (some ⟨g, 0, none⟩) c [x]).Bl Q := by
  refine Tr.Bl_mk.2 ⟨fun _ y hy => by cases hy; exact h, fun t ht => ?_⟩
  have : t = x := by simpa using ht
  subst this; exact hx
theorem In_one {w : World} {g c : Nat} {x : Tr} (c0 : w.cell? ⟨g, 0, none⟩ = some (.int .i64 x.k)) (c1 : w.cell? ⟨g, 1, none⟩ = some (.slice x.a x.l.length x.c)) (hx : x.In w) : (Tr.mk 0 (some ⟨g, 0, none⟩) c [x]).In w := by
  refine Tr.In_mk.2 ⟨fun j h => ?_, fun t ht => ?_⟩
  · have hj : j = 0 := by simpa using h
    subst hj
    exact ⟨g, 0, rfl, by simpa using c0, by simpa [Tr.sl] using c1⟩
  · have : t = x := by simpa using ht
    subst this; exact hx
theorem ruleOf_any (Q : Nat → Prop) (x : TT) (p T : Tr) (w : World) (h1 : 1 ≤ x.k) (h9 : x.k ≤ 9) (hp : p.l.length = partsOf x.k) (hn : x.k = 1 → 0 ≤ x.n ∧ x.n < (T.l.length : Int))
    (ht : x.t.In w) (bt : x.t.Bl Q) (ip : p.In w) (bp : p.Bl Q) (iT : T.In w) (bT : T.Bl Q) (hok : ∀ t, t ∈ p.l → t.right ∧ t.hgt ≤ 1000 ∧ t.sm) (hQ : ∀ b, w.heap.size ≤ b → Q b) :
    Calls Tryd.prog 65 #[.agg #[.int .i64 x.k, .int .i64 x.n, .int .i64 x.t.k, .slice x.t.a x.t.l.length x.t.c, .int .i64 x.f.k, .slice x.f.a x.f.l.length x.f.c, .slice x.a x.l.length x.c], .slice p.a p.l.length p.c, .slice T.a T.l.length T.c] w (RuOut Q w (ruleY x.k x.n x.t.ty (p.l.map Tr.ty) (T.l.map Tr.ty))) := by
  have hk : x.k = 1 ∨ x.k = 2 ∨ x.k = 3 ∨ x.k = 4 ∨ x.k = 5 ∨ x.k = 6 ∨ x.k = 7 ∨ x.k = 8 ∨ x.k = 9 := by omega
  rcases hk with e | e | e | e | e | e | e | e | e
  · obtain ⟨m, hm⟩ : ∃ m : Nat, x.n = (m : Int) := ⟨x.n.toNat, by have := hn e; omega⟩
    have hlt : m < T.l.length := by have := hn e; omega
    obtain ⟨b, o, ea, c0, c1, hi⟩ := iT.part m hlt
    have hbt : T.l[m].Bl Q := by
      obtain ⟨k, a, c, l⟩ := T
      exact (Tr.Bl_mk.1 bT).2 _ (List.getElem_mem hlt)
    rw [e, hm, ea]
    refine (ruleOf_1 x m hm p.a p.l.length p.c b o T.l.length T.c hlt T.l[m] w c0 c1).mono ?_
    rintro e w' ⟨rfl, hb⟩
    exact ⟨hb, .inr ⟨T.l[m], leaf 0, by simp [ruleY, leaf, hlt], rfl, hi.below hb, leaf_in _ _, hbt, leaf_bl _ _⟩⟩
  · rw [e]
    refine (ruleOf_2 x p.a T.a p.l.length p.c T.l.length T.c w).mono ?_
    rintro e w' ⟨rfl, hb⟩
    exact ⟨hb, .inr ⟨leaf 1, leaf 0, by simp [ruleY, leaf, Tr.ty_mk], rfl, leaf_in _ _, leaf_in _ _, leaf_bl _ _, leaf_bl _ _⟩⟩
  · rw [e]
    refine (ruleOf_3 x p.a T.a p.l.length p.c T.l.length T.c w).mono ?_
    rintro e w' ⟨rfl, hb⟩
    exact ⟨hb, .inr ⟨leaf 2, leaf 0, by simp [ruleY, leaf, Tr.ty_mk], rfl, leaf_in _ _, leaf_in _ _, leaf_bl _ _, leaf_bl _ _⟩⟩
  · rw [e]
    refine (ruleOf_4 x p.a T.a p.l.length p.c T.l.length T.c w).mono ?_
    rintro e w' ⟨g, hg, rfl, c0, c1, c2, c3, hb⟩
    exact ⟨hb, .inr ⟨leaf 1, ⟨0, some ⟨g, 0, none⟩, 2, [leaf 1, leaf 1]⟩, by simp [ruleY, leaf, Tr.ty_mk], rfl, leaf_in _ _, Tr.In_two c0 c1 c2 c3 (leaf_in _ _) (leaf_in _ _), leaf_bl _ _, Tr.Bl_two (hQ g hg) (leaf_bl _ _) (leaf_bl _ _)⟩⟩
  · rw [e]
    refine (ruleOf_5 x p.a T.a p.l.length p.c T.l.length T.c w).mono ?_
    rintro e w' ⟨g, hg, rfl, c0, c1, c2, c3, hb⟩
    exact ⟨hb, .inr ⟨leaf 2, ⟨0, some ⟨g, 0, none⟩, 2, [leaf 1, leaf 1]⟩, by simp [ruleY, leaf, Tr.ty_mk], rfl, leaf_in _ _, Tr.In_two c0 c1 c2 c3 (leaf_in _ _) (leaf_in _ _), leaf_bl _ _, Tr.Bl_two (hQ g hg) (leaf_bl _ _) (leaf_bl _ _)⟩⟩
  · have hl : p.l.length = 3 := by rw [hp, e]; rfl
    obtain ⟨b, o, ea, c0, c1, hi1⟩ := ip.part 1 (by omega)
    obtain ⟨b', o', eb, d0, d1, hi2⟩ := ip.part 2 (by omega)
    rw [ea] at eb
    cases eb
    have o1 := hok _ (List.getElem_mem (show 1 < p.l.length by omega))
    have o2 := hok _ (List.getElem_mem (show 2 < p.l.length by omega))
    have he : ruleY 6 x.n x.t.ty (p.l.map Tr.ty) (T.l.map Tr.ty) = ifY ⟨2, []⟩ (p.l[1]'(by omega)).ty (p.l[2]'(by omega)).ty := by
      simp [ruleY, hl]
    rw [e, ea, he]
    exact ruleOf_6 Q x _ _ b o p.l.length p.c T.a T.l.length T.c w (by omega) c0 c1 d0 d1 hi1 hi2 o1.1 o2.1 o1.2.1 o1.2.2 hQ
  · have hl : p.l.length = 1 := by rw [hp, e]; rfl
    obtain ⟨q, hq⟩ : ∃ q, p.l = [q] := List.length_eq_one_iff.1 hl
    obtain ⟨b, o, ea, c0, c1, hi⟩ := ip.part 0 (by omega)
    have hq0 : p.l[0]'(by omega) = q := by simp [hq]
    rw [hq0] at c0 c1 hi
    have hbp : q.Bl Q ∧ Q b := by
      obtain ⟨k, a, c, l⟩ := p
      dsimp only at hq ea
      subst hq ea
      exact ⟨(Tr.Bl_mk.1 bp).2 _ (by simp), (Tr.Bl_mk.1 bp).1 (by simp) _ rfl⟩
    have he : ruleY 7 x.n x.t.ty (p.l.map Tr.ty) (T.l.map Tr.ty) = some (⟨3, [x.t.ty, q.ty]⟩, [q.ty]) := by
      simp [ruleY, hq]
    rw [e, ea, he, hl]
    exact ruleOf_7 Q x q b o p.c T.a T.l.length T.c w (by simpa using c0) (by simpa using c1) hi ht hbp.1 bt hbp.2 hQ
  · have hl : p.l.length = 2 := by rw [hp, e]; rfl
    obtain ⟨b, o, ea, c0, c1, hi⟩ := ip.part 0 (by omega)
    have o1 := hok _ (List.getElem_mem (show 0 < p.l.length by omega))
    have hbp : (p.l[0]'(by omega)).Bl Q := by
      obtain ⟨k, a, c, l⟩ := p
      exact (Tr.Bl_mk.1 bp).2 _ (List.getElem_mem (by dsimp only at hl; omega))
    have he : ruleY 8 x.n x.t.ty (p.l.map Tr.ty) (T.l.map Tr.ty) = callY (p.l[0]'(by omega)).ty := by
      simp [ruleY, hl]
    rw [e, ea, he]
    exact ruleOf_8 Q x _ b o p.l.length p.c T.a T.l.length T.c w (by omega) (by simpa using c0) (by simpa using c1) hi o1.1 hQ hbp
  · rw [e]
    refine (ruleOf_9 x p.a T.a p.l.length p.c T.l.length T.c w).mono ?_
    rintro e w' ⟨g, hg, rfl, c0, c1, hb⟩
    exact ⟨hb, .inr ⟨x.t, ⟨0, some ⟨g, 0, none⟩, 1, [x.t]⟩, by simp [ruleY], rfl, ht.below hb, In_one c0 c1 (ht.below hb), bt, bl_one (hQ g hg) bt⟩⟩
end Go.Proofs.YtnddkmccagiclaaDoor

/-
  Readings (a number, a term, a type) and rows of them; what the call of check's allFit answers.
-/
namespace Go.Proofs.YtnddkmccagiclaaDoor
open Go.RowKit
structure Rd where
  n : Int
  y : TT
  i : Tr
/-- A reading's ten cells. -/
structure At10 (w : World) (b o : Nat) (r : Rd) : Prop where
  n : w.cell? ⟨b, o, none⟩ = some (.int .i64 r.n)
  y : At7 w b (o + 1) r.y
  k : w.cell? ⟨b, o + 8, none⟩ = some (.int .i64 r.i.k)
  l : w.cell? ⟨b, o + 9, none⟩ = some (.slice r.i.a r.i.l.length r.i.c)
theorem At10.below {w w' : World} {b o : Nat} {r : Rd} (hb : Below w.heap.size w w') (h : At10 w b o r) : At10 w' b o r :=
  ⟨cell_later hb h.n, h.y.below hb, cell_later hb h.k, cell_later hb h.l⟩
/-- A row of readings lies in the world. -/
def RL (w : World) (a : Option Addr) (rs : List Rd) : Prop :=
  ∀ j (h : j < rs.length), ∃ b o, a = some ⟨b, o, none⟩ ∧ At10 w b (o + j * 10) rs[j] ∧ rs[j].y.In w ∧ rs[j].i.In w
theorem RL.below {w w' : World} {a : Option Addr} {rs : List Rd} (hb : Below w.heap.size w w') (h : RL w a rs) : RL w' a rs := by
  intro j hj
  obtain ⟨b, o, e, h1, h2, h3⟩ := h j hj
  exact ⟨b, o, e, h1.below hb, h2.below hb, h3.below hb⟩
def fitL : List Ty → List Ty → Bool
  | x :: r, y :: s => relY escFits x y && fitL r s
  | _, _ => true
theorem fitL_all : ∀ (l m : List Ty), (∀ j (h : j < l.length) (h' : j < m.length), relY escFits l[j] m[j] = true) → fitL l m = true
  | [], _, _ => by simp [fitL]
  | _ :: _, [], _ => by simp [fitL]
  | x :: r, y :: s, h => by
    simp only [fitL, Bool.and_eq_true]
    exact ⟨h 0 (by simp) (by simp), fitL_all r s fun j h1 h2 => h (j + 1) (by simpa using h1) (by simpa using h2)⟩
theorem fitL_not : ∀ (l m : List Ty) (j : Nat) (h : j < l.length) (h' : j < m.length), relY escFits l[j] m[j] = false → fitL l m = false
  | [], _, _, h, _, _ => by simp at h
  | _ :: _, [], _, _, h', _ => by simp at h'
  | x :: r, y :: s, 0, _, _, e => by simp only [List.getElem_cons_zero] at e; simp [fitL, e]
  | x :: r, y :: s, j + 1, h, h', e => by simp only [fitL, fitL_not r s j (by simpa using h) (by simpa using h') (by simpa using e), Bool.and_false]
set_option maxRecDepth 20000 in
set_option maxHeartbeats 1000000 in
/-- allFit. -/
theorem allFit_any (rs : List Rd) (a : Option Addr) (c : Nat) (U : Tr) (w : World) (hr : RL w a rs) (hU : U.In w) (hl : rs.length = U.l.length) (h3 : rs.length ≤ 1000) (hok : ∀ r, r ∈ rs → r.i.hgt ≤ 1000 ∧ r.i.sm) :
    Calls Tryd.prog 67 #[.slice a rs.length c, .slice U.a U.l.length U.c] w fun e w' => e = .returned (.bool (fitL (rs.map fun r => r.i.ty) (U.l.map Tr.ty))) ∧ Below w.heap.size w w' := by
  have HF : Hid (∀ j (h : j < rs.length) (h' : j < U.l.length) (W : World), rs[j].i.In W → U.l[j].In W → Calls Tryd.prog 26 #[.agg #[.int .i64 rs[j].i.k, .slice rs[j].i.a rs[j].i.l.length rs[j].i.c], .agg #[.int .i64 U.l[j].k, .slice U.l[j].a U.l[j].l.length U.l[j].c]] W fun e w' => e = .returned (.bool (relY escFits rs[j].i.ty U.l[j].ty)) ∧ Below W.heap.size W w') :=
    fun j h h' W h1 h2 => fits_whole _ _ W h1 h2 (hok _ (List.getElem_mem h)).1 (hok _ (List.getElem_mem h)).2
  have HR : Hid (RL w a rs) := hr
  have HU : Hid (U.In w) := hU
  have HL : Hid (rs.length = U.l.length) := hl
  clear hr hU hl hok
  go_enter Tryd.func67, Tryd.ntmps67
  go_wp2_with fail
  go_loopg [9] rs.length (fun g i wr => ∃ (j : Nat), g + j = rs.length ∧ i = .int .i64 (j : Int) ∧ Hid (Below w.heap.size w wr ∧ ∀ q (h : q < rs.length) (h' : q < U.l.length), q < j → relY escFits rs[q].i.ty U.l[q].ty = true))
  case atStart => exact ⟨0, by omega, rfl, Below.refl _ _, fun q _ _ h => absurd h (by omega)⟩
  case round =>
    obtain ⟨j, hj, rfl, HQ⟩ := hrel
    by_cases hlt : j < rs.length
    · have hlt' : j < U.l.length := HL.out ▸ hlt
      obtain ⟨b, o, ea, h10, hy, hi⟩ := HR.out j hlt
      obtain ⟨b', o', eb, u0, u1, hu⟩ := HU.out.part j hlt'
      have hb := HQ.out.1
      have h11 := h10.below hb
      obtain ⟨d0, ⟨d1, d2, d3, d4, d5, d6, d7⟩, d8, d9⟩ := h11
      replace u0 := cell_later hb u0
      replace u1 := cell_later hb u1
      have i1 : (j : Int) < (rs.length : Int) := by omega
      have i2 : (j : Int) < (U.l.length : Int) := by omega
      have i0 : (0 : Int) ≤ (j : Int) := by omega
      have HEA : Hid (a = some ⟨b, o, none⟩) := ea
      have HEB : Hid (U.a = some ⟨b', o', none⟩) := eb
      rw [ea, eb]
      clear ea eb
      have hB0 : (wr.alloc (.cells #[.int .i64 rs[j].n, .int .i64 rs[j].y.k, .int .i64 rs[j].y.n, .int .i64 rs[j].y.t.k, .slice rs[j].y.t.a rs[j].y.t.l.length rs[j].y.t.c, .int .i64 rs[j].y.f.k, .slice rs[j].y.f.a rs[j].y.f.l.length rs[j].y.f.c, .slice rs[j].y.a rs[j].y.l.length rs[j].y.c, .int .i64 rs[j].i.k, .slice rs[j].i.a rs[j].i.l.length rs[j].i.c] 63)).cell? ⟨wr.heap.size, 8, none⟩ = some (.int .i64 rs[j].i.k) := by simp [go_sem]
      have hB1 : (wr.alloc (.cells #[.int .i64 rs[j].n, .int .i64 rs[j].y.k, .int .i64 rs[j].y.n, .int .i64 rs[j].y.t.k, .slice rs[j].y.t.a rs[j].y.t.l.length rs[j].y.t.c, .int .i64 rs[j].y.f.k, .slice rs[j].y.f.a rs[j].y.f.l.length rs[j].y.f.c, .slice rs[j].y.a rs[j].y.l.length rs[j].y.c, .int .i64 rs[j].i.k, .slice rs[j].i.a rs[j].i.l.length rs[j].i.c] 63)).cell? ⟨wr.heap.size, 9, none⟩ = some (.slice rs[j].i.a rs[j].i.l.length rs[j].i.c) := by simp [go_sem]
      have hbA : Below wr.heap.size wr (wr.alloc (.cells #[.int .i64 rs[j].n, .int .i64 rs[j].y.k, .int .i64 rs[j].y.n, .int .i64 rs[j].y.t.k, .slice rs[j].y.t.a rs[j].y.t.l.length rs[j].y.t.c, .int .i64 rs[j].y.f.k, .slice rs[j].y.f.a rs[j].y.f.l.length rs[j].y.f.c, .slice rs[j].y.a rs[j].y.l.length rs[j].y.c, .int .i64 rs[j].i.k, .slice rs[j].i.a rs[j].i.l.length rs[j].i.c] 63)) := (Below.refl _ _).alloc (Nat.le_refl _) _
      have v0 := cell_later hbA u0
      have v1 := cell_later hbA u1
      have hbE : Below w.heap.size w (wr.alloc (.cells #[.int .i64 rs[j].n, .int .i64 rs[j].y.k, .int .i64 rs[j].y.n, .int .i64 rs[j].y.t.k, .slice rs[j].y.t.a rs[j].y.t.l.length rs[j].y.t.c, .int .i64 rs[j].y.f.k, .slice rs[j].y.f.a rs[j].y.f.l.length rs[j].y.f.c, .slice rs[j].y.a rs[j].y.l.length rs[j].y.c, .int .i64 rs[j].i.k, .slice rs[j].i.a rs[j].i.l.length rs[j].i.c] 63)) := hb.trans (hbA.mono hb.size)
      have hi1 := hi.below hbE
      have hu1 := hu.below hbE
      have HFC := HF.out j hlt hlt'
      clear hbA u0 u1 hi hu h10 hy
      obtain ⟨r, hrr⟩ : ∃ r, relY escFits rs[j].i.ty U.l[j].ty = r := ⟨_, rfl⟩
      rw [hrr] at HFC
      have HC : Hid (∀ (W : World), rs[j].i.In W → U.l[j].In W → Calls Tryd.prog 26 #[.agg #[.int .i64 rs[j].i.k, .slice rs[j].i.a rs[j].i.l.length rs[j].i.c], .agg #[.int .i64 U.l[j].k, .slice U.l[j].a U.l[j].l.length U.l[j].c]] W fun e w' => e = .returned (.bool r) ∧ Below W.heap.size W w') := HFC
      have HRR : Hid (relY escFits rs[j].i.ty U.l[j].ty = r) := hrr
      have HI : Hid (rs[j].i.In (wr.alloc (.cells #[.int .i64 rs[j].n, .int .i64 rs[j].y.k, .int .i64 rs[j].y.n, .int .i64 rs[j].y.t.k, .slice rs[j].y.t.a rs[j].y.t.l.length rs[j].y.t.c, .int .i64 rs[j].y.f.k, .slice rs[j].y.f.a rs[j].y.f.l.length rs[j].y.f.c, .slice rs[j].y.a rs[j].y.l.length rs[j].y.c, .int .i64 rs[j].i.k, .slice rs[j].i.a rs[j].i.l.length rs[j].i.c] 63)) ∧ U.l[j].In (wr.alloc (.cells #[.int .i64 rs[j].n, .int .i64 rs[j].y.k, .int .i64 rs[j].y.n, .int .i64 rs[j].y.t.k, .slice rs[j].y.t.a rs[j].y.t.l.length rs[j].y.t.c, .int .i64 rs[j].y.f.k, .slice rs[j].y.f.a rs[j].y.f.l.length rs[j].y.f.c, .slice rs[j].y.a rs[j].y.l.length rs[j].y.c, .int .i64 rs[j].i.k, .slice rs[j].i.a rs[j].i.l.length rs[j].i.c] 63)) ∧ Below w.heap.size w (wr.alloc (.cells #[.int .i64 rs[j].n, .int .i64 rs[j].y.k, .int .i64 rs[j].y.n, .int .i64 rs[j].y.t.k, .slice rs[j].y.t.a rs[j].y.t.l.length rs[j].y.t.c, .int .i64 rs[j].y.f.k, .slice rs[j].y.f.a rs[j].y.f.l.length rs[j].y.f.c, .slice rs[j].y.a rs[j].y.l.length rs[j].y.c, .int .i64 rs[j].i.k, .slice rs[j].i.a rs[j].i.l.length rs[j].i.c] 63))) := ⟨hi1, hu1, hbE⟩
      clear HFC hrr hi1 hu1 hbE
      go_wp2_with fail
      clear d0 d1 d2 d3 d4 d5 d6 d7 d8 d9
      generalize (wr.alloc (.cells #[.int .i64 rs[j].n, .int .i64 rs[j].y.k, .int .i64 rs[j].y.n, .int .i64 rs[j].y.t.k, .slice rs[j].y.t.a rs[j].y.t.l.length rs[j].y.t.c, .int .i64 rs[j].y.f.k, .slice rs[j].y.f.a rs[j].y.f.l.length rs[j].y.f.c, .slice rs[j].y.a rs[j].y.l.length rs[j].y.c, .int .i64 rs[j].i.k, .slice rs[j].i.a rs[j].i.l.length rs[j].i.c] 63)) = WA at *
      go_region_held3 (fun w' => w'.cell? ⟨wr.heap.size, 8, none⟩ = some (.int .i64 rs[j].i.k) ∧ w'.cell? ⟨wr.heap.size, 9, none⟩ = some (.slice rs[j].i.a rs[j].i.l.length rs[j].i.c) ∧ w'.cell? ⟨b', o' + j * 2, none⟩ = some (.int .i64 U.l[j].k) ∧ w'.cell? ⟨b', o' + j * 2 + 1, none⟩ = some (.slice U.l[j].a U.l[j].l.length U.l[j].c)) (first | exact ⟨cell_later hb2 hB0, cell_later hb2 hB1, cell_later hb2 v0, cell_later hb2 v1⟩ | go_keep) (first | (go_at_call 26; refine (HC.out _ (HI.out.1.below ((Below.refl _ _).drew)) (HI.out.2.1.below ((Below.refl _ _).drew))).mono ?_; rintro e w2 ⟨rfl, hb2⟩))
      have hbr2 : Below w.heap.size w w2 := HI.out.2.2.drew.trans (hb2.mono HI.out.2.2.size)
      cases r
      · have HE : Hid (fitL (rs.map fun r => r.i.ty) (U.l.map Tr.ty) = false ∧ Below w.heap.size w w2) := ⟨fitL_not _ _ j (by simpa using hlt) (by simpa using hlt') (by simpa using HRR.out), hbr2⟩
        clear hb2 hbr2 HI HQ hB0 hB1 v0 v1
        go_wp2_with fail
        go_ret
        exact ⟨ret_bool HE.out.1.symm, HE.out.2⟩
      · have HN : Hid (Below w.heap.size w w2 ∧ ∀ q (h : q < rs.length) (h' : q < U.l.length), q < j + 1 → relY escFits rs[q].i.ty U.l[q].ty = true) := by
          refine ⟨hbr2, fun q h h' hq => ?_⟩
          by_cases e : q = j
          · subst e; exact HRR.out
          · exact HQ.out.2 q h h' (by omega)
        clear hb2 hbr2 HI HQ hB0 hB1 v0 v1
        go_wp2_with fail
        rw [← HEA.out, ← HEB.out]
        go_roundg (rs.length - (j + 1))
        case measure => omega
        case rel => exact ⟨j + 1, by omega, by go_num, HN⟩
    · have HE : Hid (fitL (rs.map fun r => r.i.ty) (U.l.map Tr.ty) = true ∧ Below w.heap.size w wr) :=
        ⟨fitL_all _ _ fun q h h' => by simpa using HQ.out.2 q (by simpa using h) (by simpa using h') (by have : q < rs.length := (by simpa using h); omega), HQ.out.1⟩
      clear HQ
      go_wp2_with fail
      go_ret
      exact ⟨ret_bool HE.out.1.symm, HE.out.2⟩
end Go.Proofs.YtnddkmccagiclaaDoor
