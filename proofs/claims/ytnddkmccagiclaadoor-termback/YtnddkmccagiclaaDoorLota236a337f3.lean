/-
  What the calls of term.isAny, term.goodTypes and (*walk).goodNumber answer, at whatever term lies in memory.
-/
import Derived.Test.YtnddkmccagiclaaDoorLotf3903b603a
import Derived.Test.YtnddkmccagiclaaDoorLot6084a0127f
import Derived.BigQuiet
import Derived.Deep.QuietTactic
import Derived.WalkSmall
import Derived.Deep.AppendLies
import Derived.Deep.RegionLaw
import Derived.Deep.LoopGhost
import Derived.Deep.AppendSrc
namespace Go.Proofs.YtnddkmccagiclaaDoor
open Go.RowKit

theorem below_dN {B : Nat} {a w : World} (h : Below B a w) (n : Nat) : Below B a (w.drewN n) := ⟨h.os, h.tape, h.output, h.size, h.block⟩

set_option maxHeartbeats 400000 in
theorem same_top (x y : Tr) (rp : Option Addr) (w : World) (ht : Hid ((x.k == y.k && (x.l.length : Int) == (y.l.length : Int)) = false)) :
    Calls Tryd.prog 48 #[.agg #[.int .i64 x.k, .slice x.a x.l.length x.c], .agg #[.int .i64 y.k, .slice y.a y.l.length y.c], .int .i64 1000, .pointer rp] w fun e w' => e = .returned (.bool false) ∧ Below w.heap.size w w' := by
  go_enter Tryd.func48, Tryd.ntmps48
  go_wp2_with fail
  refine (alike_any _ _ _ _ _ _ _ _ false ht.out _).mono ?_
  rintro e w1 ⟨rfl, hb1⟩
  go_wp2_with fail
  go_ret
  exact ⟨rfl, (((Below.refl _ _).alloc (Nat.le_refl _) _).alloc (by simp) _).trans (hb1.mono (by simp; omega))⟩

set_option maxHeartbeats 400000 in
theorem same_by (x y : Tr) (r : Bool) (w : World) (hx : x.In w) (hy : y.In w)
    (HC : Hid (∀ (rp : Option Addr) (w : World), x.In w → y.In w → Calls Tryd.prog 48 #[.agg #[.int .i64 x.k, .slice x.a x.l.length x.c], .agg #[.int .i64 y.k, .slice y.a y.l.length y.c], .int .i64 1000, .pointer rp] w fun e w' => e = .returned (.bool r) ∧ Below w.heap.size w w')) :
    Calls Tryd.prog 27 #[.agg #[.int .i64 x.k, .slice x.a x.l.length x.c], .agg #[.int .i64 y.k, .slice y.a y.l.length y.c]] w fun e w' => e = .returned (.bool r) ∧ Below w.heap.size w w' := by
  have HH : Hid (∀ (w : World), x.In w → y.In w → Calls Tryd.prog 46 #[.func (.func 48) #[] #[], .agg #[.int .i64 x.k, .slice x.a x.l.length x.c], .agg #[.int .i64 y.k, .slice y.a y.l.length y.c]] w fun e w' => e = .returned (.bool r) ∧ Below w.heap.size w w') := fun w h1 h2 => holds_31 x y r w h1 h2 HC
  clear HC
  go_enter Tryd.func27, Tryd.ntmps27
  go_wp2_with fail
  have hb0 : Below w.heap.size w ((w.alloc (Obj.cells #[.int .i64 x.k, .slice x.a x.l.length x.c] 24)).alloc (Obj.cells #[.int .i64 y.k, .slice y.a y.l.length y.c] 24)) := ((Below.refl _ _).alloc (Nat.le_refl _) _).alloc (by simp) _
  refine (HH.out _ (hx.below hb0) (hy.below hb0)).mono ?_
  rintro e w1 ⟨rfl, hb1⟩
  have hb2 := hb0.trans (hb1.mono (by simp; omega))
  clear hb0 hb1
  go_wp2_with fail
  go_ret
  exact ⟨rfl, hb2⟩

theorem ret_bool {a b : Bool} (h : a = b) : Ending.returned (.bool a) = .returned (.bool b) := by rw [h]

theorem leaf_ty (k : Int) : (leaf k).ty = ⟨k, []⟩ := by simp [leaf, Tr.ty_mk]

/-- kind.Same of any type and Any. -/
theorem same_any0 (x : Tr) (w : World) (hx : x.In w) :
    Calls Tryd.prog 27 #[.agg #[.int .i64 x.k, .slice x.a x.l.length x.c], .agg #[.int .i64 0, .slice none 0 0]] w fun e w' => e = .returned (.bool (isAnyY x.ty)) ∧ Below w.heap.size w w' := by
  have e0 : isAnyY x.ty = relY escSame x.ty (leaf 0).ty := by rw [leaf_ty]; rfl
  rw [e0]
  by_cases ht : (x.k == (leaf 0).k && (x.l.length : Int) == ((leaf 0).l.length : Int)) = false
  · have hr : relY escSame x.ty (leaf 0).ty = false := relY_top escSame x (leaf 0) rfl ht
    rw [hr]
    exact same_by x (leaf 0) false w hx (leaf_in 0 w) (fun rp w h1 h2 => same_top x (leaf 0) rp w ht)
  · have hl : x.l = [] := by
      simp [leaf] at ht
      exact ht.2
    have hh : x.hgt ≤ 1000 := by
      obtain ⟨k, a, c, l⟩ := x
      dsimp only at hl
      subst hl
      rw [Tr.hgt_mk]
      simp
    have hs : x.sm := by
      obtain ⟨k, a, c, l⟩ := x
      dsimp only at hl
      subst hl
      exact Tr.sm_mk.2 ⟨by simp, fun t h => by cases h⟩
    exact same_whole x (leaf 0) w hx (leaf_in 0 w) hh hs

set_option maxHeartbeats 400000 in
/-- term.isAny. -/
theorem isAny_any (x : Tr) (w : World) (hx : x.In w) :
    Calls Tryd.prog 96 #[.agg #[.int .i64 x.k, .slice x.a x.l.length x.c]] w fun e w' => e = .returned (.bool (isAnyY x.ty)) ∧ Below w.heap.size w w' := by
  have HC : Hid (∀ w, x.In w → Calls Tryd.prog 27 #[.agg #[.int .i64 x.k, .slice x.a x.l.length x.c], .agg #[.int .i64 0, .slice none 0 0]] w fun e w' => e = .returned (.bool (isAnyY x.ty)) ∧ Below w.heap.size w w') := same_any0 x
  go_enter Tryd.func96, Tryd.ntmps96
  go_wp2_with fail
  have hb0 : Below w.heap.size w (w.alloc (Obj.cells #[.int .i64 x.k, .slice x.a x.l.length x.c] 24)) := (Below.refl _ _).alloc (Nat.le_refl _) _
  refine (HC.out _ (hx.below hb0)).mono ?_
  rintro e w1 ⟨rfl, hb1⟩
  have hb2 := hb0.trans (hb1.mono (by simp))
  clear hb0 hb1
  go_wp2_with fail
  go_ret
  exact ⟨rfl, hb2⟩

set_option maxHeartbeats 1000000 in
/-- term.goodTypes. -/
theorem goodTypes_any (x : TT) (w : World) (ht : x.t.In w) (hf : x.f.In w) :
    Calls Tryd.prog 79 #[.agg #[.int .i64 x.k, .int .i64 x.n, .int .i64 x.t.k, .slice x.t.a x.t.l.length x.t.c, .int .i64 x.f.k, .slice x.f.a x.f.l.length x.f.c, .slice x.a x.l.length x.c]] w fun e w' => e = .returned (.bool (okTypes x.k x.t.ty x.f.ty)) ∧ Below w.heap.size w w' := by
  have HF : Hid (∀ w, x.f.In w → Calls Tryd.prog 96 #[.agg #[.int .i64 x.f.k, .slice x.f.a x.f.l.length x.f.c]] w fun e w' => e = .returned (.bool (isAnyY x.f.ty)) ∧ Below w.heap.size w w') := isAny_any x.f
  have HT : Hid (∀ w, x.t.In w → Calls Tryd.prog 96 #[.agg #[.int .i64 x.t.k, .slice x.t.a x.t.l.length x.t.c]] w fun e w' => e = .returned (.bool (isAnyY x.t.ty)) ∧ Below w.heap.size w w') := isAny_any x.t
  have HG : Hid (∀ w, x.t.In w → Calls Tryd.prog 97 #[.agg #[.int .i64 x.t.k, .slice x.t.a x.t.l.length x.t.c]] w fun e w' => e = .returned (.bool (goodY 4 x.t.ty)) ∧ Below w.heap.size w w') := by
    intro w h
    have := good_any x.t w h
    rw [goodT_eq] at this
    exact this
  have HK : Hid (∀ w, Calls Tryd.prog 52 #[.int .i64 x.k] w fun e w' => e = .returned (.bool (tells x.k)) ∧ w' = w) := tells_any x.k
  obtain ⟨bf, hbf⟩ : ∃ b, isAnyY x.f.ty = b := ⟨_, rfl⟩
  obtain ⟨bt, hbt⟩ : ∃ b, tells x.k = b := ⟨_, rfl⟩
  have HO : Hid (okTypes x.k x.t.ty x.f.ty = (bf && (if bt = true then goodY 4 x.t.ty else isAnyY x.t.ty))) := by show _ = _; rw [okTypes, hbf, hbt]
  rw [hbf] at HF
  rw [hbt] at HK
  clear hbf hbt
  have hb0 : Below w.heap.size w (w.alloc (Obj.cells #[.int .i64 x.k, .int .i64 x.n, .int .i64 x.t.k, .slice x.t.a x.t.l.length x.t.c, .int .i64 x.f.k, .slice x.f.a x.f.l.length x.f.c, .slice x.a x.l.length x.c] 27)) := (Below.refl _ _).alloc (Nat.le_refl _) _
  cases bf
  · go_enter Tryd.func79, Tryd.ntmps79
    go_wp2_with fail
    refine (HF.out _ (hf.below hb0)).mono ?_
    rintro e w1 ⟨rfl, hb1⟩
    have hb2 := hb0.trans (hb1.mono (by simp))
    clear hb0 hb1
    go_wp2_with fail
    go_ret
    exact ⟨by rw [HO.out]; rfl, hb2⟩
  · go_enter Tryd.func79, Tryd.ntmps79
    go_wp2_with fail
    refine (HF.out _ (hf.below hb0)).mono ?_
    rintro e w1 ⟨rfl, hb1⟩
    have hb2 := hb0.trans (hb1.mono (by simp))
    have q0 : w1.cell? ⟨w.heap.size, 0, none⟩ = some (.int .i64 x.k) := cell_later hb1 (by simp [go_sem])
    have q2 : w1.cell? ⟨w.heap.size, 2, none⟩ = some (.int .i64 x.t.k) := cell_later hb1 (by simp [go_sem])
    have q3 : w1.cell? ⟨w.heap.size, 3, none⟩ = some (.slice x.t.a x.t.l.length x.t.c) := cell_later hb1 (by simp [go_sem])
    clear hb0 hb1
    go_wp2_with fail
    refine (HK.out _).mono ?_
    rintro e w' ⟨rfl, rfl⟩
    cases bt
    · go_wp2_with fail
      refine (HT.out _ (ht.below hb2)).mono ?_
      rintro e w2 ⟨rfl, hb3⟩
      have hb4 := hb2.trans (hb3.mono hb2.size)
      clear hb3 hb2
      go_wp2_with fail
      go_ret
      exact ⟨by rw [HO.out]; rfl, hb4⟩
    · go_wp2_with fail
      refine (HG.out _ (ht.below hb2)).mono ?_
      rintro e w2 ⟨rfl, hb3⟩
      have hb4 := hb2.trans (hb3.mono hb2.size)
      clear hb3 hb2
      go_wp2_with fail
      go_ret
      exact ⟨by rw [HO.out]; rfl, hb4⟩

set_option maxHeartbeats 1000000 in
/-- (*walk).goodNumber. -/
theorem goodNumber_any (R : Nat) (ar : Int) (ins : Nat) (hi : ins ≤ 1000) (x : TT) (hn : x.n ≤ 9223372036854775807) (w : World) (hr : w.cell? ⟨R, 0, none⟩ = some (.int .i64 ar)) :
    Calls Tryd.prog 80 #[.pointer (some ⟨R, 0, none⟩), .agg #[.int .i64 x.k, .int .i64 x.n, .int .i64 x.t.k, .slice x.t.a x.t.l.length x.t.c, .int .i64 x.f.k, .slice x.f.a x.f.l.length x.f.c, .slice x.a x.l.length x.c], .int .i64 (ins : Int)] w fun e w' => e = .returned (.bool (okNum ar (ins : Int) x.k x.n)) ∧ Below w.heap.size w w' := by
  have hRl : R < w.heap.size := World.block_lt_of_cell? _ _ hr
  by_cases h1 : x.k = 1
  · have hk : (x.k == 1) = true := by simp [h1]
    by_cases h0 : 0 ≤ x.n
    · have hd : decide (0 ≤ x.n) = true := by simp [h0]
      have HO : Hid (okNum ar (ins : Int) x.k x.n = decide (x.n - (ins : Int) < ar)) := by show _ = _; rw [okNum, if_pos h1, hd, Bool.true_and]
      clear h1
      go_enter Tryd.func80, Tryd.ntmps80
      go_wp2_with fail
      go_quiet (fail)
      go_wp2_with fail
      go_ret
      exact ⟨ret_bool HO.out.symm, below_dN ((Below.refl _ _).alloc (Nat.le_refl _) _) _⟩
    · have hd : decide (0 ≤ x.n) = false := by simpa using h0
      have HO : Hid (okNum ar (ins : Int) x.k x.n = false) := by show _ = _; rw [okNum, if_pos h1, hd, Bool.false_and]
      clear h1
      go_enter Tryd.func80, Tryd.ntmps80
      go_wp2_with fail
      go_quiet (fail)
      go_wp2_with fail
      go_ret
      exact ⟨ret_bool HO.out.symm, below_dN ((Below.refl _ _).alloc (Nat.le_refl _) _) _⟩
  · have hk1 : (x.k == 1) = false := by simpa using h1
    by_cases h2 : x.k = 2
    · have hk2 : (x.k == 2) = true := by simp [h2]
      by_cases h0 : -1000000 ≤ x.n
      · have hd : decide (-1000000 ≤ x.n) = true := by simp [h0]
        have HO : Hid (okNum ar (ins : Int) x.k x.n = decide (x.n ≤ 1000000)) := by show _ = _; rw [okNum, if_neg h1, if_pos h2, hd, Bool.true_and]
        clear h1 h2
        go_enter Tryd.func80, Tryd.ntmps80
        go_wp2_with fail
        go_ret
        exact ⟨ret_bool HO.out.symm, (Below.refl _ _).alloc (Nat.le_refl _) _⟩
      · have hd : decide (-1000000 ≤ x.n) = false := by simpa using h0
        have HO : Hid (okNum ar (ins : Int) x.k x.n = false) := by show _ = _; rw [okNum, if_neg h1, if_pos h2, hd, Bool.false_and]
        clear h1 h2
        go_enter Tryd.func80, Tryd.ntmps80
        go_wp2_with fail
        go_ret
        exact ⟨ret_bool HO.out.symm, (Below.refl _ _).alloc (Nat.le_refl _) _⟩
    · have hk2 : (x.k == 2) = false := by simpa using h2
      by_cases h3 : x.k = 3
      · have hk3 : (x.k == 3) = true := by simp [h3]
        cases h0 : (x.n == 0) with
        | true =>
          have HO : Hid (okNum ar (ins : Int) x.k x.n = true) := by show _ = _; rw [okNum, if_neg h1, if_neg h2, if_pos h3, h0, Bool.true_or]
          clear h1 h2 h3
          go_enter Tryd.func80, Tryd.ntmps80
          go_wp2_with fail
          go_ret
          exact ⟨ret_bool HO.out.symm, (Below.refl _ _).alloc (Nat.le_refl _) _⟩
        | false =>
          have HO : Hid (okNum ar (ins : Int) x.k x.n = (x.n == 1)) := by show _ = _; rw [okNum, if_neg h1, if_neg h2, if_pos h3, h0, Bool.false_or]
          clear h1 h2 h3
          go_enter Tryd.func80, Tryd.ntmps80
          go_wp2_with fail
          go_ret
          exact ⟨ret_bool HO.out.symm, (Below.refl _ _).alloc (Nat.le_refl _) _⟩
      · have hk3 : (x.k == 3) = false := by simpa using h3
        have HO : Hid (okNum ar (ins : Int) x.k x.n = (x.n == 0)) := by show _ = _; rw [okNum, if_neg h1, if_neg h2, if_neg h3]
        clear h1 h2 h3
        go_enter Tryd.func80, Tryd.ntmps80
        go_wp2_with fail
        go_ret
        exact ⟨ret_bool HO.out.symm, (Below.refl _ _).alloc (Nat.le_refl _) _⟩
end Go.Proofs.YtnddkmccagiclaaDoor

/-
  A box of a term's seven cells; a row of terms that a call makes longer; no program's run in it.
-/
namespace Go.Proofs.YtnddkmccagiclaaDoor
open Go.RowKit

theorem Kept.fz {R : Nat} {w w' : World} (h : Kept R none w w') {b i : Nat} (hf : w.frozen? ⟨b, i, none⟩ = false) (hl : b < w.heap.size) (hb : b ≠ R) : w'.frozen? ⟨b, i, none⟩ = false :=
  (World.frozen?_of_block (a := ⟨b, i, none⟩) (h.block b hl hb (by simp))).trans hf

theorem Kept.refl {R : Nat} {w : World} : Kept R none w w := ⟨rfl, rfl, rfl, Nat.le_refl _, fun _ _ _ _ => rfl⟩

/-- A store into a block that is new. -/
theorem Kept.new {R k : Nat} {w w' w'' : World} (h : Kept R none w w') (hk : Kept k none w' w'') (hn : w.heap.size ≤ k) : Kept R none w w'' :=
  ⟨hk.os.trans h.os, hk.tape.trans h.tape, hk.output.trans h.output, Nat.le_trans h.size hk.size, fun q hq h1 h2 => (hk.block q (by have := h.size; omega) (by omega) h2).trans (h.block q hq h1 h2)⟩

theorem RS.new {R k : Nat} {ws : List ByteArray} {b : Bool} {w w' : World} (h : RS R ws b w) (hk : Kept k none w w') (hR : R < k) : RS R ws b w' := by
  have hl := h.lt
  obtain ⟨⟨a, c, hc, hn, hw⟩, h1, h2, h3, hz⟩ := h
  refine ⟨⟨a, c, hk.cell hc (by omega), hn, fun hne => ?_⟩, hk.cell h1 (by omega), hk.fz h2 hl (by omega), hk.fz h3 hl (by omega), hz⟩
  obtain ⟨A, o, ha, hA, hx⟩ := hw hne
  exact ⟨A, o, ha, hA, fun i x hi => hk.cell (hx i x hi) (by omega)⟩

/-- Seven cells that may be written. -/
structure Box7 (w : World) (J : Nat) (x : TT) : Prop where
  at7 : At7 w J 0 x
  fz : ∀ i, i < 7 → w.frozen? ⟨J, i, none⟩ = false

theorem Box7.lt {w : World} {J : Nat} {x : TT} (h : Box7 w J x) : J < w.heap.size := h.at7.lt

theorem Box7.kept {R J : Nat} {w w' : World} {x : TT} (h : Box7 w J x) (hk : Kept R none w w') (hJ : J ≠ R) : Box7 w' J x :=
  ⟨h.at7.keptR hk hJ, fun i hi => hk.fz (h.fz i hi) h.lt hJ⟩

theorem Box7.below {J : Nat} {w w' : World} {x : TT} (h : Box7 w J x) (hb : Below w.heap.size w w') : Box7 w' J x :=
  ⟨h.at7.below hb, fun i hi => (hb.frozen (p := ⟨J, i, none⟩) h.lt).trans (h.fz i hi)⟩

theorem Box7.set6 {w : World} {J : Nat} {x : TT} {a' : Option Addr} {c' : Nat} {l' : List TT} (h : Box7 w J x) : Box7 (w.setCell ⟨J, 6, none⟩ (.slice a' l'.length c')) J { x with a := a', c := c', l := l' } := by
  have h7 := h.at7
  refine ⟨⟨?_, ?_, ?_, ?_, ?_, ?_, ?_⟩, fun i hi => by rw [World.frozen?_setCell]; exact h.fz i hi⟩
  · rw [World.cell?_setCell_other _ _ _ _ (by simp)]; exact h7.c0
  · rw [World.cell?_setCell_other _ _ _ _ (by simp)]; exact h7.c1
  · rw [World.cell?_setCell_other _ _ _ _ (by simp)]; exact h7.c2
  · rw [World.cell?_setCell_other _ _ _ _ (by simp)]; exact h7.c3
  · rw [World.cell?_setCell_other _ _ _ _ (by simp)]; exact h7.c4
  · rw [World.cell?_setCell_other _ _ _ _ (by simp)]; exact h7.c5
  · exact World.cell?_setCell_same _ _ _ (by simpa using h7.c6)

theorem Box7.set23 {w : World} {J : Nat} {x : TT} {t : Tr} (h : Box7 w J x) : Box7 ((w.setCell ⟨J, 2, none⟩ (.int .i64 t.k)).setCell ⟨J, 3, none⟩ (.slice t.a t.l.length t.c)) J { x with t := t } := by
  have h7 := h.at7
  refine ⟨⟨?_, ?_, ?_, ?_, ?_, ?_, ?_⟩, fun i hi => by rw [World.frozen?_setCell, World.frozen?_setCell]; exact h.fz i hi⟩
  · rw [World.cell?_setCell_other _ _ _ _ (by simp), World.cell?_setCell_other _ _ _ _ (by simp)]; exact h7.c0
  · rw [World.cell?_setCell_other _ _ _ _ (by simp), World.cell?_setCell_other _ _ _ _ (by simp)]; exact h7.c1
  · rw [World.cell?_setCell_other _ _ _ _ (by simp)]; exact World.cell?_setCell_same _ _ _ (by simpa using h7.c2)
  · refine World.cell?_setCell_same _ _ _ (u := .slice x.t.a x.t.l.length x.t.c) ?_
    rw [World.cell?_setCell_other _ _ _ _ (by simp)]; simpa using h7.c3
  · rw [World.cell?_setCell_other _ _ _ _ (by simp), World.cell?_setCell_other _ _ _ _ (by simp)]; exact h7.c4
  · rw [World.cell?_setCell_other _ _ _ _ (by simp), World.cell?_setCell_other _ _ _ _ (by simp)]; exact h7.c5
  · rw [World.cell?_setCell_other _ _ _ _ (by simp), World.cell?_setCell_other _ _ _ _ (by simp)]; exact h7.c6

/-- All seven cells written. -/
def put7 (w : World) (J : Nat) (x : TT) : World :=
  ((((((w.setCell ⟨J, 0, none⟩ (.int .i64 x.k)).setCell ⟨J, 1, none⟩ (.int .i64 x.n)).setCell ⟨J, 2, none⟩ (.int .i64 x.t.k)).setCell ⟨J, 3, none⟩ (.slice x.t.a x.t.l.length x.t.c)).setCell ⟨J, 4, none⟩ (.int .i64 x.f.k)).setCell ⟨J, 5, none⟩ (.slice x.f.a x.f.l.length x.f.c)).setCell ⟨J, 6, none⟩ (.slice x.a x.l.length x.c)

theorem set_get {w : World} {J i j : Nat} {u v : Value} (h : w.cell? ⟨J, i, none⟩ = some u) : (w.setCell ⟨J, j, none⟩ v).cell? ⟨J, i, none⟩ = some (if i = j then v else u) := by
  by_cases e : i = j
  · subst e
    rw [if_pos rfl]
    exact World.cell?_setCell_same _ _ _ h
  · rw [if_neg e, World.cell?_setCell_other _ _ _ _ (by simp)]
    exact h

theorem put7_box {w : World} {J : Nat} {x y : TT} (h : Box7 w J y) : Box7 (put7 w J x) J x := by
  have h7 := h.at7
  have c0 := h7.c0
  have c1 := h7.c1
  have c2 := h7.c2
  have c3 := h7.c3
  have c4 := h7.c4
  have c5 := h7.c5
  have c6 := h7.c6
  simp only [Nat.zero_add] at c0 c1 c2 c3 c4 c5 c6
  have key : ∀ i u, w.cell? ⟨J, i, none⟩ = some u → (put7 w J x).cell? ⟨J, i, none⟩ = some (if i = 6 then .slice x.a x.l.length x.c else if i = 5 then .slice x.f.a x.f.l.length x.f.c else if i = 4 then .int .i64 x.f.k else if i = 3 then .slice x.t.a x.t.l.length x.t.c else if i = 2 then .int .i64 x.t.k else if i = 1 then .int .i64 x.n else if i = 0 then .int .i64 x.k else u) := by
    intro i u hu
    exact set_get (set_get (set_get (set_get (set_get (set_get (set_get hu))))))
  refine ⟨⟨?_, ?_, ?_, ?_, ?_, ?_, ?_⟩, fun i hi => ?_⟩
  · simpa using key 0 _ c0
  · simpa using key 1 _ c1
  · simpa using key 2 _ c2
  · simpa using key 3 _ c3
  · simpa using key 4 _ c4
  · simpa using key 5 _ c5
  · simpa using key 6 _ c6
  · simp only [put7, World.frozen?_setCell]
    exact h.fz i hi

theorem put7_kept {w : World} {J : Nat} {x : TT} : Kept J none w (put7 w J x) :=
  setR_kept.trans (setR_kept.trans (setR_kept.trans (setR_kept.trans (setR_kept.trans (setR_kept.trans setR_kept)))))

theorem set23_kept {w : World} {J : Nat} {u v : Value} : Kept J none w ((w.setCell ⟨J, 2, none⟩ u).setCell ⟨J, 3, none⟩ v) :=
  setR_kept.trans setR_kept

/-! ### A row of terms -/

def cells7 (cs : List TT) : List Value := cs.flatMap fun x => [.int .i64 x.k, .int .i64 x.n, .int .i64 x.t.k, .slice x.t.a x.t.l.length x.t.c, .int .i64 x.f.k, .slice x.f.a x.f.l.length x.f.c, .slice x.a x.l.length x.c]

theorem cells7_append (a b : List TT) : cells7 (a ++ b) = cells7 a ++ cells7 b := by simp [cells7]

theorem cells7_at : ∀ (l : List TT) (j : Nat) (h : j < l.length) (i : Nat), i < 7 → (cells7 l)[j * 7 + i]? = [Value.int .i64 l[j].k, .int .i64 l[j].n, .int .i64 l[j].t.k, .slice l[j].t.a l[j].t.l.length l[j].t.c, .int .i64 l[j].f.k, .slice l[j].f.a l[j].f.l.length l[j].f.c, .slice l[j].a l[j].l.length l[j].c][i]?
  | [], j, h, _, _ => by simp at h
  | x :: r, 0, _, i, hi => by
    obtain rfl | rfl | rfl | rfl | rfl | rfl | rfl : i = 0 ∨ i = 1 ∨ i = 2 ∨ i = 3 ∨ i = 4 ∨ i = 5 ∨ i = 6 := by omega
    all_goals simp [cells7]
  | x :: r, j + 1, h, i, hi => by
    have ih := cells7_at r j (by simpa using h) i hi
    have e : (j + 1) * 7 + i = (j * 7 + i) + 1 + 1 + 1 + 1 + 1 + 1 + 1 := by omega
    rw [e]
    simpa [cells7] using ih

/-- A list that the call makes: its row, and what lies in it. -/
structure Row (base : Nat) (v : Value) (cs : List TT) (w : World) : Prop where
  own : w.ownsRow base 27 7 v cs.length (cells7 cs)
  ins : ∀ c, c ∈ cs → c.In w ∧ c.Bl (fun b => base ≤ b ∧ some b ≠ v.ownBlock)

theorem Row.nil (base : Nat) (w : World) : Row base (.slice none 0 0) [] w := ⟨World.ownsRow_nil _ _ _ _, fun c h => by cases h⟩

theorem Row.kept {base R : Nat} {v : Value} {cs : List TT} {w w' : World} (h : Row base v cs w) (hk : Kept R none w w') (hR : R < base) : Row base v cs w' := by
  refine ⟨⟨h.own.1, ?_⟩, fun c hc => ⟨(h.ins c hc).1.keptR hk ((h.ins c hc).2.mono fun b hb => by omega), (h.ins c hc).2⟩⟩
  rcases h.own.2 with hn | ⟨g, cap, cur, hv, hb, hg, rest⟩
  · exact .inl hn
  · exact .inr ⟨g, cap, cur, hv, hb, (hk.block g (Array.getElem?_eq_some_iff.1 hg).1 (by omega) (by simp)).trans hg, rest⟩

theorem Row.below {base : Nat} {v : Value} {cs : List TT} {w w' : World} (h : Row base v cs w) (hb : Below w.heap.size w w') : Row base v cs w' := by
  refine ⟨⟨h.own.1, ?_⟩, fun c hc => ⟨(h.ins c hc).1.below hb, (h.ins c hc).2⟩⟩
  rcases h.own.2 with hn | ⟨g, cap, cur, hv, hb', hg, rest⟩
  · exact .inl hn
  · exact .inr ⟨g, cap, cur, hv, hb', (hb.block g (Array.getElem?_eq_some_iff.1 hg).1).trans hg, rest⟩

/-- One more. -/
theorem Row.step {base : Nat} {v : Value} {cs : List TT} {w2 w3 : World} {c : TT} {gg cap1 : Nat} {X : Obj} (h : Row base v cs w2) (hin : c.In w2) (hbl : c.Bl (fun b => base ≤ b ∧ some b ≠ v.ownBlock))
    (hown : w3.ownsRow base 27 7 (.slice (some ⟨gg, 0, none⟩) (cs.length + 1) cap1) (cs.length + 1) (cells7 cs ++ cells7 [c])) (hgrow : (w2.alloc X).grownBy w3 v.ownBlock) (hat : v.ownBlock = some gg ∨ gg = w2.heap.size + 1) :
    Row base (.slice (some ⟨gg, 0, none⟩) (cs.length + 1) cap1) (cs ++ [c]) w3 ∧ ∀ k, k < w2.heap.size → some k ≠ v.ownBlock → w3.heap[k]? = w2.heap[k]? := by
  have hblk : ∀ k, k < w2.heap.size → some k ≠ v.ownBlock → w3.heap[k]? = w2.heap[k]? := fun k hk hn => by
    rw [hgrow.block k (by simp; omega) hn]
    exact ((Below.refl _ w2).alloc (Nat.le_refl _) X).block k hk
  refine ⟨⟨by rw [cells7_append, List.length_append, List.length_singleton]; exact hown, fun d hd => ?_⟩, hblk⟩
  have key : d.In w2 ∧ d.Bl (fun b => base ≤ b ∧ some b ≠ v.ownBlock) := by
    rcases List.mem_append.1 hd with hd | hd
    · exact h.ins d hd
    · rcases List.mem_singleton.1 hd with rfl
      exact ⟨hin, hbl⟩
  have i3 := key.1.bl.and key.2
  refine ⟨key.1.congr (P := fun b => b < w2.heap.size ∧ base ≤ b ∧ some b ≠ v.ownBlock) (fun b hb i => ?_) i3, i3.mono fun b hb => ⟨hb.2.1, ?_⟩⟩
  · exact World.cell?_of_block (a := ⟨b, i, none⟩) (hblk b hb.1 hb.2.2)
  · show some b ≠ some gg
    rcases hat with e | e
    · rw [← e]; exact hb.2.2
    · simp only [ne_eq, Option.some.injEq]; omega

/-- A row that the call owns is a term's list. -/
theorem Row.list {base : Nat} {v : Value} {cs : List TT} {w : World} (h : Row base v cs w) : ∃ a c, v = .slice a cs.length c ∧ (∀ j (hj : j < cs.length), ∃ b o, a = some ⟨b, o, none⟩ ∧ At7 w b (o + j * 7) cs[j]) ∧ (∀ y, cs ≠ [] → a = some y → base ≤ y.block) := by
  rcases h.own.2 with ⟨rfl, h0⟩ | ⟨g, cap, cur, rfl, hg, _⟩
  · have : cs = [] := List.length_eq_zero_iff.1 h0
    subst this
    exact ⟨none, 0, rfl, fun j hj => absurd hj (by simp), fun y h => absurd rfl h⟩
  · refine ⟨_, _, rfl, fun j hj => ⟨g, 0, rfl, ?_⟩, fun y _ hy => by cases hy; exact hg⟩
    have hc : ∀ i, i < 7 → w.cell? ⟨g, 0 + j * 7 + i, none⟩ = _ := fun i hi => by rw [Nat.zero_add, h.own.cellAt (j * 7 + i) (by omega), cells7_at cs j hj i hi]
    exact ⟨hc 0 (by omega), hc 1 (by omega), hc 2 (by omega), hc 3 (by omega), hc 4 (by omega), hc 5 (by omega), hc 6 (by omega)⟩

theorem Row.tree {base : Nat} {v : Value} {cs : List TT} {w : World} (h : Row base v cs w) : ∃ a c, v = .slice a cs.length c ∧ ∀ k n t f, t.In w → f.In w → (TT.mk k n t f a c cs).In w ∧ (∀ P : Nat → Prop, (∀ b, base ≤ b → P b) → t.Bl P → f.Bl P → (TT.mk k n t f a c cs).Bl P) := by
  obtain ⟨a, c, hv, hl, hb⟩ := h.list
  refine ⟨a, c, hv, fun k n t f ht hf => ⟨TT.In_mk.2 ⟨ht, hf, hl, fun x hx => (h.ins x hx).1⟩, fun P hP h1 h2 => TT.Bl_mk.2 ⟨h1, h2, fun hne x hx => hP _ (hb x hne hx), fun x hx => (h.ins x hx).2.mono fun b hb => hP b hb.1⟩⟩⟩

theorem Row.lt {base : Nat} {v : Value} {cs : List TT} {w : World} (h : Row base v cs w) (k : Nat) (hk : v.ownBlock = some k) : base ≤ k ∧ k < w.heap.size := h.own.lt k hk
end Go.Proofs.YtnddkmccagiclaaDoor

/-
  What the call of kind.Sure answers at a right tree of not too many nodes.
-/
namespace Go.Proofs.YtnddkmccagiclaaDoor
open Go.RowKit

/-- Is Any nowhere in it? -/
def sureY : Ty → Bool
  | ⟨k, l⟩ => k != 0 && (l.map fun t => sureY t).all id
theorem sureY_mk (k : Int) (l : List Ty) : sureY ⟨k, l⟩ = (k != 0 && l.all sureY) := by
  rw [sureY, List.all_map]
  rfl

/-- How many nodes. -/
def Tr.sz : Tr → Nat
  | ⟨_, _, _, l⟩ => (l.map fun t => t.sz).sum + 1
theorem Tr.sz_mk (k : Int) (a : Option Addr) (c : Nat) (l : List Tr) : (Tr.mk k a c l).sz = (l.map Tr.sz).sum + 1 := by
  rw [Tr.sz]
theorem Tr.sz_pos (t : Tr) : 1 ≤ t.sz := by cases t; rw [Tr.sz_mk]; omega

theorem Tr.sz_good : ∀ (n : Nat) (t : Tr), goodT n t = true → t.sz + 1 ≤ 2 ^ n
  | 0, t, h => by simp [goodT] at h
  | n + 1, ⟨k, a, c, l⟩, h => by
    have hp : 1 ≤ 2 ^ n := Nat.one_le_two_pow
    rw [Tr.sz_mk, Nat.pow_succ]
    match l, h with
    | [], _ => simp; omega
    | [x], h => simp [goodT] at h
    | [x, y], h =>
      simp only [goodT, Bool.and_eq_true] at h
      have hx := Tr.sz_good n x h.1.2
      have hy := Tr.sz_good n y h.2
      simp only [List.map_cons, List.map_nil, List.sum_cons, List.sum_nil]; omega
    | x :: y :: z :: r, h => simp [goodT] at h

/-- The cells of a list of trees. -/
def cellsOf : List Tr → List Value
  | [] => []
  | t :: r => .int .i64 t.k :: .slice t.a t.l.length t.c :: cellsOf r

theorem cellsOf_length : ∀ l : List Tr, (cellsOf l).length = l.length * 2
  | [] => rfl
  | t :: r => by simp only [cellsOf, List.length_cons, cellsOf_length r]; omega

theorem cellsOf_append : ∀ l r : List Tr, cellsOf (l ++ r) = cellsOf l ++ cellsOf r
  | [], r => rfl
  | t :: l, r => by simp only [List.cons_append, cellsOf, cellsOf_append l r]

/-- What is left to be looked at. -/
def Left (B : Nat) (b : Bool) (N k : Nat) (v : Value) (wr : World) : Prop :=
  ∃ ts : List Tr, wr.ownsRow B 24 2 v ts.length (cellsOf ts) ∧ (∀ t, t ∈ ts → t.In wr ∧ t.Bl (· < B) ∧ t.right) ∧ (ts.map Tr.sz).sum = k ∧ k ≤ N ∧ b = ts.all fun t => sureY t.ty

theorem Left.split {ts : List Tr} (h : ts ≠ []) : ∃ us x, ts = us ++ [x] := ⟨ts.dropLast, ts.getLast h, (List.dropLast_concat_getLast h).symm⟩

/-- append of nothing, where there is room for nothing: a step of a region that draws. -/
theorem step_append_void {P : Program} {ops : Array Oper} {o : Oper} {a : Act} {w : World} {K : Act → World → Prop} {Q : Exit → Act → World → Prop} {E : Prop}
    (hg : o.guard = none) (s x : Operand) (t : TypeId) (hop : o.op = Op.call { callee := Callee.builtin Builtin.append, args := #[s, x], argTypes := #[t, t] })
    (e : TypeId) (i : TypeInfo) (h1 : P.underlying t = some (.slice e)) (h2 : P.info? e = some i)
    (b n cap : Nat) (hs : a.eval s = .slice (some ⟨b, 0, none⟩) n cap) (xa : Option Addr) (c : Nat) (hx : a.eval x = .slice xa 0 c) (hroom : n ≤ cap)
    (hK : K (a.put o.dst (.slice (some ⟨b, 0, none⟩) n cap)) w) :
    if Region.wanted o (yielded ops a.tmps) = true then Oper.wp P o a w K Q else E := by
  have hw : Region.wanted o (yielded ops a.tmps) = true := by simp [Region.wanted, hg]
  rw [if_pos hw]
  have hsrc : Src P i.size t (.slice xa 0 c) 0 [] w := by
    cases xa with
    | none => exact Src.ofNil w h1 c
    | some ad => exact Src.ofSlice w h1 ad 0 c [] (by simp) (fun j u h => by simp at h) (fun u h => by cases h)
  have hrun := run_append_room_src (P := P) w t t o.type e i h1 h2 b 0 n cap (.slice xa 0 c) 0 [] hsrc (by omega) (fun j h => by simp at h) (fun j h => by simp at h)
  unfold Oper.wp
  simp only [execOp, hop, resolve, invoke, builtin, Sem.run_bind, Sem.run_pure, Result.andThen_ok, List.map_toArray, List.map_cons, List.map_nil, hs, hx, hrun]
  exact hK

theorem sure_no (t : Tr) (h : t.k = 0) : sureY t.ty = false := by
  obtain ⟨k, a, c, l⟩ := t
  dsimp only at h
  rw [Tr.ty_mk, sureY_mk, h]
  simp

theorem sure_leaf (t : Tr) (h : t.l = []) (hk : t.k ≠ 0) : sureY t.ty = true := by
  obtain ⟨k, a, c, l⟩ := t
  dsimp only at h hk
  rw [Tr.ty_mk, sureY_mk, h]
  simpa using hk

theorem sure_two (t x y : Tr) (h : t.l = [x, y]) (hk : t.k ≠ 0) : sureY t.ty = (sureY x.ty && sureY y.ty) := by
  obtain ⟨k, a, c, l⟩ := t
  dsimp only at h hk
  rw [Tr.ty_mk, sureY_mk, h]
  simp [hk]

theorem Tr.sz_two (t x y : Tr) (h : t.l = [x, y]) : t.sz = x.sz + y.sz + 1 := by
  obtain ⟨k, a, c, l⟩ := t
  dsimp only at h
  rw [Tr.sz_mk, h]
  simp

theorem Tryd.info24s : (Tryd.prog.info? 24).map (fun i => (i.zero, i.size, i.bytes)) = some (some (.agg #[.int .i64 0, .slice none 0 0]), 2, 32) := by kernel_rfl

set_option maxHeartbeats 1000000 in
theorem sure_any (t : Tr) (w : World) (hin : t.In w) (hr : t.right) (hz : t.sz ≤ 1000000000) :
    Calls Tryd.prog 29 #[.agg #[.int .i64 t.k, .slice t.a t.l.length t.c]] w fun e w' => e = .returned (.bool (sureY t.ty)) ∧ Below w.heap.size w w' := by
  have HL : Hid (Left (w.heap.size + 1) (sureY t.ty) 1000000000 t.sz (.slice (some ⟨w.heap.size + 1, 0, none⟩) 1 1) ((w.alloc (.cells #[.int .i64 t.k, .slice t.a t.l.length t.c] 24)).alloc (.cells #[.int .i64 t.k, .slice t.a t.l.length t.c] 24))) := by
    have hb : Below w.heap.size w ((w.alloc (.cells #[.int .i64 t.k, .slice t.a t.l.length t.c] 24)).alloc (.cells #[.int .i64 t.k, .slice t.a t.l.length t.c] 24)) := ((Below.refl _ _).alloc (Nat.le_refl _) _).alloc (by simp) _
    have hh := heap_alloc_new (w.alloc (.cells #[.int .i64 t.k, .slice t.a t.l.length t.c] 24)) (.cells #[.int .i64 t.k, .slice t.a t.l.length t.c] 24)
    rw [World.size_alloc] at hh
    refine ⟨[t], ⟨rfl, .inr ⟨w.heap.size + 1, 1, _, rfl, Nat.le_refl _, hh, Nat.le_refl _, by unfold maxLen; omega, rfl, rfl⟩⟩, ?_, by simp, hz, by simp⟩
    intro x hx
    rcases List.mem_cons.1 hx with rfl | hx
    · exact ⟨hin.below hb, hin.bl.mono fun b hb => by omega, hr⟩
    · cases hx
  obtain ⟨i0, hi0, hz0, hz1, hz2⟩ := info_parts Tryd.info24s
  obtain ⟨B, hB⟩ : ∃ B, B = sureY t.ty := ⟨_, rfl⟩
  rw [← hB] at HL ⊢
  clear hB
  go_enter Tryd.func29, Tryd.ntmps29
  go_wp2_with fail
  go_loopg [3] t.sz (fun k v wr => ∃ u, u = v ∧ Hid (Left (w.heap.size + 1) B 1000000000 k u wr) ∧ Below w.heap.size w wr)
  case atStart => exact ⟨_, rfl, HL, ((Below.refl _ _).alloc (Nat.le_refl _) _).alloc (by simp) _⟩
  case round =>
    obtain ⟨v, hv, HR, hbr⟩ := hrel
    subst hv
    obtain ⟨ts, ho, hts, hk, hkn, hb⟩ := HR.out
    have HB : Hid (B = ts.all fun t => sureY t.ty) := hb
    clear hb HL
    by_cases hne : ts = []
    · subst hne
      obtain ⟨a, c, rfl⟩ : ∃ a c, v = .slice a 0 c := by
        rcases ho.2 with ⟨rfl, _⟩ | ⟨g, cap, cur, rfl, _⟩
        · exact ⟨_, _, rfl⟩
        · exact ⟨_, _, rfl⟩
      clear ho hts
      go_wp2_with fail
      go_ret
      exact ⟨by rw [HB.out]; rfl, hbr⟩
    · obtain ⟨us, x, rfl⟩ := Left.split hne
      have hlen : (us ++ [x]).length = us.length + 1 := by simp
      rw [hlen, cellsOf_append] at ho
      obtain ⟨g, cap, rfl, hg, hgl⟩ := ho.form (by omega)
      have c0 := ho.cellAt (us.length * 2) (by omega)
      have c1 := ho.cellAt (us.length * 2 + 1) (by omega)
      rw [List.getElem?_append_right (by rw [cellsOf_length]; exact Nat.le_refl _), cellsOf_length, Nat.sub_self] at c0
      rw [List.getElem?_append_right (by rw [cellsOf_length]; omega), cellsOf_length, show us.length * 2 + 1 - us.length * 2 = 1 by omega] at c1
      simp only [cellsOf, List.getElem?_cons_zero, List.getElem?_cons_succ] at c0 c1
      have hus : us.length ≤ (us.map Tr.sz).sum := by
        clear ho hts hk hkn HB HR c0 c1 hne hlen
        induction us with
        | nil => simp
        | cons u r ih => have := u.sz_pos; simp only [List.length_cons, List.map_cons, List.sum_cons]; omega
      have hk' : (us.map Tr.sz).sum + x.sz = gk := by rw [← hk]; simp
      have hcap : us.length + 1 ≤ cap := by
        rcases ho.2 with ⟨h, _⟩ | ⟨g', cap', cur, h, _, _, h1, _⟩
        · cases h
        · cases h; exact h1
      have hop : wr.ownsRow (w.heap.size + 1) 24 2 (.slice (some ⟨g, 0, none⟩) us.length cap) us.length (cellsOf us) := ownsRow_pop (cellsOf_length us) ho
      obtain ⟨xin, xbl, xr⟩ := hts x (by simp)
      have HT : Hid (∀ u, u ∈ us → u.In wr ∧ u.Bl (· < w.heap.size + 1) ∧ u.right) := fun u hu => hts u (by simp [hu])
      have i1 : (us.length : Int) < ((us.length : Int) + 1) := by omega
      have n1 : (us.length : Int) ≤ 1000000000 := by omega
      have n2 : (us.length : Int) ≤ (cap : Int) := by omega
      have n3 : (0 : Int) ≤ (us.length : Int) := by omega
      have hgne : g ≠ wr.heap.size := by omega
      clear ho hts hne hlen HR
      by_cases hx0 : x.k = 0
      · rw [hx0] at c0
        go_wp2_with fail
        go_ret
        refine ⟨?_, hbr.alloc hbr.size _⟩
        rw [HB.out, List.all_append, List.all_cons, sure_no x hx0]
        simp
      · have hx1 : (x.k == 0) = false := by simpa using hx0
        have HX : Hid (x.k ≠ 0) := hx0
        clear hx0
        rcases xr.cases with ⟨xl, xk⟩ | ⟨y, z, xl, xk, ry, rz⟩
        · rw [xl] at c1
          simp only [List.length_nil] at c1
          have HQ : Hid (x.l = []) := xl
          have hbb : Below w.heap.size w (wr.alloc (.cells #[.int .i64 x.k, .slice x.a 0 x.c] 24)) := hbr.alloc hbr.size _
          have HO : Hid (Left (w.heap.size + 1) B 1000000000 ((us.map Tr.sz).sum) (.slice (some ⟨g, 0, none⟩) us.length cap) (wr.alloc (.cells #[.int .i64 x.k, .slice x.a 0 x.c] 24)).drew) := by
            refine ⟨us, (hop.alloc _).drew, fun u hu => ?_, rfl, by omega, ?_⟩
            · obtain ⟨u1, u2, u3⟩ := HT.out u hu
              exact ⟨u1.below (((Below.refl _ _).alloc (Nat.le_refl _) _).drew), u2, u3⟩
            · rw [HB.out, List.all_append, List.all_cons, sure_leaf x xl HX.out]
              simp
          clear xl xk xin xbl xr HT HB
          go_wp2_with fail
          go_region_law ((refine step_append_void (by rfl) _ _ _ (by rfl) 24 i0 Tryd.underlying22 hi0 g us.length cap (by rfl) x.a x.c (by rfl) (by omega) ?_))
          go_wp2_with fail
          go_roundg ((us.map Tr.sz).sum)
          case measure => have := x.sz_pos; omega
          case rel => exact ⟨_, rfl, HO, hbb.drew⟩
        · obtain ⟨xb, xo, xa, y0, y1, yin⟩ := xin.part 0 (by simp [xl])
          obtain ⟨xb', xo', xa', z0, z1, zin⟩ := xin.part 1 (by simp [xl])
          rw [xa] at xa'
          obtain ⟨rfl, rfl⟩ : xb = xb' ∧ xo = xo' := by simpa using xa'
          simp only [xl, List.getElem_cons_zero, List.getElem_cons_succ] at y0 y1 z0 z1 yin zin
          have hnews : ∀ j u, (cellsOf [y, z])[j]? = some u → (wr.alloc (.cells #[.int .i64 x.k, .slice (some ⟨xb, xo, none⟩) 2 x.c] 24)).drew.cell? ((⟨xb, xo, none⟩ : Addr).add j) = some u := by
            have hbb : Below wr.heap.size wr (wr.alloc (.cells #[.int .i64 x.k, .slice (some ⟨xb, xo, none⟩) 2 x.c] 24)).drew := ((Below.refl _ _).alloc (Nat.le_refl _) _).drew
            intro j u hj
            match j, hj with
            | 0, hj => simp [cellsOf] at hj; subst hj; exact cell_later hbb (by simpa [Addr.add] using y0)
            | 1, hj => simp [cellsOf] at hj; subst hj; exact cell_later hbb (by simpa [Addr.add] using y1)
            | 2, hj => simp [cellsOf] at hj; subst hj; exact cell_later hbb (by simpa [Addr.add] using z0)
            | 3, hj => simp [cellsOf] at hj; subst hj; exact cell_later hbb (by simpa [Addr.add] using z1)
            | j + 4, hj => simp [cellsOf] at hj
          rw [xa, xl] at c1
          simp only [List.length_cons, List.length_nil, Nat.zero_add, Nat.reduceAdd] at c1
          have HQ : Hid (x.l = [y, z]) := xl
          have HN : Hid (∀ j u, (cellsOf [y, z])[j]? = some u → (wr.alloc (.cells #[.int .i64 x.k, .slice (some ⟨xb, xo, none⟩) 2 x.c] 24)).drew.cell? ((⟨xb, xo, none⟩ : Addr).add j) = some u) := hnews
          have HY : Hid (y.Bl (· < w.heap.size + 1) ∧ z.Bl (· < w.heap.size + 1)) := by
            obtain ⟨xk', xa'', xc', xl'⟩ := x
            dsimp only at xl
            subst xl
            exact ⟨(Tr.Bl_mk.1 xbl).2 y (by simp), (Tr.Bl_mk.1 xbl).2 z (by simp)⟩
          clear xl xk xin xbl xr xa xa' y0 y1 z0 z1 hnews
          go_wp2_with fail
          go_region_law
            ((refine step_append_lies _ (by rfl) _ _ _ (by rfl) (w.heap.size + 1) 24 i0 _ 2 32 Tryd.underlying22 hi0 hz0 hz1 hz2 rfl (by omega) (.slice (some ⟨g, 0, none⟩) us.length cap) us.length (cellsOf us) (by rfl) ((hop.alloc _).drew)
                ⟨xb, xo, none⟩ 2 x.c (cellsOf [y, z]) (by rfl) (by rfl) HN.out (by simp [cellsOf, Value.oneCell'])
                (by omega) (by unfold maxLen; omega) (by omega) (by simp; omega) (wr.heap.size + 1) (by simp) ?_; intro gg cap1 w1 hown1 hgrow hat hlt))
          have hbg : Below (w.heap.size + 1) wr w1 := (((Below.refl _ _).alloc (by omega) _).drew).grown hgrow (by simp; omega) (fun k hk => by simp [Value.ownBlock] at hk; omega)
          have HO : Hid (Left (w.heap.size + 1) B 1000000000 (((us ++ [y, z]).map Tr.sz).sum) (.slice (some ⟨gg, 0, none⟩) (us.length + 2) cap1) w1) := by
            refine ⟨us ++ [y, z], ?_, fun u hu => ?_, rfl, ?_, ?_⟩
            · rw [cellsOf_append, List.length_append]
              exact hown1
            · rcases List.mem_append.1 hu with hu | hu
              · obtain ⟨u1, u2, u3⟩ := HT.out u hu
                exact ⟨u1.congr (P := (· < w.heap.size + 1)) (fun b hb o => hbg.cell (p := ⟨b, o, none⟩) hb) u2, u2, u3⟩
              · rcases List.mem_cons.1 hu with rfl | hu
                · exact ⟨yin.congr (P := (· < w.heap.size + 1)) (fun b hb o => hbg.cell (p := ⟨b, o, none⟩) hb) HY.out.1, HY.out.1, ry⟩
                · rcases List.mem_cons.1 hu with rfl | hu
                  · exact ⟨zin.congr (P := (· < w.heap.size + 1)) (fun b hb o => hbg.cell (p := ⟨b, o, none⟩) hb) HY.out.2, HY.out.2, rz⟩
                  · cases hu
            · have hsz := Tr.sz_two x y z HQ.out
              simp only [List.map_append, List.sum_append_nat, List.map_cons, List.map_nil, List.sum_cons, List.sum_nil]
              omega
            · rw [HB.out, List.all_append, List.all_append, List.all_cons, List.all_cons, List.all_cons, sure_two x y z HQ.out HX.out]
              simp
          have hb1 : Below w.heap.size w w1 := hbr.trans (hbg.mono (by omega))
          have hms : (((us ++ [y, z]).map Tr.sz).sum) < gk := by
            have hsz := Tr.sz_two x y z HQ.out
            simp only [List.map_append, List.sum_append_nat, List.map_cons, List.map_nil, List.sum_cons, List.sum_nil]
            omega
          clear hown1 hgrow hat hbg
          go_wp2_with fail
          go_roundg (((us ++ [y, z]).map Tr.sz).sum)
          case measure => exact hms
          case rel => exact ⟨_, rfl, HO, hb1⟩
end Go.Proofs.YtnddkmccagiclaaDoor

/-
  What the calls of term.alikeAtTop and term.Same answer at two terms that are alike.
-/
namespace Go.Proofs.YtnddkmccagiclaaDoor
open Go.RowKit

theorem relY_refl : ∀ t : Ty, relY escSame t t = true := by
  intro t
  induction t using Ty.ind with
  | h k l ih =>
    rw [relY_mk]
    simp only [escSame, Bool.false_or, beq_self_eq_true, Bool.true_and]
    exact relL_all escSame l l rfl fun j h _ => ih _ (List.getElem_mem h)

/-- Its types are of at most a thousand levels. -/
def TT.tok : TT → Prop
  | ⟨_, _, t, f, _, _, l⟩ => (t.hgt ≤ 1000 ∧ t.sm) ∧ (f.hgt ≤ 1000 ∧ f.sm) ∧ ∀ x, x ∈ l → x.tok

theorem TT.tok_mk {k n : Int} {t f : Tr} {a : Option Addr} {c : Nat} {l : List TT} : (TT.mk k n t f a c l).tok ↔ (t.hgt ≤ 1000 ∧ t.sm) ∧ (f.hgt ≤ 1000 ∧ f.sm) ∧ ∀ x, x ∈ l → x.tok := by
  rw [TT.tok]
theorem TT.tok.t {x : TT} (h : x.tok) : x.t.hgt ≤ 1000 ∧ x.t.sm := by cases x; exact (TT.tok_mk.1 h).1
theorem TT.tok.f {x : TT} (h : x.tok) : x.f.hgt ≤ 1000 ∧ x.f.sm := by cases x; exact (TT.tok_mk.1 h).2.1
theorem TT.tok.mem {x y : TT} (h : x.tok) (hy : y ∈ x.l) : y.tok := by
  obtain ⟨k, n, t, f, a, c, l⟩ := x
  exact (TT.tok_mk.1 h).2.2 y hy

set_option maxHeartbeats 1000000 in
/-- term.alikeAtTop, of two that are alike. -/
theorem alikeTm_yes (x y : TT) (w : World) (hx : x.In w) (hy : y.In w) (hk : x.k = y.k) (hn : x.n = y.n) (hl : x.l.length = y.l.length) (ht : x.t.ty = y.t.ty) (hf : x.f.ty = y.f.ty) (hto : x.tok) :
    Calls Tryd.prog 36 #[.agg #[.int .i64 x.k, .int .i64 x.n, .int .i64 x.t.k, .slice x.t.a x.t.l.length x.t.c, .int .i64 x.f.k, .slice x.f.a x.f.l.length x.f.c, .slice x.a x.l.length x.c], .agg #[.int .i64 y.k, .int .i64 y.n, .int .i64 y.t.k, .slice y.t.a y.t.l.length y.t.c, .int .i64 y.f.k, .slice y.f.a y.f.l.length y.f.c, .slice y.a y.l.length y.c]] w fun e w' => e = .returned (.bool true) ∧ Below w.heap.size w w' := by
  have HT : Hid (∀ W, x.t.In W → y.t.In W → Calls Tryd.prog 27 #[.agg #[.int .i64 x.t.k, .slice x.t.a x.t.l.length x.t.c], .agg #[.int .i64 y.t.k, .slice y.t.a y.t.l.length y.t.c]] W fun e w' => e = .returned (.bool true) ∧ Below W.heap.size W w') := by
    intro W h1 h2
    have := same_whole x.t y.t W h1 h2 hto.t.1 hto.t.2
    rw [ht, relY_refl] at this
    exact this
  have HF : Hid (∀ W, x.f.In W → y.f.In W → Calls Tryd.prog 27 #[.agg #[.int .i64 x.f.k, .slice x.f.a x.f.l.length x.f.c], .agg #[.int .i64 y.f.k, .slice y.f.a y.f.l.length y.f.c]] W fun e w' => e = .returned (.bool true) ∧ Below W.heap.size W w') := by
    intro W h1 h2
    have := same_whole x.f y.f W h1 h2 hto.f.1 hto.f.2
    rw [hf, relY_refl] at this
    exact this
  have e1 : (x.k == y.k) = true := by simp [hk]
  have e2 : (x.n == y.n) = true := by simp [hn]
  have e3 : ((x.l.length : Int) == (y.l.length : Int)) = true := by simp [hl]
  have hb0 : ∀ o o', Below w.heap.size w ((w.alloc o).alloc o') := fun o o' => ((Below.refl _ _).alloc (Nat.le_refl _) _).alloc (by simp) _
  have HB : Hid (∀ o o', Below w.heap.size w ((w.alloc o).alloc o')) := hb0
  have HX : Hid (x.In w ∧ y.In w) := ⟨hx, hy⟩
  clear hk hn hl ht hf hto hx hy hb0
  go_enter Tryd.func36, Tryd.ntmps36
  go_wp2_with fail
  refine (HT.out _ (HX.out.1.below (HB.out _ _)).t (HX.out.2.below (HB.out _ _)).t).mono ?_
  rintro e w1 ⟨rfl, hb1⟩
  have hbw : Below w.heap.size w w1 := (HB.out _ _).trans (hb1.mono (by simp; omega))
  have q4 : w1.cell? ⟨w.heap.size, 4, none⟩ = some (.int .i64 x.f.k) := cell_later hb1 (by simp [go_sem])
  have q5 : w1.cell? ⟨w.heap.size, 5, none⟩ = some (.slice x.f.a x.f.l.length x.f.c) := cell_later hb1 (by simp [go_sem])
  have p4 : w1.cell? ⟨w.heap.size + 1, 4, none⟩ = some (.int .i64 y.f.k) := cell_later hb1 (by simp [go_sem])
  have p5 : w1.cell? ⟨w.heap.size + 1, 5, none⟩ = some (.slice y.f.a y.f.l.length y.f.c) := cell_later hb1 (by simp [go_sem])
  clear hb1
  go_wp2_with fail
  refine (HF.out _ (HX.out.1.below hbw).f (HX.out.2.below hbw).f).mono ?_
  rintro e w2 ⟨rfl, hb2⟩
  have hbz := hbw.trans (hb2.mono hbw.size)
  clear hb2 hbw
  go_wp2_with fail
  go_ret
  exact ⟨rfl, hbz⟩

theorem ownsRow_low {w w' : World} {B e size n : Nat} {v : Value} {xs : List Value} (h : w.ownsRow B e size v n xs) (hb : Below w.heap.size w w') : w'.ownsRow B e size v n xs := by
  refine ⟨h.1, ?_⟩
  rcases h.2 with hn | ⟨g, cap, cur, hv, hb', hg, rest⟩
  · exact .inl hn
  · exact .inr ⟨g, cap, cur, hv, hb', (hb.block g (Array.getElem?_eq_some_iff.1 hg).1).trans hg, rest⟩

theorem sum_take_le (f : TT → Nat) : ∀ (l : List TT) (j : Nat), ((l.take j).map f).sum ≤ (l.map f).sum
  | [], j => by simp
  | x :: l, 0 => by simp
  | x :: l, j + 1 => by
    have := sum_take_le f l j
    simp only [List.take_succ_cons, List.map_cons, List.sum_cons]; omega

/-! ### The stack -/

def TT.sz : TT → Nat
  | ⟨_, _, _, _, _, _, l⟩ => (l.map fun t => t.sz).sum + 1
theorem TT.sz_mk (k n : Int) (t f : Tr) (a : Option Addr) (c : Nat) (l : List TT) : (TT.mk k n t f a c l).sz = (l.map TT.sz).sum + 1 := by
  rw [TT.sz]
theorem TT.sz_eq (x : TT) : x.sz = (x.l.map TT.sz).sum + 1 := by cases x; rw [TT.sz_mk]
theorem TT.sz_pos (x : TT) : 1 ≤ x.sz := by rw [TT.sz_eq]; omega

def cells2 (ps : List (TT × TT)) : List Value := ps.flatMap fun p => [.slice p.1.a p.1.l.length p.1.c, .slice p.2.a p.2.l.length p.2.c]
theorem cells2_append (a b : List (TT × TT)) : cells2 (a ++ b) = cells2 a ++ cells2 b := by simp [cells2]
theorem cells2_length (a : List (TT × TT)) : (cells2 a).length = a.length * 2 := by
  induction a with
  | nil => rfl
  | cons p r ih => simp [cells2] at ih ⊢; omega

/-- Two lists of terms, each with each. -/
def Pr (B : Nat) (w : World) (p : TT × TT) : Prop := p.1.In w ∧ p.2.In w ∧ p.1.Bl (· < B) ∧ p.2.Bl (· < B) ∧ p.1.tok ∧ p.1.l.map TT.tm = p.2.l.map TT.tm

theorem Pr.low {B : Nat} {w w' : World} {p : TT × TT} (h : Pr B w p) (hb : Below B w w') : Pr B w' p :=
  ⟨h.1.congr (P := (· < B)) (fun b hb' o => hb.cell (p := ⟨b, o, none⟩) hb') h.2.2.1, h.2.1.congr (P := (· < B)) (fun b hb' o => hb.cell (p := ⟨b, o, none⟩) hb') h.2.2.2.1, h.2.2⟩

/-- The pairs of lists of these terms that have any. -/
def kids : List TT → List TT → List (TT × TT)
  | x :: xs, y :: ys => (if x.l.length = 0 then [] else [(x, y)]) ++ kids xs ys
  | _, _ => []

def mass (ps : List (TT × TT)) : Nat := (ps.map fun p => p.1.sz).sum

theorem kids_mass : ∀ xs ys : List TT, mass (kids xs ys) ≤ (xs.map TT.sz).sum
  | [], _ => by simp [kids, mass]
  | x :: xs, [] => by simp [kids, mass]
  | x :: xs, y :: ys => by
    have := kids_mass xs ys
    simp only [kids, mass, List.map_append, List.sum_append_nat, List.map_cons, List.sum_cons] at this ⊢
    split
    · simp; omega
    · simp; omega

theorem kids_snoc : ∀ (l m : List TT) (j : Nat) (hj : j < l.length) (hm : j < m.length), kids (l.take (j + 1)) (m.take (j + 1)) = kids (l.take j) (m.take j) ++ (if l[j].l.length = 0 then [] else [(l[j], m[j])])
  | x :: l, y :: m, 0, _, _ => by simp [kids]
  | x :: l, y :: m, j + 1, hj, hm => by
    have := kids_snoc l m j (by simpa using hj) (by simpa using hm)
    simp only [List.take_succ_cons, kids, List.getElem_cons_succ]
    rw [this, List.append_assoc]
  | [], _, j, hj, _ => by simp at hj
  | x :: l, [], j, _, hm => by simp at hm

structure Stk (B : Nat) (v : Value) (ps : List (TT × TT)) (w : World) : Prop where
  own : w.ownsRow B 59 2 v ps.length (cells2 ps)
  ins : ∀ p, p ∈ ps → Pr B w p

theorem Stk.len {ps : List (TT × TT)} : ps.length ≤ mass ps := by
  induction ps with
  | nil => simp
  | cons p r ih => have := p.1.sz_pos; simp only [mass, List.map_cons, List.sum_cons, List.length_cons] at ih ⊢; omega

theorem Tryd.info59 : (Tryd.prog.info? 59).map (fun i => (i.zero, i.size, i.bytes)) = some (some (.agg #[.slice none 0 0, .slice none 0 0]), 2, 48) := by kernel_rfl

theorem tm_parts {x y : TT} (h : x.tm = y.tm) : x.k = y.k ∧ x.n = y.n ∧ x.l.length = y.l.length ∧ x.t.ty = y.t.ty ∧ x.f.ty = y.f.ty ∧ x.l.map TT.tm = y.l.map TT.tm := by
  have hk := congrArg Tm.k h
  have hn := congrArg Tm.n h
  have ht := congrArg Tm.t h
  have hf := congrArg Tm.f h
  have hl := congrArg Tm.l h
  rw [TT.tm_k, TT.tm_k] at hk
  rw [TT.tm_n, TT.tm_n] at hn
  rw [TT.tm_t, TT.tm_t] at ht
  rw [TT.tm_f, TT.tm_f] at hf
  rw [TT.tm_l, TT.tm_l] at hl
  exact ⟨hk, hn, by have := congrArg List.length hl; simpa using this, ht, hf, hl⟩
end Go.Proofs.YtnddkmccagiclaaDoor
