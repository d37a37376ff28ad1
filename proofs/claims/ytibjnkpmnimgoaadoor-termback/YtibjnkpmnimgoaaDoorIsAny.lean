/-
  What the calls of term.isAny, term.goodTypes and (*walk).goodNumber answer, at whatever term lies in memory.
-/
import Derived.Test.YtibjnkpmnimgoaaDoorHolds
import Derived.Test.YtibjnkpmnimgoaaDoorGood
import Derived.Test.YtibjnkpmnimgoaaDoorLook
import Derived.Test.YtibjnkpmnimgoaaDoorTerm
import Derived.BigQuiet
import Derived.Deep.QuietTactic
import Derived.WalkSmall
namespace Go.Proofs.YtibjnkpmnimgoaaDoor
open Go.RowKit

set_option maxHeartbeats 400000 in
theorem same_top (x y : Tr) (rp : Option Addr) (w : World) (ht : Hid ((x.k == y.k && (x.l.length : Int) == (y.l.length : Int)) = false)) :
    Calls Tryd.prog 48 #[.agg #[.int .i64 x.k, .slice x.a x.l.length x.c], .agg #[.int .i64 y.k, .slice y.a y.l.length y.c], .int .i64 1000, .pointer rp] w fun e w' => e = .returned (.bool false) ∧ Below w.heap.size w w' := by
  go_enter Tryd.func48, Tryd.ntmps48
  go_wp2_with fail
  refine (alike_any _ _ _ _ _ _ _ _ false ht.out _).mono ?_
  rintro e w1 ⟨rfl, hb1⟩
  go_wp2_with fail
  go_ret
  exact ⟨rfl, (((Below.refl _ _).alloc (Nat.le_refl _) _).alloc (by simp) _).trans (hb1.mono (by simp; omega))⟩

set_option maxHeartbeats 400000 in
theorem same_by (x y : Tr) (r : Bool) (w : World) (hx : x.In w) (hy : y.In w)
    (HC : Hid (∀ (rp : Option Addr) (w : World), x.In w → y.In w → Calls Tryd.prog 48 #[.agg #[.int .i64 x.k, .slice x.a x.l.length x.c], .agg #[.int .i64 y.k, .slice y.a y.l.length y.c], .int .i64 1000, .pointer rp] w fun e w' => e = .returned (.bool r) ∧ Below w.heap.size w w')) :
    Calls Tryd.prog 27 #[.agg #[.int .i64 x.k, .slice x.a x.l.length x.c], .agg #[.int .i64 y.k, .slice y.a y.l.length y.c]] w fun e w' => e = .returned (.bool r) ∧ Below w.heap.size w w' := by
  have HH : Hid (∀ (w : World), x.In w → y.In w → Calls Tryd.prog 46 #[.func (.func 48) #[] #[], .agg #[.int .i64 x.k, .slice x.a x.l.length x.c], .agg #[.int .i64 y.k, .slice y.a y.l.length y.c]] w fun e w' => e = .returned (.bool r) ∧ Below w.heap.size w w') := fun w h1 h2 => holds_31 x y r w h1 h2 HC
  clear HC
  go_enter Tryd.func27, Tryd.ntmps27
  go_wp2_with fail
  have hb0 : Below w.heap.size w ((w.alloc (Obj.cells #[.int .i64 x.k, .slice x.a x.l.length x.c] 24)).alloc (Obj.cells #[.int .i64 y.k, .slice y.a y.l.length y.c] 24)) := ((Below.refl _ _).alloc (Nat.le_refl _) _).alloc (by simp) _
  refine (HH.out _ (hx.below hb0) (hy.below hb0)).mono ?_
  rintro e w1 ⟨rfl, hb1⟩
  have hb2 := hb0.trans (hb1.mono (by simp; omega))
  clear hb0 hb1
  go_wp2_with fail
  go_ret
  exact ⟨rfl, hb2⟩

theorem ret_bool {a b : Bool} (h : a = b) : Ending.returned (.bool a) = .returned (.bool b) := by rw [h]

theorem leaf_ty (k : Int) : (leaf k).ty = ⟨k, []⟩ := by simp [leaf, Tr.ty_mk]

/-- kind.Same of any type and Any. -/
theorem same_any0 (x : Tr) (w : World) (hx : x.In w) :
    Calls Tryd.prog 27 #[.agg #[.int .i64 x.k, .slice x.a x.l.length x.c], .agg #[.int .i64 0, .slice none 0 0]] w fun e w' => e = .returned (.bool (isAnyY x.ty)) ∧ Below w.heap.size w w' := by
  have e0 : isAnyY x.ty = relY escSame x.ty (leaf 0).ty := by rw [leaf_ty]; rfl
  rw [e0]
  by_cases ht : (x.k == (leaf 0).k && (x.l.length : Int) == ((leaf 0).l.length : Int)) = false
  · have hr : relY escSame x.ty (leaf 0).ty = false := relY_top escSame x (leaf 0) rfl ht
    rw [hr]
    exact same_by x (leaf 0) false w hx (leaf_in 0 w) (fun rp w h1 h2 => same_top x (leaf 0) rp w ht)
  · have hl : x.l = [] := by
      simp [leaf] at ht
      exact ht.2
    have hh : x.hgt ≤ 1000 := by
      obtain ⟨k, a, c, l⟩ := x
      dsimp only at hl
      subst hl
      rw [Tr.hgt_mk]
      simp
    have hs : x.sm := by
      obtain ⟨k, a, c, l⟩ := x
      dsimp only at hl
      subst hl
      exact Tr.sm_mk.2 ⟨by simp, fun t h => by cases h⟩
    exact same_whole x (leaf 0) w hx (leaf_in 0 w) hh hs

set_option maxHeartbeats 400000 in
/-- term.isAny. -/
theorem isAny_any (x : Tr) (w : World) (hx : x.In w) :
    Calls Tryd.prog 96 #[.agg #[.int .i64 x.k, .slice x.a x.l.length x.c]] w fun e w' => e = .returned (.bool (isAnyY x.ty)) ∧ Below w.heap.size w w' := by
  have HC : Hid (∀ w, x.In w → Calls Tryd.prog 27 #[.agg #[.int .i64 x.k, .slice x.a x.l.length x.c], .agg #[.int .i64 0, .slice none 0 0]] w fun e w' => e = .returned (.bool (isAnyY x.ty)) ∧ Below w.heap.size w w') := same_any0 x
  go_enter Tryd.func96, Tryd.ntmps96
  go_wp2_with fail
  have hb0 : Below w.heap.size w (w.alloc (Obj.cells #[.int .i64 x.k, .slice x.a x.l.length x.c] 24)) := (Below.refl _ _).alloc (Nat.le_refl _) _
  refine (HC.out _ (hx.below hb0)).mono ?_
  rintro e w1 ⟨rfl, hb1⟩
  have hb2 := hb0.trans (hb1.mono (by simp))
  clear hb0 hb1
  go_wp2_with fail
  go_ret
  exact ⟨rfl, hb2⟩

set_option maxHeartbeats 1000000 in
/-- term.goodTypes. -/
theorem goodTypes_any (x : TT) (w : World) (ht : x.t.In w) (hf : x.f.In w) :
    Calls Tryd.prog 79 #[.agg #[.int .i64 x.k, .int .i64 x.n, .int .i64 x.t.k, .slice x.t.a x.t.l.length x.t.c, .int .i64 x.f.k, .slice x.f.a x.f.l.length x.f.c, .slice x.a x.l.length x.c]] w fun e w' => e = .returned (.bool (okTypes x.k x.t.ty x.f.ty)) ∧ Below w.heap.size w w' := by
  have HF : Hid (∀ w, x.f.In w → Calls Tryd.prog 96 #[.agg #[.int .i64 x.f.k, .slice x.f.a x.f.l.length x.f.c]] w fun e w' => e = .returned (.bool (isAnyY x.f.ty)) ∧ Below w.heap.size w w') := isAny_any x.f
  have HT : Hid (∀ w, x.t.In w → Calls Tryd.prog 96 #[.agg #[.int .i64 x.t.k, .slice x.t.a x.t.l.length x.t.c]] w fun e w' => e = .returned (.bool (isAnyY x.t.ty)) ∧ Below w.heap.size w w') := isAny_any x.t
  have HG : Hid (∀ w, x.t.In w → Calls Tryd.prog 97 #[.agg #[.int .i64 x.t.k, .slice x.t.a x.t.l.length x.t.c]] w fun e w' => e = .returned (.bool (goodY 4 x.t.ty)) ∧ Below w.heap.size w w') := by
    intro w h
    have := good_any x.t w h
    rw [goodT_eq] at this
    exact this
  have HK : Hid (∀ w, Calls Tryd.prog 52 #[.int .i64 x.k] w fun e w' => e = .returned (.bool (tells x.k)) ∧ w' = w) := tells_any x.k
  obtain ⟨bf, hbf⟩ : ∃ b, isAnyY x.f.ty = b := ⟨_, rfl⟩
  obtain ⟨bt, hbt⟩ : ∃ b, tells x.k = b := ⟨_, rfl⟩
  have HO : Hid (okTypes x.k x.t.ty x.f.ty = (bf && (if bt = true then goodY 4 x.t.ty else isAnyY x.t.ty))) := by show _ = _; rw [okTypes, hbf, hbt]
  rw [hbf] at HF
  rw [hbt] at HK
  clear hbf hbt
  have hb0 : Below w.heap.size w (w.alloc (Obj.cells #[.int .i64 x.k, .int .i64 x.n, .int .i64 x.t.k, .slice x.t.a x.t.l.length x.t.c, .int .i64 x.f.k, .slice x.f.a x.f.l.length x.f.c, .slice x.a x.l.length x.c] 27)) := (Below.refl _ _).alloc (Nat.le_refl _) _
  cases bf
  · go_enter Tryd.func79, Tryd.ntmps79
    go_wp2_with fail
    refine (HF.out _ (hf.below hb0)).mono ?_
    rintro e w1 ⟨rfl, hb1⟩
    have hb2 := hb0.trans (hb1.mono (by simp))
    clear hb0 hb1
    go_wp2_with fail
    go_ret
    exact ⟨by rw [HO.out]; rfl, hb2⟩
  · go_enter Tryd.func79, Tryd.ntmps79
    go_wp2_with fail
    refine (HF.out _ (hf.below hb0)).mono ?_
    rintro e w1 ⟨rfl, hb1⟩
    have hb2 := hb0.trans (hb1.mono (by simp))
    have q0 : w1.cell? ⟨w.heap.size, 0, none⟩ = some (.int .i64 x.k) := cell_later hb1 (by simp [go_sem])
    have q2 : w1.cell? ⟨w.heap.size, 2, none⟩ = some (.int .i64 x.t.k) := cell_later hb1 (by simp [go_sem])
    have q3 : w1.cell? ⟨w.heap.size, 3, none⟩ = some (.slice x.t.a x.t.l.length x.t.c) := cell_later hb1 (by simp [go_sem])
    clear hb0 hb1
    go_wp2_with fail
    refine (HK.out _).mono ?_
    rintro e w' ⟨rfl, rfl⟩
    cases bt
    · go_wp2_with fail
      refine (HT.out _ (ht.below hb2)).mono ?_
      rintro e w2 ⟨rfl, hb3⟩
      have hb4 := hb2.trans (hb3.mono hb2.size)
      clear hb3 hb2
      go_wp2_with fail
      go_ret
      exact ⟨by rw [HO.out]; rfl, hb4⟩
    · go_wp2_with fail
      refine (HG.out _ (ht.below hb2)).mono ?_
      rintro e w2 ⟨rfl, hb3⟩
      have hb4 := hb2.trans (hb3.mono hb2.size)
      clear hb3 hb2
      go_wp2_with fail
      go_ret
      exact ⟨by rw [HO.out]; rfl, hb4⟩

set_option maxHeartbeats 1000000 in
/-- (*walk).goodNumber. -/
theorem goodNumber_any (R : Nat) (ar : Int) (ins : Nat) (hi : ins ≤ 1000) (x : TT) (hn : x.n ≤ 9223372036854775807) (w : World) (hr : w.cell? ⟨R, 0, none⟩ = some (.int .i64 ar)) :
    Calls Tryd.prog 80 #[.pointer (some ⟨R, 0, none⟩), .agg #[.int .i64 x.k, .int .i64 x.n, .int .i64 x.t.k, .slice x.t.a x.t.l.length x.t.c, .int .i64 x.f.k, .slice x.f.a x.f.l.length x.f.c, .slice x.a x.l.length x.c], .int .i64 (ins : Int)] w fun e w' => e = .returned (.bool (okNum ar (ins : Int) x.k x.n)) ∧ Below w.heap.size w w' := by
  have hRl : R < w.heap.size := World.block_lt_of_cell? _ _ hr
  by_cases h1 : x.k = 1
  · have hk : (x.k == 1) = true := by simp [h1]
    by_cases h0 : 0 ≤ x.n
    · have hd : decide (0 ≤ x.n) = true := by simp [h0]
      have HO : Hid (okNum ar (ins : Int) x.k x.n = decide (x.n - (ins : Int) < ar)) := by show _ = _; rw [okNum, if_pos h1, hd, Bool.true_and]
      clear h1
      go_enter Tryd.func80, Tryd.ntmps80
      go_wp2_with fail
      go_quiet (fail)
      go_wp2_with fail
      go_ret
      exact ⟨ret_bool HO.out.symm, below_drewN ((Below.refl _ _).alloc (Nat.le_refl _) _) _⟩
    · have hd : decide (0 ≤ x.n) = false := by simpa using h0
      have HO : Hid (okNum ar (ins : Int) x.k x.n = false) := by show _ = _; rw [okNum, if_pos h1, hd, Bool.false_and]
      clear h1
      go_enter Tryd.func80, Tryd.ntmps80
      go_wp2_with fail
      go_quiet (fail)
      go_wp2_with fail
      go_ret
      exact ⟨ret_bool HO.out.symm, below_drewN ((Below.refl _ _).alloc (Nat.le_refl _) _) _⟩
  · have hk1 : (x.k == 1) = false := by simpa using h1
    by_cases h2 : x.k = 2
    · have hk2 : (x.k == 2) = true := by simp [h2]
      by_cases h0 : -1000000 ≤ x.n
      · have hd : decide (-1000000 ≤ x.n) = true := by simp [h0]
        have HO : Hid (okNum ar (ins : Int) x.k x.n = decide (x.n ≤ 1000000)) := by show _ = _; rw [okNum, if_neg h1, if_pos h2, hd, Bool.true_and]
        clear h1 h2
        go_enter Tryd.func80, Tryd.ntmps80
        go_wp2_with fail
        go_ret
        exact ⟨ret_bool HO.out.symm, (Below.refl _ _).alloc (Nat.le_refl _) _⟩
      · have hd : decide (-1000000 ≤ x.n) = false := by simpa using h0
        have HO : Hid (okNum ar (ins : Int) x.k x.n = false) := by show _ = _; rw [okNum, if_neg h1, if_pos h2, hd, Bool.false_and]
        clear h1 h2
        go_enter Tryd.func80, Tryd.ntmps80
        go_wp2_with fail
        go_ret
        exact ⟨ret_bool HO.out.symm, (Below.refl _ _).alloc (Nat.le_refl _) _⟩
    · have hk2 : (x.k == 2) = false := by simpa using h2
      by_cases h3 : x.k = 3
      · have hk3 : (x.k == 3) = true := by simp [h3]
        cases h0 : (x.n == 0) with
        | true =>
          have HO : Hid (okNum ar (ins : Int) x.k x.n = true) := by show _ = _; rw [okNum, if_neg h1, if_neg h2, if_pos h3, h0, Bool.true_or]
          clear h1 h2 h3
          go_enter Tryd.func80, Tryd.ntmps80
          go_wp2_with fail
          go_ret
          exact ⟨ret_bool HO.out.symm, (Below.refl _ _).alloc (Nat.le_refl _) _⟩
        | false =>
          have HO : Hid (okNum ar (ins : Int) x.k x.n = (x.n == 1)) := by show _ = _; rw [okNum, if_neg h1, if_neg h2, if_pos h3, h0, Bool.false_or]
          clear h1 h2 h3
          go_enter Tryd.func80, Tryd.ntmps80
          go_wp2_with fail
          go_ret
          exact ⟨ret_bool HO.out.symm, (Below.refl _ _).alloc (Nat.le_refl _) _⟩
      · have hk3 : (x.k == 3) = false := by simpa using h3
        have HO : Hid (okNum ar (ins : Int) x.k x.n = (x.n == 0)) := by show _ = _; rw [okNum, if_neg h1, if_neg h2, if_neg h3]
        clear h1 h2 h3
        go_enter Tryd.func80, Tryd.ntmps80
        go_wp2_with fail
        go_ret
        exact ⟨ret_bool HO.out.symm, (Below.refl _ _).alloc (Nat.le_refl _) _⟩
end Go.Proofs.YtibjnkpmnimgoaaDoor
