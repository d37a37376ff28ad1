/-
  What the calls of chaperoneref.IsRight and chaperoneref.SureOf answer at a tree that lies in memory.
-/
import Derived.Test.YtaaplpcpifdnfaaSure
import Derived.Deep.DeepCutAuto
import Derived.Deep.LoopGhost
namespace Go.Proofs.Ytaaplpcpifdnfaa
open Go.RowKit

/-- One of the four kinds, of as many parts as it has. -/
def topR (k : Int) (m : Nat) : Bool := decide (0 ≤ k) && decide (k ≤ 2) && ((m : Int) == 0) || (k == 3 && (m : Int) == 2)

/-- Right, as a Bool. -/
def rightY : Ty → Bool
  | ⟨k, l⟩ => topR k l.length && (l.map fun t => rightY t).all id
theorem rightY_mk (k : Int) (l : List Ty) : rightY ⟨k, l⟩ = (topR k l.length && l.all rightY) := by
  rw [rightY, List.all_map]
  rfl

theorem take_all (f : Ty → Bool) (l : List Tr) (j : Nat) (h : j < l.length) : ((l.take (j + 1)).all fun t => f t.ty) = (((l.take j).all fun t => f t.ty) && f l[j].ty) := by
  rw [List.take_succ_eq_append_getElem h, List.all_append]
  simp

theorem right_ty (t : Tr) : rightY t.ty = (topR t.k t.l.length && t.l.all fun t => rightY t.ty) := by
  obtain ⟨k, a, c, l⟩ := t
  rw [Tr.ty_mk, rightY_mk, List.length_map, List.all_map]
  rfl

theorem sure_ty (t : Tr) : sureY t.ty = (t.k != 0 && t.l.all fun t => sureY t.ty) := by
  obtain ⟨k, a, c, l⟩ := t
  rw [Tr.ty_mk, sureY_mk, List.all_map]
  rfl

set_option maxHeartbeats 1000000 in
theorem sureOf_step (n : Nat) (x : Tr) (A : Option Addr) (HA : Hid (A = x.a)) (w : World) (hx : x.In w) (hh : x.hgt ≤ n + 1) (hs : x.sm)
    (ih : Hid (∀ (x : Tr) (w : World), x.In w → x.hgt ≤ n → x.sm → Calls Try.prog 26 #[.agg #[.int .i64 x.k, .slice x.a x.l.length x.c]] w fun e w' => e = .returned (.bool (sureY x.ty)) ∧ Below w.heap.size w w')) :
    Calls Try.prog 26 #[.agg #[.int .i64 x.k, .slice A x.l.length x.c]] w fun e w' => e = .returned (.bool (sureY x.ty)) ∧ Below w.heap.size w w' := by
  have hlen := hs.len
  have hb0 : Below w.heap.size w (w.alloc (.cells #[.int .i64 x.k, .slice A x.l.length x.c] 24)) := (Below.refl _ _).alloc (Nat.le_refl _) _
  go_enter Try.func26, Try.ntmps26
  go_wp2_with fail
  go_loopg [3, 12] x.l.length (fun g b i wr => ∃ (j : Nat) (c : Bool), j ≤ x.l.length ∧ g = x.l.length - j ∧ b = .bool c ∧ i = .int .i64 (j : Int) ∧ Below w.heap.size w wr ∧ Hid (c = (x.k != 0 && (x.l.take j).all fun t => sureY t.ty)))
  case atStart => exact ⟨0, _, Nat.zero_le _, rfl, rfl, rfl, hb0, by show _ = _; simp⟩
  case round =>
    obtain ⟨j, c, hj, hg, rfl, rfl, hbwr, HC⟩ := hrel
    have HG : Hid (gk = x.l.length - j) := hg
    clear hg
    by_cases hlt : j < x.l.length
    · obtain ⟨b, o, ea, x0, x1, hxj⟩ := hx.part j hlt
      have eA : A = some ⟨b, o, none⟩ := HA.out.trans ea
      subst eA
      clear ea HA
      replace x0 := cell_later hbwr x0
      replace x1 := cell_later hbwr x1
      have i1 : (j : Int) < (x.l.length : Int) := by omega
      have i0 : (0 : Int) ≤ (j : Int) := by omega
      have lb : b < wr.heap.size := World.block_lt_of_cell? _ _ x0
      obtain ⟨r, hr⟩ : ∃ r, sureY x.l[j].ty = r := ⟨_, rfl⟩
      have HI : Hid (∀ (w : World), x.l[j].In w → Calls Try.prog 26 #[.agg #[.int .i64 x.l[j].k, .slice x.l[j].a x.l[j].l.length x.l[j].c]] w fun e w' => e = .returned (.bool r) ∧ Below w.heap.size w w') := by
        intro w h1
        have := ih.out x.l[j] w h1 (Tr.hgt_part hh j hlt) (hs.part j hlt)
        rw [hr] at this
        exact this
      have HR : Hid (sureY x.l[j].ty = r) := hr
      clear hr
      have HT : Hid ((x.k != 0 && (x.l.take (j + 1)).all fun t => sureY t.ty) = ((x.k != 0 && (x.l.take j).all fun t => sureY t.ty) && r)) := by
        show _ = _
        rw [take_all sureY x.l j hlt, HR.out, Bool.and_assoc]
      have hba : Below w.heap.size w (wr.alloc (.cells #[.int .i64 x.l[j].k, .slice x.l[j].a x.l[j].l.length x.l[j].c] 24)) := hbwr.alloc hbwr.size _
      cases c
      · have HN : Hid (false = (x.k != 0 && (x.l.take (j + 1)).all fun t => sureY t.ty)) := by show _ = _; rw [HT.out, ← HC.out]; rfl
        clear HT HC HI HR ih
        go_wp2_with fail
        go_roundg (x.l.length - (j + 1))
        case measure => rw [HG.out]; omega
        case rel => exact ⟨j + 1, false, by omega, rfl, rfl, by go_num, hba, HN⟩
      · have HN : Hid (r = (x.k != 0 && (x.l.take (j + 1)).all fun t => sureY t.ty)) := by show _ = _; rw [HT.out, ← HC.out]; rfl
        clear HT HC HR ih
        go_wp2_with fail
        refine (HI.out _ (hxj.below hba)).mono ?_
        rintro e w2 ⟨rfl, hb2⟩
        have hb3 := hba.trans (hb2.mono hba.size)
        clear hb2 hba HI x0 x1
        go_wp2_with fail
        go_roundg (x.l.length - (j + 1))
        case measure => rw [HG.out]; omega
        case rel => exact ⟨j + 1, r, by omega, rfl, rfl, by go_num, hb3, HN⟩
    · have HN : Hid (c = sureY x.ty) := by
        show _ = _
        rw [HC.out, sure_ty, List.take_of_length_le (by omega)]
      clear HC
      go_wp2_with fail
      go_ret
      exact ⟨by rw [← HN.out]; rfl, hbwr⟩

theorem sureOf_any (n : Nat) : ∀ (x : Tr) (w : World), x.In w → x.hgt ≤ n → x.sm → Calls Try.prog 26 #[.agg #[.int .i64 x.k, .slice x.a x.l.length x.c]] w fun e w' => e = .returned (.bool (sureY x.ty)) ∧ Below w.heap.size w w' := by
  induction n with
  | zero =>
    intro x w _ h
    have := x.hgt_pos
    omega
  | succ n ih =>
    intro x w hx h hs
    exact sureOf_step n x x.a rfl w hx h hs (fun x w hx h hs => ih x w hx h hs)

set_option maxHeartbeats 1000000 in
theorem isRight_step (n : Nat) (x : Tr) (A : Option Addr) (HA : Hid (A = x.a)) (w : World) (hx : x.In w) (hh : x.hgt ≤ n + 1) (hs : x.sm)
    (ih : Hid (∀ (x : Tr) (w : World), x.In w → x.hgt ≤ n → x.sm → Calls Try.prog 13 #[.agg #[.int .i64 x.k, .slice x.a x.l.length x.c]] w fun e w' => e = .returned (.bool (rightY x.ty)) ∧ Below w.heap.size w w')) :
    Calls Try.prog 13 #[.agg #[.int .i64 x.k, .slice A x.l.length x.c]] w fun e w' => e = .returned (.bool (rightY x.ty)) ∧ Below w.heap.size w w' := by
  have hlen := hs.len
  have hb0 : Below w.heap.size w (w.alloc (.cells #[.int .i64 x.k, .slice A x.l.length x.c] 24)) := (Below.refl _ _).alloc (Nat.le_refl _) _
  go_enter Try.func13, Try.ntmps13
  go_upto_region 1 with fail
  go_cut [3] (fun s3 wx => s3 = .bool (topR x.k x.l.length) ∧ wx = w.alloc (.cells #[.int .i64 x.k, .slice A x.l.length x.c] 24))
  case first =>
    by_cases k0 : 0 ≤ x.k
    · by_cases k2 : x.k ≤ 2
      · have e3 : (x.k == 3) = false := by simp; omega
        cases m0 : ((x.l.length : Int) == 0) with
        | true =>
          go_wp2_with fail
          go_meet
          case rel => exact ⟨by simp [topR, k0, k2, m0], rfl⟩
        | false =>
          go_wp2_with fail
          go_meet
          case rel => exact ⟨by simp [topR, m0, e3], rfl⟩
      · have d2 : decide (x.k ≤ 2) = false := by simpa using k2
        cases e3 : (x.k == 3) with
        | true =>
          go_wp2_with fail
          go_meet
          case rel => exact ⟨by simp [topR, d2, e3], rfl⟩
        | false =>
          go_wp2_with fail
          go_meet
          case rel => exact ⟨by simp [topR, d2, e3], rfl⟩
    · have d0 : decide (0 ≤ x.k) = false := by simpa using k0
      have e3 : (x.k == 3) = false := by simp; omega
      go_wp2_with fail
      go_meet
      case rel => exact ⟨by simp [topR, d0, e3], rfl⟩
  case rest =>
  obtain ⟨h3, hwc⟩ := hcut
  subst h3 hwc
  go_wp2_with fail
  go_loopg [3, 34] x.l.length (fun g b i wr => ∃ (j : Nat) (c : Bool), j ≤ x.l.length ∧ g = x.l.length - j ∧ b = .bool c ∧ i = .int .i64 (j : Int) ∧ Below w.heap.size w wr ∧ Hid (c = (topR x.k x.l.length && (x.l.take j).all fun t => rightY t.ty)))
  case atStart => exact ⟨0, _, Nat.zero_le _, rfl, rfl, rfl, hb0, by show _ = _; simp⟩
  case round =>
    obtain ⟨j, c, hj, hg, rfl, rfl, hbwr, HC⟩ := hrel
    have HG : Hid (gk = x.l.length - j) := hg
    clear hg
    by_cases hlt : j < x.l.length
    · obtain ⟨b, o, ea, x0, x1, hxj⟩ := hx.part j hlt
      have eA : A = some ⟨b, o, none⟩ := HA.out.trans ea
      subst eA
      clear ea HA
      replace x0 := cell_later hbwr x0
      replace x1 := cell_later hbwr x1
      have i1 : (j : Int) < (x.l.length : Int) := by omega
      have i0 : (0 : Int) ≤ (j : Int) := by omega
      have lb : b < wr.heap.size := World.block_lt_of_cell? _ _ x0
      obtain ⟨r, hr⟩ : ∃ r, rightY x.l[j].ty = r := ⟨_, rfl⟩
      have HI : Hid (∀ (w : World), x.l[j].In w → Calls Try.prog 13 #[.agg #[.int .i64 x.l[j].k, .slice x.l[j].a x.l[j].l.length x.l[j].c]] w fun e w' => e = .returned (.bool r) ∧ Below w.heap.size w w') := by
        intro w h1
        have := ih.out x.l[j] w h1 (Tr.hgt_part hh j hlt) (hs.part j hlt)
        rw [hr] at this
        exact this
      have HR : Hid (rightY x.l[j].ty = r) := hr
      clear hr
      have HT : Hid ((topR x.k x.l.length && (x.l.take (j + 1)).all fun t => rightY t.ty) = ((topR x.k x.l.length && (x.l.take j).all fun t => rightY t.ty) && r)) := by
        show _ = _
        rw [take_all rightY x.l j hlt, HR.out, Bool.and_assoc]
      have hba : Below w.heap.size w (wr.alloc (.cells #[.int .i64 x.l[j].k, .slice x.l[j].a x.l[j].l.length x.l[j].c] 24)) := hbwr.alloc hbwr.size _
      cases c
      · have HN : Hid (false = (topR x.k x.l.length && (x.l.take (j + 1)).all fun t => rightY t.ty)) := by show _ = _; rw [HT.out, ← HC.out]; rfl
        clear HT HC HI HR ih
        go_wp2_with fail
        go_roundg (x.l.length - (j + 1))
        case measure => rw [HG.out]; omega
        case rel => exact ⟨j + 1, false, by omega, rfl, rfl, by go_num, hba, HN⟩
      · have HN : Hid (r = (topR x.k x.l.length && (x.l.take (j + 1)).all fun t => rightY t.ty)) := by show _ = _; rw [HT.out, ← HC.out]; rfl
        clear HT HC HR ih
        go_wp2_with fail
        refine (HI.out _ (hxj.below hba)).mono ?_
        rintro e w2 ⟨rfl, hb2⟩
        have hb3 := hba.trans (hb2.mono hba.size)
        clear hb2 hba HI x0 x1
        go_wp2_with fail
        go_roundg (x.l.length - (j + 1))
        case measure => rw [HG.out]; omega
        case rel => exact ⟨j + 1, r, by omega, rfl, rfl, by go_num, hb3, HN⟩
    · have HN : Hid (c = rightY x.ty) := by
        show _ = _
        rw [HC.out, right_ty, List.take_of_length_le (by omega)]
      clear HC
      go_wp2_with fail
      go_ret
      exact ⟨by rw [← HN.out]; rfl, hbwr⟩

theorem isRight_any (n : Nat) : ∀ (x : Tr) (w : World), x.In w → x.hgt ≤ n → x.sm → Calls Try.prog 13 #[.agg #[.int .i64 x.k, .slice x.a x.l.length x.c]] w fun e w' => e = .returned (.bool (rightY x.ty)) ∧ Below w.heap.size w w' := by
  induction n with
  | zero =>
    intro x w _ h
    have := x.hgt_pos
    omega
  | succ n ih =>
    intro x w hx h hs
    exact isRight_step n x x.a rfl w hx h hs (fun x w hx h hs => ih x w hx h hs)
end Go.Proofs.Ytaaplpcpifdnfaa
