/-
  What the calls of kind.To, kind.Ground, kind.Plain and kind.alikeAtTop answer, at whatever trees lie in memory.
-/
import Derived.Test.YtnddkmccagiclaaGreatDoorRows
import Derived.Test.YtnddkmccagiclaaGreatDoorLotf63a16e00c
import Derived.Deep.LoopGhost
import Derived.Deep.AppendLies
import Derived.Deep.AppendSrc
import Derived.Deep.RegionLaw
import Derived.WalkSmall
import Derived.Deep.DeepCutAuto
import Derived.Deep.RegionHeld3
namespace Go.Proofs.YtnddkmccagiclaaGreatDoor
open Go.RowKit

set_option maxHeartbeats 400000 in
/-- kind.alikeAtTop. -/
theorem alike_walk (k k' : Int) (a a' : Option Addr) (m m' c c' : Nat) (w : World) :
    Calls Tryz.prog 116 #[.agg #[.int .i64 k, .slice a m c], .agg #[.int .i64 k', .slice a' m' c']] w fun e w' => e = .returned (.bool (k == k' && (m : Int) == (m' : Int))) ∧ Below w.heap.size w w' := by
  by_cases h : (k == k') = true
  · go_enter Tryz.func116, Tryz.ntmps116
    go_wp2_with fail
    go_ret
    exact ⟨by simp [h], ((Below.refl _ _).alloc (Nat.le_refl _) _).alloc (by simp) _⟩
  · have h' : (k == k') = false := by simpa using h
    clear h
    go_enter Tryz.func116, Tryz.ntmps116
    go_wp2_with fail
    go_ret
    exact ⟨by simp [h'], ((Below.refl _ _).alloc (Nat.le_refl _) _).alloc (by simp) _⟩

theorem alike_any (k k' : Int) (a a' : Option Addr) (m m' c c' : Nat) (r : Bool) (hr : (k == k' && (m : Int) == (m' : Int)) = r) (w : World) :
    Calls Tryz.prog 116 #[.agg #[.int .i64 k, .slice a m c], .agg #[.int .i64 k', .slice a' m' c']] w fun e w' => e = .returned (.bool r) ∧ Below w.heap.size w w' := by
  rw [← hr]
  exact alike_walk k k' a a' m m' c c' w

set_option maxHeartbeats 400000 in
/-- kind.To. -/
theorem to_cells (k k' : Int) (a a' : Option Addr) (m m' c c' : Nat) (w : World) :
    Calls Tryz.prog 103 #[.agg #[.int .i64 k, .slice a m c], .agg #[.int .i64 k', .slice a' m' c']] w fun e w' => ∃ g, w.heap.size ≤ g ∧ e = .returned (.agg #[.int .i64 3, .slice (some ⟨g, 0, none⟩) 2 2]) ∧ w'.cell? ⟨g, 0, none⟩ = some (.int .i64 k) ∧ w'.cell? ⟨g, 1, none⟩ = some (.slice a m c) ∧ w'.cell? ⟨g, 2, none⟩ = some (.int .i64 k') ∧ w'.cell? ⟨g, 3, none⟩ = some (.slice a' m' c') ∧ Below w.heap.size w w' := by
  go_enter Tryz.func103, Tryz.ntmps103
  go_wp2_with fail
  refine bodyPost_ret (v := .agg #[.int .i64 3, .slice (some ⟨w.heap.size + 1 + 1 + 1, 0, none⟩) 2 2]) (by simp [results, Tryz.results103, go_sem]) rfl ⟨_, ?_, rfl, by simp [go_sem], by simp [go_sem], by simp [go_sem], by simp [go_sem], ?_⟩
  · omega
  exact ((((Below.refl _ _).alloc (Nat.le_refl _) _).alloc (by simp) _).alloc (by simp; omega) _).alloc (by simp; omega) _

theorem to_any (x y : Tr) (w : World) (hx : x.In w) (hy : y.In w) :
    Calls Tryz.prog 103 #[.agg #[.int .i64 x.k, .slice x.a x.l.length x.c], .agg #[.int .i64 y.k, .slice y.a y.l.length y.c]] w fun e w' => ∃ g, w.heap.size ≤ g ∧ e = .returned (.agg #[.int .i64 3, .slice (some ⟨g, 0, none⟩) 2 2]) ∧ (Tr.mk 3 (some ⟨g, 0, none⟩) 2 [x, y]).In w' ∧ Below w.heap.size w w' := by
  refine (to_cells x.k y.k x.a y.a x.l.length y.l.length x.c y.c w).mono ?_
  rintro e w' ⟨g, hg, rfl, c0, c1, c2, c3, hb⟩
  refine ⟨g, hg, rfl, ?_, hb⟩
  exact Tr.In_two c0 c1 c2 c3 (hx.below hb) (hy.below hb)

/-- A type without parts. -/
def leaf (k : Int) : Tr := .mk k none 0 []
theorem leaf_in (k : Int) (w : World) : (leaf k).In w := Tr.In_nil w k none 0
theorem leaf_bl (k : Int) (P : Nat → Prop) : (leaf k).Bl P := Tr.Bl_nil P k none 0

end Go.Proofs.YtnddkmccagiclaaGreatDoor

/-
  What the call of kind.Sure answers at a right tree of not too many nodes.
-/
namespace Go.Proofs.YtnddkmccagiclaaGreatDoor
open Go.RowKit

/-- Is Any nowhere in it? -/
def sureY : Ty → Bool
  | ⟨k, l⟩ => k != 0 && (l.map fun t => sureY t).all id
theorem sureY_mk (k : Int) (l : List Ty) : sureY ⟨k, l⟩ = (k != 0 && l.all sureY) := by
  rw [sureY, List.all_map]
  rfl

/-- How many nodes. -/
def Tr.sz : Tr → Nat
  | ⟨_, _, _, l⟩ => (l.map fun t => t.sz).sum + 1
theorem Tr.sz_mk (k : Int) (a : Option Addr) (c : Nat) (l : List Tr) : (Tr.mk k a c l).sz = (l.map Tr.sz).sum + 1 := by
  rw [Tr.sz]
theorem Tr.sz_pos (t : Tr) : 1 ≤ t.sz := by cases t; rw [Tr.sz_mk]; omega

theorem Tr.sz_good : ∀ (n : Nat) (t : Tr), goodT n t = true → t.sz + 1 ≤ 2 ^ n
  | 0, t, h => by simp [goodT] at h
  | n + 1, ⟨k, a, c, l⟩, h => by
    have hp : 1 ≤ 2 ^ n := Nat.one_le_two_pow
    rw [Tr.sz_mk, Nat.pow_succ]
    match l, h with
    | [], _ => simp; omega
    | [x], h => simp [goodT] at h
    | [x, y], h =>
      simp only [goodT, Bool.and_eq_true] at h
      have hx := Tr.sz_good n x h.1.2
      have hy := Tr.sz_good n y h.2
      simp only [List.map_cons, List.map_nil, List.sum_cons, List.sum_nil]; omega
    | x :: y :: z :: r, h => simp [goodT] at h

/-- The cells of a list of trees. -/
def cellsOf : List Tr → List Value
  | [] => []
  | t :: r => .int .i64 t.k :: .slice t.a t.l.length t.c :: cellsOf r

theorem cellsOf_length : ∀ l : List Tr, (cellsOf l).length = l.length * 2
  | [] => rfl
  | t :: r => by simp only [cellsOf, List.length_cons, cellsOf_length r]; omega

theorem cellsOf_append : ∀ l r : List Tr, cellsOf (l ++ r) = cellsOf l ++ cellsOf r
  | [], r => rfl
  | t :: l, r => by simp only [List.cons_append, cellsOf, cellsOf_append l r]

/-- What is left to be looked at. -/
def Left (B : Nat) (b : Bool) (N k : Nat) (v : Value) (wr : World) : Prop :=
  ∃ ts : List Tr, wr.ownsRow B 24 2 v ts.length (cellsOf ts) ∧ (∀ t, t ∈ ts → t.In wr ∧ t.Bl (· < B) ∧ t.right) ∧ (ts.map Tr.sz).sum = k ∧ k ≤ N ∧ b = ts.all fun t => sureY t.ty

theorem Left.split {ts : List Tr} (h : ts ≠ []) : ∃ us x, ts = us ++ [x] := ⟨ts.dropLast, ts.getLast h, (List.dropLast_concat_getLast h).symm⟩

/-- append of nothing, where there is room for nothing: a step of a region that draws. -/
theorem step_append_void {P : Program} {ops : Array Oper} {o : Oper} {a : Act} {w : World} {K : Act → World → Prop} {Q : Exit → Act → World → Prop} {E : Prop}
    (hg : o.guard = none) (s x : Operand) (t : TypeId) (hop : o.op = Op.call { callee := Callee.builtin Builtin.append, args := #[s, x], argTypes := #[t, t] })
    (e : TypeId) (i : TypeInfo) (h1 : P.underlying t = some (.slice e)) (h2 : P.info? e = some i)
    (b n cap : Nat) (hs : a.eval s = .slice (some ⟨b, 0, none⟩) n cap) (xa : Option Addr) (c : Nat) (hx : a.eval x = .slice xa 0 c) (hroom : n ≤ cap)
    (hK : K (a.put o.dst (.slice (some ⟨b, 0, none⟩) n cap)) w) :
    if Region.wanted o (yielded ops a.tmps) = true then Oper.wp P o a w K Q else E := by
  have hw : Region.wanted o (yielded ops a.tmps) = true := by simp [Region.wanted, hg]
  rw [if_pos hw]
  have hsrc : Src P i.size t (.slice xa 0 c) 0 [] w := by
    cases xa with
    | none => exact Src.ofNil w h1 c
    | some ad => exact Src.ofSlice w h1 ad 0 c [] (by simp) (fun j u h => by simp at h) (fun u h => by cases h)
  have hrun := run_append_room_src (P := P) w t t o.type e i h1 h2 b 0 n cap (.slice xa 0 c) 0 [] hsrc (by omega) (fun j h => by simp at h) (fun j h => by simp at h)
  unfold Oper.wp
  simp only [execOp, hop, resolve, invoke, builtin, Sem.run_bind, Sem.run_pure, Result.andThen_ok, List.map_toArray, List.map_cons, List.map_nil, hs, hx, hrun]
  exact hK

theorem sure_no (t : Tr) (h : t.k = 0) : sureY t.ty = false := by
  obtain ⟨k, a, c, l⟩ := t
  dsimp only at h
  rw [Tr.ty_mk, sureY_mk, h]
  simp

theorem sure_leaf (t : Tr) (h : t.l = []) (hk : t.k ≠ 0) : sureY t.ty = true := by
  obtain ⟨k, a, c, l⟩ := t
  dsimp only at h hk
  rw [Tr.ty_mk, sureY_mk, h]
  simpa using hk

theorem sure_two (t x y : Tr) (h : t.l = [x, y]) (hk : t.k ≠ 0) : sureY t.ty = (sureY x.ty && sureY y.ty) := by
  obtain ⟨k, a, c, l⟩ := t
  dsimp only at h hk
  rw [Tr.ty_mk, sureY_mk, h]
  simp [hk]

theorem Tr.sz_two (t x y : Tr) (h : t.l = [x, y]) : t.sz = x.sz + y.sz + 1 := by
  obtain ⟨k, a, c, l⟩ := t
  dsimp only at h
  rw [Tr.sz_mk, h]
  simp

theorem Tryz.info24s : (Tryz.prog.info? 24).map (fun i => (i.zero, i.size, i.bytes)) = some (some (.agg #[.int .i64 0, .slice none 0 0]), 2, 32) := by kernel_rfl
end Go.Proofs.YtnddkmccagiclaaGreatDoor

/-
  What the call of chaperoneref.IsRight answers at a tree that lies in memory.
-/
namespace Go.Proofs.YtnddkmccagiclaaGreatDoor
open Go.RowKit

/-- One of the four kinds, of as many parts as it has. -/
def topR (k : Int) (m : Nat) : Bool := decide (0 ≤ k) && decide (k ≤ 2) && ((m : Int) == 0) || (k == 3 && (m : Int) == 2)

/-- Right, as a Bool. -/
def rightY : Ty → Bool
  | ⟨k, l⟩ => topR k l.length && (l.map fun t => rightY t).all id
theorem rightY_mk (k : Int) (l : List Ty) : rightY ⟨k, l⟩ = (topR k l.length && l.all rightY) := by
  rw [rightY, List.all_map]
  rfl

theorem take_all (f : Ty → Bool) (l : List Tr) (j : Nat) (h : j < l.length) : ((l.take (j + 1)).all fun t => f t.ty) = (((l.take j).all fun t => f t.ty) && f l[j].ty) := by
  rw [List.take_succ_eq_append_getElem h, List.all_append]
  simp

theorem right_ty (t : Tr) : rightY t.ty = (topR t.k t.l.length && t.l.all fun t => rightY t.ty) := by
  obtain ⟨k, a, c, l⟩ := t
  rw [Tr.ty_mk, rightY_mk, List.length_map, List.all_map]
  rfl

theorem sure_ty (t : Tr) : sureY t.ty = (t.k != 0 && t.l.all fun t => sureY t.ty) := by
  obtain ⟨k, a, c, l⟩ := t
  rw [Tr.ty_mk, sureY_mk, List.all_map]
  rfl

set_option maxHeartbeats 1000000 in
theorem isRight_step (n : Nat) (x : Tr) (A : Option Addr) (HA : Hid (A = x.a)) (w : World) (hx : x.In w) (hh : x.hgt ≤ n + 1) (hs : x.sm)
    (ih : Hid (∀ (x : Tr) (w : World), x.In w → x.hgt ≤ n → x.sm → Calls Tryz.prog 77 #[.agg #[.int .i64 x.k, .slice x.a x.l.length x.c]] w fun e w' => e = .returned (.bool (rightY x.ty)) ∧ Below w.heap.size w w')) :
    Calls Tryz.prog 77 #[.agg #[.int .i64 x.k, .slice A x.l.length x.c]] w fun e w' => e = .returned (.bool (rightY x.ty)) ∧ Below w.heap.size w w' := by
  have hlen := hs.len
  have hb0 : Below w.heap.size w (w.alloc (.cells #[.int .i64 x.k, .slice A x.l.length x.c] 24)) := (Below.refl _ _).alloc (Nat.le_refl _) _
  go_enter Tryz.func77, Tryz.ntmps77
  go_upto_region 1 with fail
  go_cut [3] (fun s3 wx => s3 = .bool (topR x.k x.l.length) ∧ wx = w.alloc (.cells #[.int .i64 x.k, .slice A x.l.length x.c] 24))
  case first =>
    by_cases k0 : 0 ≤ x.k
    · by_cases k2 : x.k ≤ 2
      · have e3 : (x.k == 3) = false := by simp; omega
        cases m0 : ((x.l.length : Int) == 0) with
        | true =>
          go_wp2_with fail
          go_meet
          case rel => exact ⟨by simp [topR, k0, k2, m0], rfl⟩
        | false =>
          go_wp2_with fail
          go_meet
          case rel => exact ⟨by simp [topR, m0, e3], rfl⟩
      · have d2 : decide (x.k ≤ 2) = false := by simpa using k2
        cases e3 : (x.k == 3) with
        | true =>
          go_wp2_with fail
          go_meet
          case rel => exact ⟨by simp [topR, d2, e3], rfl⟩
        | false =>
          go_wp2_with fail
          go_meet
          case rel => exact ⟨by simp [topR, d2, e3], rfl⟩
    · have d0 : decide (0 ≤ x.k) = false := by simpa using k0
      have e3 : (x.k == 3) = false := by simp; omega
      go_wp2_with fail
      go_meet
      case rel => exact ⟨by simp [topR, d0, e3], rfl⟩
  case rest =>
  obtain ⟨h3, hwc⟩ := hcut
  subst h3 hwc
  go_wp2_with fail
  go_loopg [3, 34] x.l.length (fun g b i wr => ∃ (j : Nat) (c : Bool), j ≤ x.l.length ∧ g = x.l.length - j ∧ b = .bool c ∧ i = .int .i64 (j : Int) ∧ Below w.heap.size w wr ∧ Hid (c = (topR x.k x.l.length && (x.l.take j).all fun t => rightY t.ty)))
  case atStart => exact ⟨0, _, Nat.zero_le _, rfl, rfl, rfl, hb0, by show _ = _; simp⟩
  case round =>
    obtain ⟨j, c, hj, hg, rfl, rfl, hbwr, HC⟩ := hrel
    have HG : Hid (gk = x.l.length - j) := hg
    clear hg
    by_cases hlt : j < x.l.length
    · obtain ⟨b, o, ea, x0, x1, hxj⟩ := hx.part j hlt
      have eA : A = some ⟨b, o, none⟩ := HA.out.trans ea
      subst eA
      clear ea HA
      replace x0 := cell_later hbwr x0
      replace x1 := cell_later hbwr x1
      have i1 : (j : Int) < (x.l.length : Int) := by omega
      have i0 : (0 : Int) ≤ (j : Int) := by omega
      have lb : b < wr.heap.size := World.block_lt_of_cell? _ _ x0
      obtain ⟨r, hr⟩ : ∃ r, rightY x.l[j].ty = r := ⟨_, rfl⟩
      have HI : Hid (∀ (w : World), x.l[j].In w → Calls Tryz.prog 77 #[.agg #[.int .i64 x.l[j].k, .slice x.l[j].a x.l[j].l.length x.l[j].c]] w fun e w' => e = .returned (.bool r) ∧ Below w.heap.size w w') := by
        intro w h1
        have := ih.out x.l[j] w h1 (Tr.hgt_part hh j hlt) (hs.part j hlt)
        rw [hr] at this
        exact this
      have HR : Hid (rightY x.l[j].ty = r) := hr
      clear hr
      have HT : Hid ((topR x.k x.l.length && (x.l.take (j + 1)).all fun t => rightY t.ty) = ((topR x.k x.l.length && (x.l.take j).all fun t => rightY t.ty) && r)) := by
        show _ = _
        rw [take_all rightY x.l j hlt, HR.out, Bool.and_assoc]
      have hba : Below w.heap.size w (wr.alloc (.cells #[.int .i64 x.l[j].k, .slice x.l[j].a x.l[j].l.length x.l[j].c] 24)) := hbwr.alloc hbwr.size _
      cases c
      · have HN : Hid (false = (topR x.k x.l.length && (x.l.take (j + 1)).all fun t => rightY t.ty)) := by show _ = _; rw [HT.out, ← HC.out]; rfl
        clear HT HC HI HR ih
        go_wp2_with fail
        go_roundg (x.l.length - (j + 1))
        case measure => rw [HG.out]; omega
        case rel => exact ⟨j + 1, false, by omega, rfl, rfl, by go_num, hba, HN⟩
      · have HN : Hid (r = (topR x.k x.l.length && (x.l.take (j + 1)).all fun t => rightY t.ty)) := by show _ = _; rw [HT.out, ← HC.out]; rfl
        clear HT HC HR ih
        go_wp2_with fail
        refine (HI.out _ (hxj.below hba)).mono ?_
        rintro e w2 ⟨rfl, hb2⟩
        have hb3 := hba.trans (hb2.mono hba.size)
        clear hb2 hba HI x0 x1
        go_wp2_with fail
        go_roundg (x.l.length - (j + 1))
        case measure => rw [HG.out]; omega
        case rel => exact ⟨j + 1, r, by omega, rfl, rfl, by go_num, hb3, HN⟩
    · have HN : Hid (c = rightY x.ty) := by
        show _ = _
        rw [HC.out, right_ty, List.take_of_length_le (by omega)]
      clear HC
      go_wp2_with fail
      go_ret
      exact ⟨by rw [← HN.out]; rfl, hbwr⟩

theorem isRight_any (n : Nat) : ∀ (x : Tr) (w : World), x.In w → x.hgt ≤ n → x.sm → Calls Tryz.prog 77 #[.agg #[.int .i64 x.k, .slice x.a x.l.length x.c]] w fun e w' => e = .returned (.bool (rightY x.ty)) ∧ Below w.heap.size w w' := by
  induction n with
  | zero =>
    intro x w _ h
    have := x.hgt_pos
    omega
  | succ n ih =>
    intro x w hx h hs
    exact isRight_step n x x.a rfl w hx h hs (fun x w hx h hs => ih x w hx h hs)
end Go.Proofs.YtnddkmccagiclaaGreatDoor

/-
  What the calls of chaperoneref.DeepOf and chaperoneref.IsType answer at a tree that lies in memory.
-/
namespace Go.Proofs.YtnddkmccagiclaaGreatDoor
open Go.RowKit

/-- The most levels of a list's trees. -/
def most (l : List Tr) : Nat := (l.map Tr.hgt).foldr max 0

theorem most_append : ∀ (l r : List Tr), most (l ++ r) = max (most l) (most r)
  | [], r => by simp [most]
  | t :: l, r => by
    have := most_append l r
    simp only [most, List.cons_append, List.map_cons, List.foldr_cons] at this ⊢
    rw [this]; omega

theorem most_take (l : List Tr) (j : Nat) (h : j < l.length) : most (l.take (j + 1)) = max (most (l.take j)) l[j].hgt := by
  rw [List.take_succ_eq_append_getElem h, most_append]
  simp [most]

theorem most_le (l : List Tr) (j : Nat) : most (l.take j) ≤ most l := by
  have h := most_append (l.take j) (l.drop j)
  rw [List.take_append_drop] at h
  omega

theorem hgt_most (t : Tr) : t.hgt = most t.l + 1 := by
  obtain ⟨k, a, c, l⟩ := t
  rw [Tr.hgt_mk]
  rfl

set_option maxHeartbeats 1000000 in
theorem deepOf_step (n : Nat) (hn : n ≤ 1000000000) (x : Tr) (A : Option Addr) (HA : Hid (A = x.a)) (w : World) (hx : x.In w) (hh : x.hgt ≤ n + 1) (hs : x.sm)
    (ih : Hid (∀ (x : Tr) (w : World), x.In w → x.hgt ≤ n → x.sm → Calls Tryz.prog 78 #[.agg #[.int .i64 x.k, .slice x.a x.l.length x.c]] w fun e w' => e = .returned (.int .i64 (x.hgt : Int)) ∧ Below w.heap.size w w')) :
    Calls Tryz.prog 78 #[.agg #[.int .i64 x.k, .slice A x.l.length x.c]] w fun e w' => e = .returned (.int .i64 (x.hgt : Int)) ∧ Below w.heap.size w w' := by
  have hlen := hs.len
  have hm := hgt_most x
  have HM : Hid (x.hgt = most x.l + 1) := hm
  have hmn : most x.l ≤ n := by omega
  clear hm
  have hb0 : Below w.heap.size w (w.alloc (.cells #[.int .i64 x.k, .slice A x.l.length x.c] 24)) := (Below.refl _ _).alloc (Nat.le_refl _) _
  go_enter Tryz.func78, Tryz.ntmps78
  go_wp2_with fail
  go_loopg [3, 9] x.l.length (fun g b i wr => ∃ (j m : Nat), j ≤ x.l.length ∧ g = x.l.length - j ∧ b = .int .i64 (m : Int) ∧ i = .int .i64 (j : Int) ∧ Below w.heap.size w wr ∧ Hid (m = most (x.l.take j)))
  case atStart => exact ⟨0, 0, Nat.zero_le _, rfl, rfl, rfl, hb0, rfl⟩
  case round =>
    obtain ⟨j, m, hj, hg, rfl, rfl, hbwr, HC⟩ := hrel
    have HG : Hid (gk = x.l.length - j) := hg
    clear hg
    have hmm : m ≤ n := by have := most_le x.l j; rw [HC.out]; omega
    by_cases hlt : j < x.l.length
    · obtain ⟨b, o, ea, x0, x1, hxj⟩ := hx.part j hlt
      have eA : A = some ⟨b, o, none⟩ := HA.out.trans ea
      subst eA
      clear ea HA
      replace x0 := cell_later hbwr x0
      replace x1 := cell_later hbwr x1
      have i1 : (j : Int) < (x.l.length : Int) := by omega
      have i0 : (0 : Int) ≤ (j : Int) := by omega
      have lb : b < wr.heap.size := World.block_lt_of_cell? _ _ x0
      obtain ⟨r, hr⟩ : ∃ r, x.l[j].hgt = r := ⟨_, rfl⟩
      have HI : Hid (∀ (w : World), x.l[j].In w → Calls Tryz.prog 78 #[.agg #[.int .i64 x.l[j].k, .slice x.l[j].a x.l[j].l.length x.l[j].c]] w fun e w' => e = .returned (.int .i64 (r : Int)) ∧ Below w.heap.size w w') := by
        intro w h1
        have := ih.out x.l[j] w h1 (Tr.hgt_part hh j hlt) (hs.part j hlt)
        rw [hr] at this
        exact this
      have HT : Hid (most (x.l.take (j + 1)) = max m r) := by
        show _ = _
        rw [most_take x.l j hlt, hr, ← HC.out]
      clear hr
      have hba : Below w.heap.size w (wr.alloc (.cells #[.int .i64 x.l[j].k, .slice x.l[j].a x.l[j].l.length x.l[j].c] 24)) := hbwr.alloc hbwr.size _
      clear HC ih
      go_wp2_with fail
      refine (HI.out _ (hxj.below hba)).mono ?_
      rintro e w2 ⟨rfl, hb2⟩
      have hb3 := hba.trans (hb2.mono hba.size)
      clear hb2 hba HI x0 x1
      rcases Nat.lt_or_ge m r with hmr | hmr
      · have hmi : (m : Int) < (r : Int) := by omega
        have HE : Hid (r = most (x.l.take (j + 1))) := by show _ = _; rw [HT.out]; omega
        go_wp2_with fail
        go_roundg (x.l.length - (j + 1))
        case measure => rw [HG.out]; omega
        case rel => exact ⟨j + 1, r, by omega, rfl, (by first | rfl | (congr 1; omega)), by go_num, hb3, HE⟩
      · have hmi : (r : Int) ≤ (m : Int) := by omega
        have HE : Hid (m = most (x.l.take (j + 1))) := by show _ = _; rw [HT.out]; omega
        go_wp2_with fail
        go_roundg (x.l.length - (j + 1))
        case measure => rw [HG.out]; omega
        case rel => exact ⟨j + 1, m, by omega, rfl, (by first | rfl | (congr 1; omega)), by go_num, hb3, HE⟩
    · have HN : Hid (m + 1 = x.hgt) := by
        show _ = _
        rw [HC.out, HM.out, List.take_of_length_le (by omega)]
      clear HC HM
      go_wp2_with fail
      go_ret
      exact ⟨by rw [← HN.out]; rfl, hbwr⟩

/-- chaperoneref.DeepOf. -/
theorem deepOf_any (n : Nat) : n ≤ 1000000000 → ∀ (x : Tr) (w : World), x.In w → x.hgt ≤ n → x.sm → Calls Tryz.prog 78 #[.agg #[.int .i64 x.k, .slice x.a x.l.length x.c]] w fun e w' => e = .returned (.int .i64 (x.hgt : Int)) ∧ Below w.heap.size w w' := by
  induction n with
  | zero =>
    intro _ x w _ h
    have := x.hgt_pos
    omega
  | succ n ih =>
    intro hn x w hx h hs
    exact deepOf_step n (by omega) x x.a rfl w hx h hs (fun x w hx h hs => ih (by omega) x w hx h hs)
end Go.Proofs.YtnddkmccagiclaaGreatDoor

/-
  What the calls of (*later).put, (*later).empty and (*later).take do to a list of pairs that lies behind a pointer.
-/
namespace Go.Proofs.YtnddkmccagiclaaGreatDoor
open Go.RowKit

theorem Tryz.info168 : (Tryz.prog.info? 168).map (fun i => (i.zero, i.size, i.bytes)) = some (some (.agg #[.int .i64 0, .slice none 0 0, .int .i64 0, .slice none 0 0, .pointer none]), 5, 72) := by kernel_rfl

/-- But for block r and one row the memory is as it was. -/
structure Kept (r : Nat) (o : Option Nat) (w w' : World) : Prop where
  os : w'.os = w.os
  tape : w'.tape = w.tape
  output : w'.output = w.output
  size : w.heap.size ≤ w'.heap.size
  block : ∀ k, k < w.heap.size → k ≠ r → some k ≠ o → w'.heap[k]? = w.heap[k]?

theorem Kept.below {r : Nat} {o : Option Nat} {w w' : World} (h : Kept r o w w') (ho : ∀ g, o = some g → r ≤ g) (hr : r ≤ w.heap.size) : Below r w w' :=
  ⟨h.os, h.tape, h.output, h.size, fun k hk => h.block k (by omega) (by omega) (fun e => by have := ho k e.symm; omega)⟩

theorem put_end {r : Nat} {v : Value} {n : Nat} {ys : List Value} {w w1 : World} {X : Obj} {g cap : Nat} (hgrow : (((w.alloc X).alloc X).drew).grownBy w1 v.ownBlock) (hown : w1.ownsRow (r + 1) 168 5 (.slice (some ⟨g, 0, none⟩) (n + 1) cap) (n + 1) ys)
    (hat : v.ownBlock = some g ∨ g = w.heap.size + 2) (hcr : w1.cell? ⟨r, 0, none⟩ = some v) (hfr : w1.frozen? ⟨r, 0, none⟩ = false) :
    ∃ g' cap', (w1.setCell ⟨r, 0, none⟩ (.slice (some ⟨g, 0, none⟩) (n + 1) cap)).cell? ⟨r, 0, none⟩ = some (.slice (some ⟨g', 0, none⟩) (n + 1) cap') ∧ (w1.setCell ⟨r, 0, none⟩ (.slice (some ⟨g, 0, none⟩) (n + 1) cap)).frozen? ⟨r, 0, none⟩ = false ∧
      (w1.setCell ⟨r, 0, none⟩ (.slice (some ⟨g, 0, none⟩) (n + 1) cap)).ownsRow (r + 1) 168 5 (.slice (some ⟨g', 0, none⟩) (n + 1) cap') (n + 1) ys ∧ (v.ownBlock = some g' ∨ w.heap.size ≤ g') ∧ Kept r v.ownBlock w (w1.setCell ⟨r, 0, none⟩ (.slice (some ⟨g, 0, none⟩) (n + 1) cap)) := by
  have hb : Below w.heap.size w ((w.alloc X).alloc X).drew := (((Below.refl _ _).alloc (Nat.le_refl _) _).alloc (by simp) _).drew
  refine ⟨g, cap, World.cell?_setCell_same _ _ _ hcr, by simpa using hfr, ownsRow_setCell_below hown (by simp) _, ?_, ?_⟩
  · rcases hat with h | h
    · exact .inl h
    · exact .inr (by omega)
  · have hs := hgrow.size
    have hsz : ((w.alloc X).alloc X).drew.heap.size = w.heap.size + 1 + 1 := by simp
    refine ⟨hgrow.os.trans hb.os, hgrow.tape.trans hb.tape, hgrow.output.trans hb.output, ?_, fun k hk h1 h2 => ?_⟩
    · rw [show (w1.setCell ⟨r, 0, none⟩ (.slice (some ⟨g, 0, none⟩) (n + 1) cap)).heap.size = w1.heap.size from by simp [World.setCell]]
      omega
    · rw [Below.heap_setCell _ _ _ _ h1, hgrow.block k (by omega) h2, hb.block k hk]

set_option maxHeartbeats 400000 in
theorem empty_any (r : Nat) (a : Option Addr) (n c : Nat) (w : World) (hv : w.cell? ⟨r, 0, none⟩ = some (.slice a n c)) :
    Calls Tryz.prog 108 #[.pointer (some ⟨r, 0, none⟩)] w fun e w' => e = .returned (.bool ((n : Int) == 0)) ∧ w' = w := by
  go_enter Tryz.func108, Tryz.ntmps108
  go_wp2_with fail
  go_ret
  exact ⟨rfl, rfl⟩

set_option maxHeartbeats 400000 in
theorem take_any (r g : Nat) (n c : Nat) (k k' : Int) (a a' : Option Addr) (m m' d d' : Nat) (p : Option Addr) (w : World) (hv : w.cell? ⟨r, 0, none⟩ = some (.slice (some ⟨g, 0, none⟩) (n + 1) c)) (hf : w.frozen? ⟨r, 0, none⟩ = false) (hc : n + 1 ≤ c) (hn : n ≤ 140737488355328)
    (h0 : w.cell? ⟨g, n * 5, none⟩ = some (.int .i64 k)) (h1 : w.cell? ⟨g, n * 5 + 1, none⟩ = some (.slice a m d)) (h2 : w.cell? ⟨g, n * 5 + 2, none⟩ = some (.int .i64 k')) (h3 : w.cell? ⟨g, n * 5 + 3, none⟩ = some (.slice a' m' d')) (h4 : w.cell? ⟨g, n * 5 + 4, none⟩ = some (.pointer p)) :
    Calls Tryz.prog 110 #[.pointer (some ⟨r, 0, none⟩)] w fun e w' => e = .returned (.agg #[.int .i64 k, .slice a m d, .int .i64 k', .slice a' m' d', .pointer p]) ∧
      w' = ((w.setCell ⟨r, 0, none⟩ (.slice (some ⟨g, 0, none⟩) n c)).alloc (.cells #[.int .i64 k, .slice a m d, .int .i64 k', .slice a' m' d', .pointer p] 168)).alloc (.cells #[.int .i64 k, .slice a m d, .int .i64 k', .slice a' m' d', .pointer p] 168) := by
  have lr : r < w.heap.size := World.block_lt_of_cell? _ _ hv
  have lg : g < w.heap.size := World.block_lt_of_cell? _ _ h0
  go_enter Tryz.func110, Tryz.ntmps110
  go_wp2_with fail
  exact bodyPost_ret (v := .agg #[.int .i64 k, .slice a m d, .int .i64 k', .slice a' m' d', .pointer p]) (by simp [results, Tryz.results110, go_sem]) rfl ⟨rfl, rfl⟩

set_option maxHeartbeats 1000000 in
theorem put_any (r : Nat) (v : Value) (n : Nat) (xs : List Value) (k k' : Int) (a a' : Option Addr) (m m' d d' : Nat) (p : Option Addr) (w : World) (hv : w.cell? ⟨r, 0, none⟩ = some v) (hf : w.frozen? ⟨r, 0, none⟩ = false) (hown : w.ownsRow (r + 1) 168 5 v n xs) (hn : n + 1 ≤ 1000000000) :
    Calls Tryz.prog 107 #[.pointer (some ⟨r, 0, none⟩), .agg #[.int .i64 k, .slice a m d, .int .i64 k', .slice a' m' d', .pointer p]] w fun e w' => e = .returned (.tuple #[]) ∧
      ∃ g cap, w'.cell? ⟨r, 0, none⟩ = some (.slice (some ⟨g, 0, none⟩) (n + 1) cap) ∧ w'.frozen? ⟨r, 0, none⟩ = false ∧ w'.ownsRow (r + 1) 168 5 (.slice (some ⟨g, 0, none⟩) (n + 1) cap) (n + 1) (xs ++ [.int .i64 k, .slice a m d, .int .i64 k', .slice a' m' d', .pointer p]) ∧ (v.ownBlock = some g ∨ w.heap.size ≤ g) ∧ Kept r v.ownBlock w w' := by
  have lr : r < w.heap.size := World.block_lt_of_cell? _ _ hv
  obtain ⟨i0, hi0, hz0, hz1, hz2⟩ := info_parts Tryz.info168
  have hnr : v.ownBlock ≠ some r := by
    rcases hown.2 with ⟨rfl, _⟩ | ⟨g, cap, cur, rfl, hg, _⟩
    · simp [Value.ownBlock]
    · simp only [Value.ownBlock, ne_eq, Option.some.injEq]; omega
  have hnw : v.ownBlock ≠ some w.heap.size := by
    rcases hown.2 with ⟨rfl, _⟩ | ⟨g, cap, cur, rfl, hg, hb, _⟩
    · simp [Value.ownBlock]
    · have : g < w.heap.size := by
        rcases Nat.lt_or_ge g w.heap.size with hlt | hge
        · exact hlt
        · rw [Array.getElem?_eq_none hge] at hb; cases hb
      simp only [Value.ownBlock, ne_eq, Option.some.injEq]; omega
  have hfz2 : ((w.alloc (.cells #[.int .i64 k, .slice a m d, .int .i64 k', .slice a' m' d', .pointer p] 168)).alloc (.cells #[.int .i64 k, .slice a m d, .int .i64 k', .slice a' m' d', .pointer p] 168)).drew.frozen? ⟨r, 0, none⟩ = false := by
    have hb : Below w.heap.size w ((w.alloc (.cells #[.int .i64 k, .slice a m d, .int .i64 k', .slice a' m' d', .pointer p] 168)).alloc (.cells #[.int .i64 k, .slice a m d, .int .i64 k', .slice a' m' d', .pointer p] 168)).drew := (((Below.refl _ _).alloc (Nat.le_refl _) _).alloc (by simp) _).drew
    rw [hb.frozen (p := ⟨r, 0, none⟩) lr]; exact hf
  have hvz2 : ((w.alloc (.cells #[.int .i64 k, .slice a m d, .int .i64 k', .slice a' m' d', .pointer p] 168)).alloc (.cells #[.int .i64 k, .slice a m d, .int .i64 k', .slice a' m' d', .pointer p] 168)).drew.cell? ⟨r, 0, none⟩ = some v := by
    have hb : Below w.heap.size w ((w.alloc (.cells #[.int .i64 k, .slice a m d, .int .i64 k', .slice a' m' d', .pointer p] 168)).alloc (.cells #[.int .i64 k, .slice a m d, .int .i64 k', .slice a' m' d', .pointer p] 168)).drew := (((Below.refl _ _).alloc (Nat.le_refl _) _).alloc (by simp) _).drew
    exact cell_later hb hv
  have hblk : ((w.alloc (.cells #[.int .i64 k, .slice a m d, .int .i64 k', .slice a' m' d', .pointer p] 168)).alloc (.cells #[.int .i64 k, .slice a m d, .int .i64 k', .slice a' m' d', .pointer p] 168)).drew.heap[w.heap.size + 1]? = some (.cells #[.int .i64 k, .slice a m d, .int .i64 k', .slice a' m' d', .pointer p] 168) := by
    have h := heap_alloc_new (w.alloc (.cells #[.int .i64 k, .slice a m d, .int .i64 k', .slice a' m' d', .pointer p] 168)) (.cells #[.int .i64 k, .slice a m d, .int .i64 k', .slice a' m' d', .pointer p] 168)
    rw [World.size_alloc] at h
    exact h
  go_enter Tryz.func107, Tryz.ntmps107
  go_wp2_with fail
  go_region_law
    ((refine step_append_lies _ (by rfl) _ _ _ (by rfl) (r + 1) 168 i0 _ 5 72 Tryz.underlying162 hi0 hz0 hz1 hz2 rfl (by omega) v n xs (by rfl) (((hown.alloc _).alloc _).drew)
        ⟨w.heap.size + 1, 0, none⟩ 1 1 [.int .i64 k, .slice a m d, .int .i64 k', .slice a' m' d', .pointer p] (by rfl) (by rfl) (World.news_of_block (cs := #[.int .i64 k, .slice a m d, .int .i64 k', .slice a' m' d', .pointer p]) (t := 168) (fr := (0, 0)) hblk) (by simp [Value.oneCell'])
        (by omega) (by unfold maxLen; omega) (by omega) (by simp; omega) (w.heap.size + 2) (by simp) ?_; intro gg cap w1 hown1 hgrow hat hlt; have hfr : w1.frozen? ⟨r, 0, none⟩ = false := (by rw [hgrow.frozen_far _ (by simp; omega) (Ne.symm hnr)]; exact hfz2); have hcr : w1.cell? ⟨r, 0, none⟩ = some v := (by rw [hgrow.cell_far _ (by simp; omega) (Ne.symm hnr)]; exact hvz2)))
  all_goals
    go_end0
    exact ⟨rfl, put_end hgrow hown1 hat hcr hfr⟩
end Go.Proofs.YtnddkmccagiclaaGreatDoor

/-
  What the calls of kind.join and kind.Join do at two right trees of which the first has no more levels than there is room for.
-/
namespace Go.Proofs.YtnddkmccagiclaaGreatDoor
open Go.RowKit

/-- But for two cells of one block the memory that was there is as it was. -/
structure Wrote (ib io : Nat) (w w' : World) : Prop where
  os : w'.os = w.os
  tape : w'.tape = w.tape
  output : w'.output = w.output
  size : w.heap.size ≤ w'.heap.size
  block : ∀ k, k < w.heap.size → k ≠ ib → w'.heap[k]? = w.heap[k]?
  cell : ∀ o, o ≠ io → o ≠ io + 1 → w'.cell? ⟨ib, o, none⟩ = w.cell? ⟨ib, o, none⟩
  frozen : ∀ o, w'.frozen? ⟨ib, o, none⟩ = w.frozen? ⟨ib, o, none⟩

theorem Wrote.alloc {ib io : Nat} {w w' : World} (h : Wrote ib io w w') (hi : ib < w.heap.size) (o : Obj) : Wrote ib io w (w'.alloc o) :=
  have hs := h.size
  have hb : Below w'.heap.size w' (w'.alloc o) := (Below.refl _ _).alloc (Nat.le_refl _) o
  ⟨h.os, h.tape, h.output, by rw [World.size_alloc]; omega, fun k hk hne => (hb.block k (by omega)).trans (h.block k hk hne), fun q h0 h1 => (hb.cell (p := ⟨ib, q, none⟩) (by simp; omega)).trans (h.cell q h0 h1), fun q => (hb.frozen (p := ⟨ib, q, none⟩) (by simp; omega)).trans (h.frozen q)⟩

theorem Wrote.of_below {ib io : Nat} {w w' : World} (h : Below w.heap.size w w') (hi : ib < w.heap.size) : Wrote ib io w w' :=
  ⟨h.os, h.tape, h.output, h.size, fun k hk _ => h.block k hk, fun q _ _ => h.cell (p := ⟨ib, q, none⟩) hi, fun q => h.frozen (p := ⟨ib, q, none⟩) hi⟩

theorem Wrote.set {ib io : Nat} {w w' : World} (h : Wrote ib io w w') (u v : Value) : Wrote ib io w ((w'.setCell ⟨ib, io, none⟩ u).setCell ⟨ib, io + 1, none⟩ v) := by
  refine ⟨h.os, h.tape, h.output, ?_, fun k hk hne => ?_, fun q h0 h1 => ?_, fun q => ?_⟩
  · have hs := h.size
    simp only [World.setCell, Array.size_modify]; exact hs
  · rw [Below.heap_setCell _ _ _ _ hne, Below.heap_setCell _ _ _ _ hne]; exact h.block k hk hne
  · rw [World.cell?_setCell_other, World.cell?_setCell_other]
    · exact h.cell q h0 h1
    · intro e; simp only [Addr.mk.injEq] at e; omega
    · intro e; simp only [Addr.mk.injEq] at e; omega
  · rw [World.frozen?_setCell, World.frozen?_setCell]; exact h.frozen q

theorem set_cells {ib io : Nat} {w : World} {u v u' v' : Value} (h0 : w.cell? ⟨ib, io, none⟩ = some u') (h1 : w.cell? ⟨ib, io + 1, none⟩ = some v') :
    ((w.setCell ⟨ib, io, none⟩ u).setCell ⟨ib, io + 1, none⟩ v).cell? ⟨ib, io, none⟩ = some u ∧ ((w.setCell ⟨ib, io, none⟩ u).setCell ⟨ib, io + 1, none⟩ v).cell? ⟨ib, io + 1, none⟩ = some v := by
  have hne : (⟨ib, io + 1, none⟩ : Addr) ≠ ⟨ib, io, none⟩ := by intro e; simp only [Addr.mk.injEq] at e; omega
  constructor
  · rw [World.cell?_setCell_other _ _ _ _ hne]; exact World.cell?_setCell_same _ _ _ h0
  · refine World.cell?_setCell_same _ _ _ (u := v') ?_
    rw [World.cell?_setCell_other _ _ _ _ (Ne.symm hne)]; exact h1

/-- What the call of join leaves: what both say, in new memory, but for the two cells that it was to be written into. -/
def Joined (x y : Tr) (ib io : Nat) (w w' : World) : Prop :=
  ∃ t : Tr, t.ty = joinY x.ty y.ty ∧ t.In w' ∧ t.Bl (w.heap.size ≤ ·) ∧ w'.cell? ⟨ib, io, none⟩ = some (.int .i64 t.k) ∧ w'.cell? ⟨ib, io + 1, none⟩ = some (.slice t.a t.l.length t.c) ∧ Wrote ib io w w'

/-- The two parts while they are made. -/
def JI (W1 : World) (P : Nat) (x0 x1 y0 y1 : Tr) (j : Nat) (wr : World) : Prop :=
  Below P W1 wr ∧ (∀ o, wr.frozen? ⟨P, o, none⟩ = false) ∧ ∃ s0 s1 : Tr, s0.In wr ∧ s1.In wr ∧ s0.Bl (P < ·) ∧ s1.Bl (P < ·) ∧
    wr.cell? ⟨P, 0, none⟩ = some (.int .i64 s0.k) ∧ wr.cell? ⟨P, 1, none⟩ = some (.slice s0.a s0.l.length s0.c) ∧ wr.cell? ⟨P, 2, none⟩ = some (.int .i64 s1.k) ∧ wr.cell? ⟨P, 3, none⟩ = some (.slice s1.a s1.l.length s1.c) ∧
    (0 < j → s0.ty = joinY x0.ty y0.ty) ∧ (1 < j → s1.ty = joinY x1.ty y1.ty) ∧ (j ≤ 0 → s0 = leaf 0) ∧ (j ≤ 1 → s1 = leaf 0)

theorem Wrote.under {ib io : Nat} {w w' : World} (h : Wrote ib io w w') (hi : ib ≤ w.heap.size) : Below ib w w' :=
  ⟨h.os, h.tape, h.output, h.size, fun k hk => h.block k (by omega) (by omega)⟩

theorem Joined.under {x y : Tr} {P io : Nat} {w w' : World} (h : Joined x y P io w.drew w') (hP : P ≤ w.heap.size) : Below P w w' := by
  obtain ⟨_, _, _, _, _, _, hw⟩ := h
  exact ((Below.refl _ _).drew).trans (hw.under hP)

/-- What lies in other blocks stays. -/
theorem Wrote.keeps {ib io : Nat} {w w' : World} (h : Wrote ib io w w') {t : Tr} (hin : t.In w) (hne : t.Bl (· ≠ ib)) : t.In w' := by
  refine hin.congr (P := fun b => b < w.heap.size ∧ b ≠ ib) ?_ (hin.bl.and hne)
  rintro b ⟨hb, hn⟩ o
  exact World.cell?_of_block (a := ⟨b, o, none⟩) (h.block b hb hn)

theorem JI.start {W1 : World} {x0 x1 y0 y1 : Tr} : JI W1 W1.heap.size x0 x1 y0 y1 0 (W1.alloc (.cells #[.int .i64 0, .slice none 0 0, .int .i64 0, .slice none 0 0] 24)) := by
  refine ⟨(Below.refl _ _).alloc (Nat.le_refl _) _, fun o => by simp [go_sem], leaf 0, leaf 0, leaf_in _ _, leaf_in _ _, leaf_bl _ _, leaf_bl _ _, by simp [go_sem, leaf], by simp [go_sem, leaf], by simp [go_sem, leaf], by simp [go_sem, leaf], fun h => absurd h (by omega), fun h => absurd h (by omega), fun _ => rfl, fun _ => rfl⟩

theorem JI.step0 {W1 wr w2 : World} {P : Nat} {x0 x1 y0 y1 : Tr} (h : JI W1 P x0 x1 y0 y1 0 wr) (hj : Joined x0 y0 P 0 wr.drew w2) : JI W1 P x0 x1 y0 y1 1 w2 := by
  obtain ⟨hb, hf, s0, s1, i0, i1, b0, b1, c0, c1, c2, c3, t0, t1, z0, z1⟩ := h
  obtain ⟨t, ht, hin, hbl, d0, d1, hw⟩ := hj
  have hP : P < wr.heap.size := World.block_lt_of_cell? _ _ c0
  refine ⟨hb.drew.trans (hw.under (Nat.le_of_lt hP)), fun o => (hw.frozen o).trans (hf o), t, s1, hin, hw.keeps (w := wr.drew) (i1.below ((Below.refl _ _).drew)) (b1.mono fun b hb => by omega), hbl.mono (fun b hb => Nat.lt_of_lt_of_le hP hb), b1, d0, d1, (hw.cell 2 (by omega) (by omega)).trans c2, (hw.cell 3 (by omega) (by omega)).trans c3, fun _ => ht, fun h => absurd h (by omega), fun h => absurd h (by omega), fun _ => z1 (by omega)⟩

theorem JI.step1 {W1 wr w2 : World} {P : Nat} {x0 x1 y0 y1 : Tr} (h : JI W1 P x0 x1 y0 y1 1 wr) (hj : Joined x1 y1 P 2 wr.drew w2) : JI W1 P x0 x1 y0 y1 2 w2 := by
  obtain ⟨hb, hf, s0, s1, i0, i1, b0, b1, c0, c1, c2, c3, t0, t1, z0, z1⟩ := h
  obtain ⟨t, ht, hin, hbl, d0, d1, hw⟩ := hj
  have hP : P < wr.heap.size := World.block_lt_of_cell? _ _ c0
  refine ⟨hb.drew.trans (hw.under (Nat.le_of_lt hP)), fun o => (hw.frozen o).trans (hf o), s0, t, hw.keeps (w := wr.drew) (i0.below ((Below.refl _ _).drew)) (b0.mono fun b hb => by omega), hin, b0, hbl.mono (fun b hb => Nat.lt_of_lt_of_le hP hb), (hw.cell 0 (by omega) (by omega)).trans c0, (hw.cell 1 (by omega) (by omega)).trans c1, d0, d1, fun _ => t0 (by omega), fun _ => ht, fun h => absurd h (by omega), fun h => absurd h (by omega)⟩

theorem Tryz.info24 : (Tryz.prog.info? 24).map (fun i => (i.zero, i.size, i.bytes)) = some (some (.agg #[.int .i64 0, .slice none 0 0]), 2, 32) := by kernel_rfl

theorem make0 (w : World) : (Instr.makeSlice 22 (.int .i64 0) (.int .i64 0)).run Tryz.prog w = .ok (.slice (some ⟨w.heap.size, 0, none⟩) 0 0) (w.alloc (.cells #[] 24)) := by
  obtain ⟨i0, hi0, hz0, hz1, hz2⟩ := info_parts Tryz.info24
  have h := run_make (P := Tryz.prog) w 22 24 i0 _ Tryz.underlying22 hi0 hz0 .i64 .i64 0 0 (by omega) (by omega) (by omega) (by omega)
  rw [h, hz1]
  have e : madeCells (Value.agg #[.int .i64 0, .slice none 0 0]).cells (Int.toNat 0 * 2) = #[] := by
    apply Array.ext'
    simp [madeCells, Array.range_zero']
  rw [e]
  rfl

theorem make2 (w : World) : (Instr.makeSlice 22 (.int .i64 2) (.int .i64 2)).run Tryz.prog w = .ok (.slice (some ⟨w.heap.size, 0, none⟩) 2 2) (w.alloc (.cells #[.int .i64 0, .slice none 0 0, .int .i64 0, .slice none 0 0] 24)) := by
  obtain ⟨i0, hi0, hz0, hz1, hz2⟩ := info_parts Tryz.info24
  have h := run_make (P := Tryz.prog) w 22 24 i0 _ Tryz.underlying22 hi0 hz0 .i64 .i64 2 2 (by omega) (by omega) (by rw [hz2]; omega) (by omega)
  rw [h, hz1]
  have e : madeCells (Value.agg #[.int .i64 0, .slice none 0 0]).cells (Int.toNat 2 * 2) = #[.int .i64 0, .slice none 0 0, .int .i64 0, .slice none 0 0] := by
    apply Array.ext'
    simp [madeCells, Value.cells, List.range_succ]
  rw [e]
  rfl

set_option maxHeartbeats 400000 in
theorem join_diff (n : Nat) (hn : n ≤ 1000) (k k' : Int) (hk : (k != k') = true) (a a' p rp : Option Addr) (m m' c c' : Nat) (w : World) :
    Calls Tryz.prog 109 #[.agg #[.int .i64 k, .slice a m c, .int .i64 k', .slice a' m' c', .pointer p], .int .i64 ((n : Int) + 1), .pointer rp] w fun e w' => e = .returned (.tuple #[]) ∧ w' = w.alloc (.cells #[.int .i64 k, .slice a m c, .int .i64 k', .slice a' m' c', .pointer p] 168) := by
  have hz : (((n : Int) + 1) == 0) = false := by simp; omega
  go_enter Tryz.func109, Tryz.ntmps109
  go_wp2_with fail
  exact bodyPost_ret (v := .tuple #[]) (by simp [results, Tryz.results109, go_sem]) rfl ⟨rfl, rfl⟩

set_option maxHeartbeats 400000 in
theorem join_leaf (n : Nat) (hn : n ≤ 1000) (k : Int) (a a' rp : Option Addr) (c c' ib io : Nat) (w : World) (z0 : w.cell? ⟨ib, io, none⟩ = some (.int .i64 0)) (z1 : w.cell? ⟨ib, io + 1, none⟩ = some (.slice none 0 0)) (f0 : w.frozen? ⟨ib, io, none⟩ = false) (f1 : w.frozen? ⟨ib, io + 1, none⟩ = false) :
    Calls Tryz.prog 109 #[.agg #[.int .i64 k, .slice a 0 c, .int .i64 k, .slice a' 0 c', .pointer (some ⟨ib, io, none⟩)], .int .i64 ((n : Int) + 1), .pointer rp] w fun e w' => e = .returned (.tuple #[]) ∧ ∃ g, w'.cell? ⟨ib, io, none⟩ = some (.int .i64 k) ∧ w'.cell? ⟨ib, io + 1, none⟩ = some (.slice (some ⟨g, 0, none⟩) 0 0) ∧ Wrote ib io w w' := by
  have hz : (((n : Int) + 1) == 0) = false := by simp; omega
  have lb : ib < w.heap.size := World.block_lt_of_cell? _ _ z0
  have hmk := make0
  go_enter Tryz.func109, Tryz.ntmps109
  go_wp2_with fail
  go_loopw [32] (fun i wr => i = .int .i64 0 ∧ wr = (w.alloc (.cells #[.int .i64 k, .slice a 0 c, .int .i64 k, .slice a' 0 c', .pointer (some ⟨ib, io, none⟩)] 168)).alloc (.cells #[] 24)) (fun _ _ => 0)
  case atStart => exact ⟨rfl, rfl⟩
  case round =>
    obtain ⟨rfl, rfl⟩ := hrel
    go_wp2_with fail
    go_end0
    refine ⟨rfl, w.heap.size + 1, ?_, ?_, ((Wrote.of_below (Below.refl _ _) lb).set _ _).alloc lb _ |>.alloc lb _⟩
    · refine cell_later (((Below.refl _ _).alloc (Nat.le_refl _) _).alloc (by simp) _) (set_cells z0 z1).1
    · refine cell_later (((Below.refl _ _).alloc (Nat.le_refl _) _).alloc (by simp) _) (set_cells z0 z1).2
set_option maxHeartbeats 1000000 in
theorem join_fun (n : Nat) (hn : n ≤ 1000) (rp : Option Addr) (bx ox by' oy c c' ib io : Nat) (x0 x1 y0 y1 : Tr) (w : World) (z0 : w.cell? ⟨ib, io, none⟩ = some (.int .i64 0)) (z1 : w.cell? ⟨ib, io + 1, none⟩ = some (.slice none 0 0)) (f0 : w.frozen? ⟨ib, io, none⟩ = false) (f1 : w.frozen? ⟨ib, io + 1, none⟩ = false)
    (cx0 : w.cell? ⟨bx, ox, none⟩ = some (.int .i64 x0.k)) (cx1 : w.cell? ⟨bx, ox + 1, none⟩ = some (.slice x0.a x0.l.length x0.c)) (cx2 : w.cell? ⟨bx, ox + 2, none⟩ = some (.int .i64 x1.k)) (cx3 : w.cell? ⟨bx, ox + 3, none⟩ = some (.slice x1.a x1.l.length x1.c))
    (cy0 : w.cell? ⟨by', oy, none⟩ = some (.int .i64 y0.k)) (cy1 : w.cell? ⟨by', oy + 1, none⟩ = some (.slice y0.a y0.l.length y0.c)) (cy2 : w.cell? ⟨by', oy + 2, none⟩ = some (.int .i64 y1.k)) (cy3 : w.cell? ⟨by', oy + 3, none⟩ = some (.slice y1.a y1.l.length y1.c))
    (H0 : Hid (∀ (P : Nat) (W : World), w.heap.size ≤ P → Below w.heap.size w W → W.cell? ⟨P, 0, none⟩ = some (.int .i64 0) → W.cell? ⟨P, 0 + 1, none⟩ = some (.slice none 0 0) → (∀ o, W.frozen? ⟨P, o, none⟩ = false) → Calls Tryz.prog 109 #[.agg #[.int .i64 x0.k, .slice x0.a x0.l.length x0.c, .int .i64 y0.k, .slice y0.a y0.l.length y0.c, .pointer (some ⟨P, 0, none⟩)], .int .i64 (n : Int), .pointer rp] W fun e w' => e = .returned (.tuple #[]) ∧ Joined x0 y0 P 0 W w'))
    (H1 : Hid (∀ (P : Nat) (W : World), w.heap.size ≤ P → Below w.heap.size w W → W.cell? ⟨P, 2, none⟩ = some (.int .i64 0) → W.cell? ⟨P, 2 + 1, none⟩ = some (.slice none 0 0) → (∀ o, W.frozen? ⟨P, o, none⟩ = false) → Calls Tryz.prog 109 #[.agg #[.int .i64 x1.k, .slice x1.a x1.l.length x1.c, .int .i64 y1.k, .slice y1.a y1.l.length y1.c, .pointer (some ⟨P, 2, none⟩)], .int .i64 (n : Int), .pointer rp] W fun e w' => e = .returned (.tuple #[]) ∧ Joined x1 y1 P 2 W w')) :
    Calls Tryz.prog 109 #[.agg #[.int .i64 3, .slice (some ⟨bx, ox, none⟩) 2 c, .int .i64 3, .slice (some ⟨by', oy, none⟩) 2 c', .pointer (some ⟨ib, io, none⟩)], .int .i64 ((n : Int) + 1), .pointer rp] w fun e w' => e = .returned (.tuple #[]) ∧ ∃ W1 wr P, w.heap.size ≤ P ∧ Below w.heap.size w wr ∧ JI W1 P x0 x1 y0 y1 2 wr ∧ w' = (wr.setCell ⟨ib, io, none⟩ (.int .i64 3)).setCell ⟨ib, io + 1, none⟩ (.slice (some ⟨P, 0, none⟩) 2 2) := by
  have hz : (((n : Int) + 1) == 0) = false := by simp; omega
  have lb : ib < w.heap.size := World.block_lt_of_cell? _ _ z0
  have lbx : bx < w.heap.size := World.block_lt_of_cell? _ _ cx0
  have lby : by' < w.heap.size := World.block_lt_of_cell? _ _ cy0
  have hmk := make2
  have hwr : IntKind.i64.wrap (n : Int) = (n : Int) := by rw [IntKind.wrap_i64]; omega
  go_enter Tryz.func109, Tryz.ntmps109
  go_wp2_with fail
  go_loopg [32] 2 (fun k i wr => ∃ j : Nat, k + j = 2 ∧ i = .int .i64 (j : Int) ∧ JI (w.alloc (.cells #[.int .i64 3, .slice (some ⟨bx, ox, none⟩) 2 c, .int .i64 3, .slice (some ⟨by', oy, none⟩) 2 c', .pointer (some ⟨ib, io, none⟩)] 168)) (w.heap.size + 1) x0 x1 y0 y1 j wr)
  case atStart => exact ⟨0, rfl, rfl, by simpa using JI.start (W1 := w.alloc (.cells #[.int .i64 3, .slice (some ⟨bx, ox, none⟩) 2 c, .int .i64 3, .slice (some ⟨by', oy, none⟩) 2 c', .pointer (some ⟨ib, io, none⟩)] 168)) (x0 := x0) (x1 := x1) (y0 := y0) (y1 := y1)⟩
  case round =>
    obtain ⟨j, hj, rfl, hji⟩ := hrel
    have HJ : Hid (JI (w.alloc (.cells #[.int .i64 3, .slice (some ⟨bx, ox, none⟩) 2 c, .int .i64 3, .slice (some ⟨by', oy, none⟩) 2 c', .pointer (some ⟨ib, io, none⟩)] 168)) (w.heap.size + 1) x0 x1 y0 y1 j wr) := hji
    obtain ⟨hb, hf, s0, s1, i0, i1, b0, b1, d0, d1, d2, d3, t0, t1, e0, e1⟩ := hji
    have hbw : Below w.heap.size w wr := ((Below.refl _ _).alloc (Nat.le_refl _) _).trans (hb.mono (by omega))
    have q1 : wr.cell? ⟨w.heap.size, 1, none⟩ = some (.slice (some ⟨bx, ox, none⟩) 2 c) := by rw [hb.cell (p := ⟨w.heap.size, 1, none⟩) (by simp)]; simp [go_sem]
    have q3 : wr.cell? ⟨w.heap.size, 3, none⟩ = some (.slice (some ⟨by', oy, none⟩) 2 c') := by rw [hb.cell (p := ⟨w.heap.size, 3, none⟩) (by simp)]; simp [go_sem]
    have q4 : wr.cell? ⟨w.heap.size, 4, none⟩ = some (.pointer (some ⟨ib, io, none⟩)) := by rw [hb.cell (p := ⟨w.heap.size, 4, none⟩) (by simp)]; simp [go_sem]
    have q0 : wr.cell? ⟨w.heap.size, 0, none⟩ = some (.int .i64 3) := by rw [hb.cell (p := ⟨w.heap.size, 0, none⟩) (by simp)]; simp [go_sem]
    replace cx0 := cell_later hbw cx0
    replace cx1 := cell_later hbw cx1
    replace cx2 := cell_later hbw cx2
    replace cx3 := cell_later hbw cx3
    replace cy0 := cell_later hbw cy0
    replace cy1 := cell_later hbw cy1
    replace cy2 := cell_later hbw cy2
    replace cy3 := cell_later hbw cy3
    have hP : w.heap.size + 1 ≤ wr.heap.size := Nat.le_of_lt (World.block_lt_of_cell? _ _ d0)
    obtain rfl | rfl | rfl : j = 0 ∨ j = 1 ∨ j = 2 := by omega
    · obtain rfl := e0 (by omega)
      have HG : Hid ((wr.drew.cell? ⟨w.heap.size + 1, 0, none⟩ = some (.int .i64 0)) ∧ (wr.drew.cell? ⟨w.heap.size + 1, 0 + 1, none⟩ = some (.slice none 0 0)) ∧ ∀ o, wr.drew.frozen? ⟨w.heap.size + 1, o, none⟩ = false) := ⟨d0, d1, hf⟩
      clear hf i0 i1 b0 b1 d0 d1 d2 d3 t0 t1 e0 e1 z0 z1 f0 f1 q0 q4
      go_wp2_with fail
      go_region_held3 (fun w' => w'.cell? ⟨w.heap.size, 1, none⟩ = some (.slice (some ⟨bx, ox, none⟩) 2 c) ∧ w'.cell? ⟨w.heap.size, 3, none⟩ = some (.slice (some ⟨by', oy, none⟩) 2 c') ∧ w'.cell? ⟨bx, ox, none⟩ = some (.int .i64 x0.k) ∧ w'.cell? ⟨bx, ox + 1, none⟩ = some (.slice x0.a x0.l.length x0.c) ∧ w'.cell? ⟨by', oy, none⟩ = some (.int .i64 y0.k) ∧ w'.cell? ⟨by', oy + 1, none⟩ = some (.slice y0.a y0.l.length y0.c))
        (first
          | exact ⟨(hu.cell (p := ⟨w.heap.size, 1, none⟩) (by simp)).trans q1, (hu.cell (p := ⟨w.heap.size, 3, none⟩) (by simp)).trans q3, (hu.cell (p := ⟨bx, _, none⟩) (Nat.lt_succ_of_lt lbx)).trans cx0, (hu.cell (p := ⟨bx, _, none⟩) (Nat.lt_succ_of_lt lbx)).trans cx1, (hu.cell (p := ⟨by', _, none⟩) (Nat.lt_succ_of_lt lby)).trans cy0, (hu.cell (p := ⟨by', _, none⟩) (Nat.lt_succ_of_lt lby)).trans cy1⟩
          | go_keep)
        (first
          | (go_at_call 109; refine (H0.out _ _ (Nat.le_succ _) hbw.drew HG.out.1 HG.out.2.1 HG.out.2.2).mono ?_; rintro e w2 ⟨rfl, hj2⟩; have hu := hj2.under hP))
      have HJ2 : Hid (JI (w.alloc (.cells #[.int .i64 3, .slice (some ⟨bx, ox, none⟩) 2 c, .int .i64 3, .slice (some ⟨by', oy, none⟩) 2 c', .pointer (some ⟨ib, io, none⟩)] 168)) (w.heap.size + 1) x0 x1 y0 y1 1 w2) := JI.step0 HJ.out hj2
      clear hj2
      go_wp2_with fail
      go_roundg 1
      case measure => omega
      case rel => exact ⟨1, rfl, rfl, HJ2⟩
    · obtain rfl := e1 (by omega)
      have HG : Hid ((wr.drew.cell? ⟨w.heap.size + 1, 2, none⟩ = some (.int .i64 0)) ∧ (wr.drew.cell? ⟨w.heap.size + 1, 2 + 1, none⟩ = some (.slice none 0 0)) ∧ ∀ o, wr.drew.frozen? ⟨w.heap.size + 1, o, none⟩ = false) := ⟨d2, d3, hf⟩
      clear hf i0 i1 b0 b1 d0 d1 d2 d3 t0 t1 e0 e1 z0 z1 f0 f1 q0 q4
      go_wp2_with fail
      go_region_held3 (fun w' => w'.cell? ⟨w.heap.size, 1, none⟩ = some (.slice (some ⟨bx, ox, none⟩) 2 c) ∧ w'.cell? ⟨w.heap.size, 3, none⟩ = some (.slice (some ⟨by', oy, none⟩) 2 c') ∧ w'.cell? ⟨bx, ox + 2, none⟩ = some (.int .i64 x1.k) ∧ w'.cell? ⟨bx, ox + 3, none⟩ = some (.slice x1.a x1.l.length x1.c) ∧ w'.cell? ⟨by', oy + 2, none⟩ = some (.int .i64 y1.k) ∧ w'.cell? ⟨by', oy + 3, none⟩ = some (.slice y1.a y1.l.length y1.c))
        (first
          | exact ⟨(hu.cell (p := ⟨w.heap.size, 1, none⟩) (by simp)).trans q1, (hu.cell (p := ⟨w.heap.size, 3, none⟩) (by simp)).trans q3, (hu.cell (p := ⟨bx, _, none⟩) (Nat.lt_succ_of_lt lbx)).trans cx2, (hu.cell (p := ⟨bx, _, none⟩) (Nat.lt_succ_of_lt lbx)).trans cx3, (hu.cell (p := ⟨by', _, none⟩) (Nat.lt_succ_of_lt lby)).trans cy2, (hu.cell (p := ⟨by', _, none⟩) (Nat.lt_succ_of_lt lby)).trans cy3⟩
          | go_keep)
        (first
          | (go_at_call 109; refine (H1.out _ _ (Nat.le_succ _) hbw.drew HG.out.1 HG.out.2.1 HG.out.2.2).mono ?_; rintro e w2 ⟨rfl, hj2⟩; have hu := hj2.under hP))
      have HJ2 : Hid (JI (w.alloc (.cells #[.int .i64 3, .slice (some ⟨bx, ox, none⟩) 2 c, .int .i64 3, .slice (some ⟨by', oy, none⟩) 2 c', .pointer (some ⟨ib, io, none⟩)] 168)) (w.heap.size + 1) x0 x1 y0 y1 2 w2) := JI.step1 HJ.out hj2
      clear hj2
      go_wp2_with fail
      go_roundg 0
      case measure => omega
      case rel => exact ⟨2, rfl, rfl, HJ2⟩
    · have zz0 := cell_later hbw z0
      have zz1 := cell_later hbw z1
      have ff0 : wr.frozen? ⟨ib, io, none⟩ = false := (hbw.frozen (p := ⟨ib, io, none⟩) lb).trans f0
      have ff1 : wr.frozen? ⟨ib, io + 1, none⟩ = false := (hbw.frozen (p := ⟨ib, io + 1, none⟩) lb).trans f1
      clear hf i0 i1 b0 b1 d0 d1 d2 d3 t0 t1 e0 e1 z0 z1 f0 f1
      go_wp2_with fail
      go_end0
      exact ⟨rfl, _, _, _, Nat.le_succ _, hbw, HJ.out, rfl⟩
end Go.Proofs.YtnddkmccagiclaaGreatDoor

/-
  What the calls of kind.join and kind.Join answer at two right trees of which the first has at most a thousand levels.
-/
namespace Go.Proofs.YtnddkmccagiclaaGreatDoor
open Go.RowKit

theorem set_keeps {ib io : Nat} {w : World} {u v : Value} {t : Tr} (hin : t.In w) (hne : t.Bl (· ≠ ib)) : t.In ((w.setCell ⟨ib, io, none⟩ u).setCell ⟨ib, io + 1, none⟩ v) := by
  refine hin.congr (P := (· ≠ ib)) ?_ hne
  intro b hb o
  rw [World.cell?_setCell_other, World.cell?_setCell_other]
  · intro e; simp only [Addr.mk.injEq] at e; omega
  · intro e; simp only [Addr.mk.injEq] at e; omega

theorem Joined.of_parts {x y x0 x1 y0 y1 : Tr} {ib io P : Nat} {w wr W1 : World} (hx : x.l = [x0, x1]) (hy : y.l = [y0, y1]) (kx : x.k = 3) (ky : y.k = 3) (hib : ib < w.heap.size) (hP : w.heap.size ≤ P) (hb : Below w.heap.size w wr) (h : JI W1 P x0 x1 y0 y1 2 wr)
    (z0 : w.cell? ⟨ib, io, none⟩ = some (.int .i64 0)) (z1 : w.cell? ⟨ib, io + 1, none⟩ = some (.slice none 0 0)) :
    Joined x y ib io w ((wr.setCell ⟨ib, io, none⟩ (.int .i64 3)).setCell ⟨ib, io + 1, none⟩ (.slice (some ⟨P, 0, none⟩) 2 2)) := by
  obtain ⟨_, hf, s0, s1, i0, i1, b0, b1, d0, d1, d2, d3, t0, t1, _, _⟩ := h
  have hc := set_cells (u := .int .i64 3) (v := .slice (some ⟨P, 0, none⟩) 2 2) (cell_later hb z0) (cell_later hb z1)
  have hcell : ∀ o, ((wr.setCell ⟨ib, io, none⟩ (.int .i64 3)).setCell ⟨ib, io + 1, none⟩ (.slice (some ⟨P, 0, none⟩) 2 2)).cell? ⟨P, o, none⟩ = wr.cell? ⟨P, o, none⟩ := by
    intro o
    rw [World.cell?_setCell_other, World.cell?_setCell_other]
    · intro e; simp only [Addr.mk.injEq] at e; omega
    · intro e; simp only [Addr.mk.injEq] at e; omega
  refine ⟨.mk 3 (some ⟨P, 0, none⟩) 2 [s0, s1], ?_, ?_, ?_, hc.1, hc.2, (Wrote.of_below hb hib).set _ _⟩
  · obtain ⟨k, a, c, l⟩ := x
    obtain ⟨k', a', c', l'⟩ := y
    dsimp only at hx hy kx ky
    subst hx hy kx ky
    simp [Tr.ty_mk, joinY_mk, joinL, t0 (by omega), t1 (by omega)]
  · exact Tr.In_two (by rw [hcell]; exact d0) (by rw [hcell]; exact d1) (by rw [hcell]; exact d2) (by rw [hcell]; exact d3) (set_keeps i0 (b0.mono fun b hb => by omega)) (set_keeps i1 (b1.mono fun b hb => by omega))
  · exact Tr.Bl_two hP (b0.mono fun b hb => by omega) (b1.mono fun b hb => by omega)

theorem Joined.of_diff {x y : Tr} {ib io : Nat} {w w' : World} (hk : x.k ≠ y.k) (hib : ib < w.heap.size) (hb : Below w.heap.size w w') (z0 : w.cell? ⟨ib, io, none⟩ = some (.int .i64 0)) (z1 : w.cell? ⟨ib, io + 1, none⟩ = some (.slice none 0 0)) : Joined x y ib io w w' := by
  refine ⟨leaf 0, ?_, leaf_in _ _, leaf_bl _ _, cell_later hb z0, cell_later hb z1, Wrote.of_below hb hib⟩
  obtain ⟨k, a, c, l⟩ := x
  obtain ⟨k', a', c', l'⟩ := y
  dsimp only at hk
  simp [leaf, Tr.ty_mk, joinY_mk, if_neg hk]

theorem join_any (n : Nat) : n ≤ 1000 → ∀ (x y : Tr) (rp : Option Addr) (ib io : Nat) (w : World), x.In w → y.In w → x.right → y.right → x.hgt ≤ n → w.cell? ⟨ib, io, none⟩ = some (.int .i64 0) → w.cell? ⟨ib, io + 1, none⟩ = some (.slice none 0 0) → w.frozen? ⟨ib, io, none⟩ = false → w.frozen? ⟨ib, io + 1, none⟩ = false →
    Calls Tryz.prog 109 #[.agg #[.int .i64 x.k, .slice x.a x.l.length x.c, .int .i64 y.k, .slice y.a y.l.length y.c, .pointer (some ⟨ib, io, none⟩)], .int .i64 (n : Int), .pointer rp] w fun e w' => e = .returned (.tuple #[]) ∧ Joined x y ib io w w' := by
  induction n with
  | zero =>
    intro _ x y rp ib io w _ _ _ _ h
    have := x.hgt_pos
    omega
  | succ n ih =>
    intro hn x y rp ib io w hx hy rx ry hh z0 z1 f0 f1
    have lb : ib < w.heap.size := World.block_lt_of_cell? _ _ z0
    have e : ((n + 1 : Nat) : Int) = (n : Int) + 1 := by omega
    rw [e]
    by_cases hk : x.k = y.k
    · rcases rx.cases with ⟨lx, kx⟩ | ⟨x0, x1, lx, kx, r0, r1⟩
      · rcases ry.cases with ⟨ly, ky⟩ | ⟨y0, y1, ly, ky, _, _⟩
        · rw [lx, ly, ← hk]
          refine (join_leaf n (by omega) x.k x.a y.a rp x.c y.c ib io w z0 z1 f0 f1).mono ?_
          rintro e w' ⟨rfl, g, c0, c1, hw⟩
          refine ⟨rfl, .mk x.k (some ⟨g, 0, none⟩) 0 [], ?_, Tr.In_nil _ _ _ _, Tr.Bl_nil _ _ _ _, c0, c1, hw⟩
          obtain ⟨k, a, c, l⟩ := x
          obtain ⟨k', a', c', l'⟩ := y
          dsimp only at lx ly hk
          subst lx ly hk
          simp [Tr.ty_mk, joinY_mk, joinL]
        · omega
      · rcases ry.cases with ⟨ly, ky⟩ | ⟨y0, y1, ly, ky, q0, q1⟩
        · omega
        · obtain ⟨bx, ox, ax, cx0, cx1, hx0⟩ := hx.part 0 (by simp [lx])
          obtain ⟨bx', ox', ax', cx2, cx3, hx1⟩ := hx.part 1 (by simp [lx])
          obtain ⟨by', oy, ay, cy0, cy1, hy0⟩ := hy.part 0 (by simp [ly])
          obtain ⟨by'', oy', ay', cy2, cy3, hy1⟩ := hy.part 1 (by simp [ly])
          have hg0 := Tr.hgt_part hh 0 (by simp [lx])
          have hg1 := Tr.hgt_part hh 1 (by simp [lx])
          rw [ax] at ax'
          rw [ay] at ay'
          obtain ⟨rfl, rfl⟩ : bx = bx' ∧ ox = ox' := by simpa using ax'
          obtain ⟨rfl, rfl⟩ : by' = by'' ∧ oy = oy' := by simpa using ay'
          simp only [lx, List.getElem_cons_zero, List.getElem_cons_succ] at cx0 cx1 cx2 cx3 hx0 hx1 hg0 hg1
          simp only [ly, List.getElem_cons_zero, List.getElem_cons_succ] at cy0 cy1 cy2 cy3 hy0 hy1
          rw [ax, ay, lx, ly, kx, ky]
          refine (join_fun n (by omega) rp bx ox by' oy x.c y.c ib io x0 x1 y0 y1 w z0 z1 f0 f1 (by simpa using cx0) (by simpa using cx1) (by simpa using cx2) (by simpa using cx3) (by simpa using cy0) (by simpa using cy1) (by simpa using cy2) (by simpa using cy3)
            (fun P W _ hb g0 g1 gf => ih (by omega) x0 y0 rp P 0 W (hx0.below hb) (hy0.below hb) r0 q0 hg0 g0 g1 (gf _) (gf _))
            (fun P W _ hb g0 g1 gf => ih (by omega) x1 y1 rp P 2 W (hx1.below hb) (hy1.below hb) r1 q1 hg1 g0 g1 (gf _) (gf _))).mono ?_
          rintro e w' ⟨rfl, W1, wr, P, hP, hb, hji, rfl⟩
          exact ⟨rfl, Joined.of_parts lx ly kx ky lb hP hb hji z0 z1⟩
    · refine (join_diff n (by omega) x.k y.k (by simpa using hk) x.a y.a (some ⟨ib, io, none⟩) rp x.l.length y.l.length x.c y.c w).mono ?_
      rintro e w' ⟨rfl, rfl⟩
      exact ⟨rfl, Joined.of_diff hk lb ((Below.refl _ _).alloc (Nat.le_refl _) _) z0 z1⟩
end Go.Proofs.YtnddkmccagiclaaGreatDoor

/-
  What a call that makes a type leaves.
-/
namespace Go.Proofs.YtnddkmccagiclaaGreatDoor
open Go.RowKit

/-- What a call that makes a tree leaves. -/
def Made (T : Ty) (w : World) (e : Ending) (w' : World) : Prop :=
  ∃ t : Tr, e = .returned (.agg #[.int .i64 t.k, .slice t.a t.l.length t.c]) ∧ t.ty = T ∧ t.In w' ∧ t.Bl (w.heap.size ≤ ·) ∧ Below w.heap.size w w'
end Go.Proofs.YtnddkmccagiclaaGreatDoor
