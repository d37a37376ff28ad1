/-
  What the call of (*walk).good answers, at whatever term lies in memory: where its top is not good, and where it has no parts.
-/
import Derived.Test.YtnddkmccagiclabGreatDoorLot683b629a1a
import Derived.Deep.LoopGhost
import Derived.Test.YtnddkmccagiclabGreatDoorLotfe12dc4cba
import Derived.Test.YtnddkmccagiclabGreatDoorLotabe26c0bfc
namespace Go.Proofs.YtnddkmccagiclabGreatDoor
open Go.RowKit
/-- A walk behind a pointer: how many functions are around, how much room is left. -/
structure WS (R : Nat) (ar : Int) (room : Nat) (w : World) : Prop where
  a : w.cell? ⟨R, 0, none⟩ = some (.int .i64 ar)
  r : w.cell? ⟨R, 1, none⟩ = some (.int .i64 (room : Int))
  z : w.frozen? ⟨R, 1, none⟩ = false
theorem WS.lt {R : Nat} {ar : Int} {room : Nat} {w : World} (h : WS R ar room w) : R < w.heap.size := World.block_lt_of_cell? _ _ h.a
theorem WS.below {R : Nat} {ar : Int} {room : Nat} {w w' : World} (h : WS R ar room w) (hb : Below w.heap.size w w') : WS R ar room w' :=
  ⟨cell_later hb h.a, cell_later hb h.r, (hb.frozen (p := ⟨R, 1, none⟩) h.lt).trans h.z⟩
theorem WS.set {R : Nat} {ar : Int} {room r : Nat} {w : World} (h : WS R ar room w) : WS R ar r (w.setCell ⟨R, 1, none⟩ (.int .i64 (r : Int))) :=
  ⟨by rw [World.cell?_setCell_other _ _ _ _ (by simp)]; exact h.a, World.cell?_setCell_same _ _ _ h.r, by rw [World.frozen?_setCell]; exact h.z⟩
/-- What the call leaves. -/
def GoodPost (R : Nat) (ar : Int) (o : Option Nat) (w : World) (e : Ending) (w' : World) : Prop :=
  ∃ r : Nat, e = .returned (.bool o.isSome) ∧ WS R ar r w' ∧ (∀ q, o = some q → q = r) ∧ Kept R none w w'
/-- Its numbers are whole numbers of 64 bits. -/
def TT.nb : TT → Prop
  | ⟨_, n, _, _, _, _, l⟩ => n ≤ 9223372036854775807 ∧ ∀ x, x ∈ l → x.nb
theorem TT.nb_mk {k n : Int} {t f : Tr} {a : Option Addr} {c : Nat} {l : List TT} : (TT.mk k n t f a c l).nb ↔ n ≤ 9223372036854775807 ∧ ∀ x, x ∈ l → x.nb := by
  rw [TT.nb]
theorem TT.nb.n {x : TT} (h : x.nb) : x.n ≤ 9223372036854775807 := by cases x; exact (TT.nb_mk.1 h).1
theorem TT.nb.mem {x y : TT} (h : x.nb) (hy : y ∈ x.l) : y.nb := by
  obtain ⟨k, n, t, f, a, c, l⟩ := x
  exact (TT.nb_mk.1 h).2 y hy
set_option maxHeartbeats 400000 in
theorem goodW_none (R : Nat) (ar ins : Int) (x : TT) (w : World) (hw : WS R ar 0 w) :
    Calls Tryz.prog 46 #[.pointer (some ⟨R, 0, none⟩), .agg #[.int .i64 x.k, .int .i64 x.n, .int .i64 x.t.k, .slice x.t.a x.t.l.length x.t.c, .int .i64 x.f.k, .slice x.f.a x.f.l.length x.f.c, .slice x.a x.l.length x.c], .int .i64 ins] w (GoodPost R ar none w) := by
  have hr := hw.r
  have hRl := hw.lt
  have e0 : ((0 : Nat) : Int) = 0 := rfl
  rw [e0] at hr
  go_enter Tryz.func46, Tryz.ntmps46
  go_wp2_with fail
  go_ret
  have hb : Below w.heap.size w (w.alloc (Obj.cells #[.int .i64 x.k, .int .i64 x.n, .int .i64 x.t.k, .slice x.t.a x.t.l.length x.t.c, .int .i64 x.f.k, .slice x.f.a x.f.l.length x.f.c, .slice x.a x.l.length x.c] 27)) := (Below.refl _ _).alloc (Nat.le_refl _) _
  exact ⟨0, rfl, hw.below hb, (fun q h => by cases h), Kept.of_below hb⟩
theorem parts_cell {w : World} (hg : Gp w) (k : Int) (h1 : 1 ≤ k) (h2 : k ≤ 9) : w.cell? ⟨0, k.toNat, none⟩ = some (.int .i64 (partsOf k : Int)) := by
  rw [hg.pt.cell]
  obtain rfl | rfl | rfl | rfl | rfl | rfl | rfl | rfl | rfl : k = 1 ∨ k = 2 ∨ k = 3 ∨ k = 4 ∨ k = 5 ∨ k = 6 ∨ k = 7 ∨ k = 8 ∨ k = 9 := by omega
  all_goals rfl
theorem len_ne (m p : Nat) (h : (m == p) = false) : ((m : Int) == (p : Int)) = false := by
  simp at h ⊢
  omega
/-- The world behind the count. -/
def wTop (R : Nat) (r : Nat) (x : TT) (w : World) : World :=
  (w.setCell ⟨R, 1, none⟩ (.int .i64 (r : Int))).alloc (Obj.cells #[.int .i64 x.k, .int .i64 x.n, .int .i64 x.t.k, .slice x.t.a x.t.l.length x.t.c, .int .i64 x.f.k, .slice x.f.a x.f.l.length x.f.c, .slice x.a x.l.length x.c] 27)
set_option maxHeartbeats 1000000 in
theorem goodW_bad1 (R : Nat) (ar : Int) (r : Nat) (hr1 : r ≤ 1000) (ins : Int) (x : TT) (w : World) (hg : Gp w) (hR : 1 ≤ R) (hw : WS R ar (r + 1) w)
    (hok : (decide (1 ≤ x.k) && decide (x.k ≤ 9) && (x.l.length == partsOf x.k)) = false) :
    Calls Tryz.prog 46 #[.pointer (some ⟨R, 0, none⟩), .agg #[.int .i64 x.k, .int .i64 x.n, .int .i64 x.t.k, .slice x.t.a x.t.l.length x.t.c, .int .i64 x.f.k, .slice x.f.a x.f.l.length x.f.c, .slice x.a x.l.length x.c], .int .i64 ins] w (GoodPost R ar none w) := by
  have hr := hw.r
  have hz := hw.z
  have hRl := hw.lt
  have e0 : ((r + 1 : Nat) : Int) = (r : Int) + 1 := by omega
  rw [e0] at hr
  have e1 : (((r : Int) + 1) == 0) = false := by simp; omega
  have fin : ∀ nq, GoodPost R ar none w (.returned (.bool false)) ((wTop R r x w).drewN nq) := by
    intro nq
    have hb : Below (w.setCell ⟨R, 1, none⟩ (.int .i64 (r : Int))).heap.size (w.setCell ⟨R, 1, none⟩ (.int .i64 (r : Int))) ((wTop R r x w).drewN nq) := below_dN ((Below.refl _ _).alloc (Nat.le_refl _) _) _
    exact ⟨r, rfl, (WS.set hw).below hb, (fun q h => by cases h), setR_kept.trans (Kept.of_below hb)⟩
  have FIN : Hid (∀ nq, GoodPost R ar none w (.returned (.bool false)) ((wTop R r x w).drewN nq)) := fin
  clear fin
  by_cases hk1 : 1 ≤ x.k
  · have hd1 : decide (x.k < 1) = false := by simp; omega
    by_cases hk2 : x.k ≤ 9
    · have hd2 : decide (9 < x.k) = false := by simp; omega
      have hp := parts_cell hg x.k hk1 hk2
      have hlen : (x.l.length == partsOf x.k) = false := by
        have a1 : decide (1 ≤ x.k) = true := by simp [hk1]
        have a2 : decide (x.k ≤ 9) = true := by simp [hk2]
        rw [a1, a2] at hok
        simpa using hok
      have hne := len_ne _ _ hlen
      have hne2 : ((x.l.length : Int) != (partsOf x.k : Int)) = true := by rw [bne, hne]; rfl
      have i0 : (0 : Int) ≤ x.k := by omega
      have i1 : x.k < 10 := by omega
      have n2 : (0 : Nat) ≠ R := by omega
      have h2l : 0 < w.heap.size := by have := hg.size; omega
      clear hok hlen hk1 hk2 hg
      go_enter Tryz.func46, Tryz.ntmps46
      go_wp2_with fail
      go_quiet (fail)
      go_wp2_with fail
      go_ret
      exact FIN.out _
    · have hd2 : decide (9 < x.k) = true := by simp; omega
      clear hok hk2
      go_enter Tryz.func46, Tryz.ntmps46
      go_wp2_with fail
      go_quiet (fail)
      go_wp2_with fail
      go_ret
      exact FIN.out _
  · have hd1 : decide (x.k < 1) = true := by simp; omega
    clear hok hk1
    go_enter Tryz.func46, Tryz.ntmps46
    go_wp2_with fail
    go_quiet (fail)
    go_wp2_with fail
    go_ret
    exact FIN.out _
end Go.Proofs.YtnddkmccagiclabGreatDoor

/-
  What the call of (*walk).good answers, at whatever term lies in memory.
-/
namespace Go.Proofs.YtnddkmccagiclabGreatDoor
open Go.RowKit
theorem wTop_kept (R r : Nat) (x : TT) (w : World) (nq : Nat) : Kept R none w ((wTop R r x w).drewN nq) :=
  setR_kept.trans (Kept.of_below (below_dN ((Below.refl _ _).alloc (Nat.le_refl _) _) _))
theorem wTop_ws {R r : Nat} {ar : Int} {room : Nat} {x : TT} {w : World} {nq : Nat} (h : WS R ar room w) : WS R ar r ((wTop R r x w).drewN nq) :=
  (WS.set h).below (below_dN ((Below.refl _ _).alloc (Nat.le_refl _) _) _)
/-- The box's cells. -/
theorem wTop_cells (R r : Nat) (x : TT) (w : World) (nq : Nat) : At7 ((wTop R r x w).drewN nq) w.heap.size 0 x := by
  have hs : (w.setCell ⟨R, 1, none⟩ (.int .i64 (r : Int))).heap.size = w.heap.size := by simp [World.setCell]
  rw [← hs]
  constructor <;> simp [wTop, go_sem]
set_option maxHeartbeats 2000000 in
theorem goodW_bad2 (R : Nat) (ar : Int) (r : Nat) (hr1 : r ≤ 1000) (ins : Nat) (hi : ins ≤ 1000) (x : TT) (w : World) (hg : Gp w) (hR : 1 ≤ R) (hw : WS R ar (r + 1) w)
    (hx : x.In w) (hbl : x.Bl (· ≠ R)) (hnb : x.nb) (hk1 : 1 ≤ x.k) (hk2 : x.k ≤ 9) (hlen : x.l.length = partsOf x.k)
    (hok : (okTypes x.k x.t.ty x.f.ty && okNum ar (ins : Int) x.k x.n) = false) :
    Calls Tryz.prog 46 #[.pointer (some ⟨R, 0, none⟩), .agg #[.int .i64 x.k, .int .i64 x.n, .int .i64 x.t.k, .slice x.t.a x.t.l.length x.t.c, .int .i64 x.f.k, .slice x.f.a x.f.l.length x.f.c, .slice x.a x.l.length x.c], .int .i64 (ins : Int)] w (GoodPost R ar none w) := by
  have hr := hw.r
  have hz := hw.z
  have hRl := hw.lt
  have e0 : ((r + 1 : Nat) : Int) = (r : Int) + 1 := by omega
  rw [e0] at hr
  have e1 : (((r : Int) + 1) == 0) = false := by simp; omega
  have hd1 : decide (x.k < 1) = false := by simp; omega
  have hd2 : decide (9 < x.k) = false := by simp; omega
  have hp := parts_cell hg x.k hk1 hk2
  have hne : ((x.l.length : Int) == (partsOf x.k : Int)) = true := by rw [hlen]; simp
  have hne2 : ((x.l.length : Int) != (partsOf x.k : Int)) = false := by rw [bne, hne]; rfl
  have i0 : (0 : Int) ≤ x.k := by omega
  have i1 : x.k < 10 := by omega
  have n2 : (0 : Nat) ≠ R := by omega
  have h2l : 0 < w.heap.size := by have := hg.size; omega
  have HX : Hid (∀ nq, x.In ((wTop R r x w).drewN nq)) := fun nq => hx.keptR (wTop_kept R r x w nq) hbl
  have HW : Hid (∀ nq, WS R ar r ((wTop R r x w).drewN nq)) := fun nq => wTop_ws hw
  have HB : Hid (∀ nq, At7 ((wTop R r x w).drewN nq) w.heap.size 0 x) := fun nq => wTop_cells R r x w nq
  have HNB : Hid (x.n ≤ 9223372036854775807) := hnb.n
  have HOK : Hid ((okTypes x.k x.t.ty x.f.ty && okNum ar (ins : Int) x.k x.n) = false) := hok
  obtain ⟨bt, hbt⟩ : ∃ b, okTypes x.k x.t.ty x.f.ty = b := ⟨_, rfl⟩
  have HT : Hid (∀ W, x.In W → Calls Tryz.prog 80 #[.agg #[.int .i64 x.k, .int .i64 x.n, .int .i64 x.t.k, .slice x.t.a x.t.l.length x.t.c, .int .i64 x.f.k, .slice x.f.a x.f.l.length x.f.c, .slice x.a x.l.length x.c]] W fun e w' => e = .returned (.bool bt) ∧ Below W.heap.size W w') := by
    intro W h
    have := goodTypes_any x W h.t h.f
    rw [hbt] at this
    exact this
  have HBT : Hid (okTypes x.k x.t.ty x.f.ty = bt) := hbt
  clear hok hlen hk1 hk2 hg hbt hbl hx hw hnb
  cases bt
  · go_enter Tryz.func46, Tryz.ntmps46
    go_wp2_with fail
    go_quiet (fail)
    go_wp2_with fail
    refine (HT.out _ (HX.out nq)).mono ?_
    rintro e w1 ⟨rfl, hb1⟩
    have HE : Hid (GoodPost R ar none w (.returned (.bool false)) w1) := ⟨r, rfl, (HW.out nq).below hb1, (fun q h => by cases h), (wTop_kept R r x w nq).trans (Kept.of_below hb1)⟩
    clear hb1
    go_wp2_with fail
    go_ret
    exact HE.out
  · have hbn : Hid (okNum ar (ins : Int) x.k x.n = false) := by have := HOK.out; rw [HBT.out] at this; simpa [Hid] using this
    go_enter Tryz.func46, Tryz.ntmps46
    go_wp2_with fail
    go_quiet (fail)
    go_wp2_with fail
    refine (HT.out _ (HX.out nq)).mono ?_
    rintro e w1 ⟨rfl, hb1⟩
    have HN : Hid (Calls Tryz.prog 81 #[.pointer (some ⟨R, 0, none⟩), .agg #[.int .i64 x.k, .int .i64 x.n, .int .i64 x.t.k, .slice x.t.a x.t.l.length x.t.c, .int .i64 x.f.k, .slice x.f.a x.f.l.length x.f.c, .slice x.a x.l.length x.c], .int .i64 (ins : Int)] w1 fun e w' => e = .returned (.bool false) ∧ Below w1.heap.size w1 w') := by
      have := goodNumber_any R ar ins hi x HNB.out w1 ((HW.out nq).below hb1).a
      rw [hbn.out] at this
      exact this
    have HE : Hid (WS R ar r w1 ∧ Kept R none w w1) := ⟨(HW.out nq).below hb1, (wTop_kept R r x w nq).trans (Kept.of_below hb1)⟩
    have h7 := (HB.out nq).below hb1
    have c0 := h7.c0
    have c1 := h7.c1
    have c2 := h7.c2
    have c3 := h7.c3
    have c4 := h7.c4
    have c5 := h7.c5
    have c6 := h7.c6
    simp only [Nat.zero_add] at c0 c1 c2 c3 c4 c5 c6
    clear hb1 h7
    go_wp2_with fail
    refine HN.out.mono ?_
    rintro e w2 ⟨rfl, hb2⟩
    have HE2 : Hid (GoodPost R ar none w (.returned (.bool false)) w2) := ⟨r, rfl, HE.out.1.below hb2, (fun q h => by cases h), HE.out.2.trans (Kept.of_below hb2)⟩
    clear hb2 c0 c1 c2 c3 c4 c5 c6
    go_wp2_with fail
    go_ret
    exact HE2.out
set_option maxHeartbeats 4000000 in
theorem goodW_top (R : Nat) (ar : Int) (n r : Nat) (hr1 : r ≤ 1000) (ins : Nat) (hi : ins ≤ 1000) (x : TT) (w : World) (hg : Gp w) (hR : 1 ≤ R) (hw : WS R ar (r + 1) w) (hl : x.l.length ≤ 140737488355328)
    (hx : x.In w) (hbl : x.Bl (· ≠ R)) (hnb : x.nb) (hk1 : 1 ≤ x.k) (hk2 : x.k ≤ 9) (hlen : x.l.length = partsOf x.k)
    (hok1 : okTypes x.k x.t.ty x.f.ty = true) (hok2 : okNum ar (ins : Int) x.k x.n = true)
    (b7 : Bool) (h7 : (x.k == 7) = b7) (ins' : Nat) (hins : (ins' : Int) = if b7 = true then (ins : Int) + 1 else (ins : Int))
    (HC : Hid (∀ (j : Nat) (hj : j < x.l.length) (q : Nat) (W : World), q ≤ r → Gp W → WS R ar q W → x.l[j].In W → Calls Tryz.prog 46 #[.pointer (some ⟨R, 0, none⟩), .agg #[.int .i64 x.l[j].k, .int .i64 x.l[j].n, .int .i64 x.l[j].t.k, .slice x.l[j].t.a x.l[j].t.l.length x.l[j].t.c, .int .i64 x.l[j].f.k, .slice x.l[j].f.a x.l[j].f.l.length x.l[j].f.c, .slice x.l[j].a x.l[j].l.length x.l[j].c], .int .i64 (ins' : Int)] W (GoodPost R ar (goodS ar n (insOf x.k (ins : Int)) x.l[j].tm q) W)))
    (HM : Hid (∀ (y : TT) (q q' : Nat), y ∈ x.l → goodS ar n (insOf x.k (ins : Int)) y.tm q = some q' → q' ≤ q)) :
    Calls Tryz.prog 46 #[.pointer (some ⟨R, 0, none⟩), .agg #[.int .i64 x.k, .int .i64 x.n, .int .i64 x.t.k, .slice x.t.a x.t.l.length x.t.c, .int .i64 x.f.k, .slice x.f.a x.f.l.length x.f.c, .slice x.a x.l.length x.c], .int .i64 (ins : Int)] w (GoodPost R ar (bindL (fun (y : TT) r' => goodS ar n (insOf x.k (ins : Int)) y.tm r') x.l r) w) := by
  have hr := hw.r
  have hz := hw.z
  have hRl := hw.lt
  have e0 : ((r + 1 : Nat) : Int) = (r : Int) + 1 := by omega
  rw [e0] at hr
  have e1 : (((r : Int) + 1) == 0) = false := by simp; omega
  have hd1 : decide (x.k < 1) = false := by simp; omega
  have hd2 : decide (9 < x.k) = false := by simp; omega
  have hp := parts_cell hg x.k hk1 hk2
  have hne : ((x.l.length : Int) == (partsOf x.k : Int)) = true := by rw [hlen]; simp
  have hne2 : ((x.l.length : Int) != (partsOf x.k : Int)) = false := by rw [bne, hne]; rfl
  have i0 : (0 : Int) ≤ x.k := by omega
  have i1 : x.k < 10 := by omega
  have n2 : (0 : Nat) ≠ R := by omega
  have h2l : 0 < w.heap.size := by have := hg.size; omega
  have HX : Hid (∀ nq, x.In ((wTop R r x w).drewN nq)) := fun nq => hx.keptR (wTop_kept R r x w nq) hbl
  have HW : Hid (∀ nq, WS R ar r ((wTop R r x w).drewN nq)) := fun nq => wTop_ws hw
  have HB : Hid (∀ nq, At7 ((wTop R r x w).drewN nq) w.heap.size 0 x) := fun nq => wTop_cells R r x w nq
  have HNB : Hid (x.n ≤ 9223372036854775807) := hnb.n
  have HT : Hid (∀ W, x.In W → Calls Tryz.prog 80 #[.agg #[.int .i64 x.k, .int .i64 x.n, .int .i64 x.t.k, .slice x.t.a x.t.l.length x.t.c, .int .i64 x.f.k, .slice x.f.a x.f.l.length x.f.c, .slice x.a x.l.length x.c]] W fun e w' => e = .returned (.bool true) ∧ Below W.heap.size W w') := by
    intro W h
    have := goodTypes_any x W h.t h.f
    rw [hok1] at this
    exact this
  have HOK : Hid (okNum ar (ins : Int) x.k x.n = true) := hok2
  have HG : Hid (Gp w) := hg
  have HBL : Hid (x.Bl (· ≠ R)) := hbl
  have HINS : Hid ((ins' : Int) = if b7 = true then (ins : Int) + 1 else (ins : Int)) := hins
  have hi1 : (ins : Int) + 1 ≤ 1001 := by omega
  clear hok1 hok2 hlen hk1 hk2 hg hbl hx hw hnb hins
  cases b7
  all_goals
    go_enter Tryz.func46, Tryz.ntmps46
    go_wp2_with fail
    go_quiet (fail)
    go_wp2_with fail
    refine (HT.out _ (HX.out nq)).mono ?_
    rintro e w1 ⟨rfl, hb1⟩
    have HN : Hid (Calls Tryz.prog 81 #[.pointer (some ⟨R, 0, none⟩), .agg #[.int .i64 x.k, .int .i64 x.n, .int .i64 x.t.k, .slice x.t.a x.t.l.length x.t.c, .int .i64 x.f.k, .slice x.f.a x.f.l.length x.f.c, .slice x.a x.l.length x.c], .int .i64 (ins : Int)] w1 fun e w' => e = .returned (.bool true) ∧ Below w1.heap.size w1 w') := by
      have := goodNumber_any R ar ins hi x HNB.out w1 ((HW.out nq).below hb1).a
      rw [HOK.out] at this
      exact this
    have HE : Hid (WS R ar r w1 ∧ Kept R none w w1 ∧ x.In w1 ∧ At7 w1 w.heap.size 0 x) := ⟨(HW.out nq).below hb1, (wTop_kept R r x w nq).trans (Kept.of_below hb1), (HX.out nq).below hb1, (HB.out nq).below hb1⟩
    obtain ⟨_, _, _, c0, c1, c2, c3, c4, c5, c6⟩ := HE.out
    simp only [Nat.zero_add] at c0 c1 c2 c3 c4 c5 c6
    clear hb1
    go_wp2_with fail
    refine HN.out.mono ?_
    rintro e w2 ⟨rfl, hb2⟩
    have HE2 : Hid (WS R ar r w2 ∧ Kept R none w w2 ∧ x.In w2 ∧ Gp w2) := ⟨HE.out.1.below hb2, HE.out.2.1.trans (Kept.of_below hb2), HE.out.2.2.1.below hb2, (HG.out.kept hR HE.out.2.1).below hb2⟩
    replace c0 := cell_later hb2 c0
    replace c6 := cell_later hb2 c6
    clear hb2 c1 c2 c3 c4 c5 HE HN HX HW HB
    go_wp2_with fail
    go_loopg [57] x.l.length (fun g i wr => ∃ (j q : Nat), g + j = x.l.length ∧ i = .int .i64 (j : Int) ∧ Hid (q ≤ r ∧ bindL (fun (y : TT) r' => goodS ar n (insOf x.k (ins : Int)) y.tm r') x.l r = bindL (fun (y : TT) r' => goodS ar n (insOf x.k (ins : Int)) y.tm r') (x.l.drop j) q ∧ WS R ar q wr ∧ Kept R none w2 wr))
    case atStart => exact ⟨0, r, by omega, rfl, Nat.le_refl _, rfl, HE2.out.1, Kept.of_below (Below.refl _ _)⟩
    case round =>
      obtain ⟨j, q, hj, rfl, HQ⟩ := hrel
      by_cases hlt : j < x.l.length
      · obtain ⟨b, o, ea, h7', hxj⟩ := HE2.out.2.2.1.part j hlt
        have hbR : b ≠ R := HBL.out.own (by intro e; rw [e] at hlt; simp at hlt) _ ea
        have h8 := h7'.keptR HQ.out.2.2.2 hbR
        have d0 := h8.c0
        have d1 := h8.c1
        have d2 := h8.c2
        have d3 := h8.c3
        have d4 := h8.c4
        have d5 := h8.c5
        have d6 := h8.c6
        have hxr := hxj.keptR HQ.out.2.2.2 (HBL.out.mem (List.getElem_mem hlt))
        have HXR : Hid (x.l[j].In wr) := hxr
        have hR2 : wr.heap.size ≠ R := by have := HQ.out.2.2.1.lt; omega
        have i2 : (j : Int) < (x.l.length : Int) := by omega
        have i3 : (0 : Int) ≤ (j : Int) := by omega
        have HEA : Hid (x.a = some ⟨b, o, none⟩) := ea
        rw [ea]
        have hbp : ∀ o, Below wr.heap.size wr (wr.alloc o) := fun o => (Below.refl _ _).alloc (Nat.le_refl _) _
        have HP : Hid (∀ o, Calls Tryz.prog 46 #[.pointer (some ⟨R, 0, none⟩), .agg #[.int .i64 x.l[j].k, .int .i64 x.l[j].n, .int .i64 x.l[j].t.k, .slice x.l[j].t.a x.l[j].t.l.length x.l[j].t.c, .int .i64 x.l[j].f.k, .slice x.l[j].f.a x.l[j].f.l.length x.l[j].f.c, .slice x.l[j].a x.l[j].l.length x.l[j].c], .int .i64 (ins' : Int)] (wr.alloc o) (GoodPost R ar (goodS ar n (insOf x.k (ins : Int)) x.l[j].tm q) (wr.alloc o))) := fun o => HC.out j hlt q _ HQ.out.1 ((HE2.out.2.2.2.kept hR HQ.out.2.2.2).below (hbp o)) (HQ.out.2.2.1.below (hbp o)) (HXR.out.below (hbp o))
        rw [HINS.out] at HP
        clear h7' hxj h8 hxr ea hbp
        simp only [Bool.false_eq_true, if_false, if_true] at HP
        go_wp2_with fail
        refine (HP.out _).mono ?_
        rintro e w3 ⟨r3, rfl, hw3, hs3, hk3⟩
        have hk4 : Kept R none w2 w3 := (HQ.out.2.2.2.trans (Kept.of_below ((Below.refl _ _).alloc (Nat.le_refl _) _))).trans hk3
        have HS : Hid (x.l.drop j = x.l[j] :: x.l.drop (j + 1)) := List.drop_eq_getElem_cons hlt
        cases ho : goodS ar n (insOf x.k (ins : Int)) x.l[j].tm q with
        | none =>
          have HF : Hid (GoodPost R ar (bindL (fun (y : TT) r' => goodS ar n (insOf x.k (ins : Int)) y.tm r') x.l r) w (.returned (.bool false)) w3) := by
            have e : bindL (fun (y : TT) r' => goodS ar n (insOf x.k (ins : Int)) y.tm r') x.l r = none := by rw [HQ.out.2.1, HS.out, bindL, ho]; rfl
            rw [e]
            exact ⟨r3, rfl, hw3, (fun q h => by cases h), HE2.out.2.1.trans hk4⟩
          clear hw3 hs3 hk3 hk4 ho HQ HP HXR d0 d1 d2 d3 d4 d5 d6
          simp only [Option.isSome_none]
          go_wp2_with fail
          go_ret
          exact HF.out
        | some q' =>
          have HF : Hid (q' ≤ r ∧ bindL (fun (y : TT) r' => goodS ar n (insOf x.k (ins : Int)) y.tm r') x.l r = bindL (fun (y : TT) r' => goodS ar n (insOf x.k (ins : Int)) y.tm r') (x.l.drop (j + 1)) q' ∧ WS R ar q' w3 ∧ Kept R none w2 w3) := by
            have e := hs3 q' ho
            subst e
            refine ⟨Nat.le_trans (HM.out _ q q' (List.getElem_mem hlt) ho) HQ.out.1, ?_, hw3, hk4⟩
            rw [HQ.out.2.1, HS.out, bindL, ho]
            rfl
          clear hw3 hs3 hk3 hk4 ho HQ HP HXR d0 d1 d2 d3 d4 d5 d6
          simp only [Option.isSome_some]
          go_wp2_with fail
          rw [← HEA.out]
          go_roundg (x.l.length - (j + 1))
          case measure => omega
          case rel => exact ⟨j + 1, q', by omega, by go_num, HF⟩
      · have HF : Hid (GoodPost R ar (bindL (fun (y : TT) r' => goodS ar n (insOf x.k (ins : Int)) y.tm r') x.l r) w (.returned (.bool true)) wr) := by
          have e : bindL (fun (y : TT) r' => goodS ar n (insOf x.k (ins : Int)) y.tm r') x.l r = some q := by rw [HQ.out.2.1, List.drop_eq_nil_of_le (by omega), bindL]
          rw [e]
          exact ⟨q, rfl, HQ.out.2.2.1, (fun q h => by cases h; rfl), HE2.out.2.1.trans HQ.out.2.2.2⟩
        clear HQ
        go_wp2_with fail
        go_ret
        exact HF.out
end Go.Proofs.YtnddkmccagiclabGreatDoor

/-
  What the calls of (*walk).good and term.Good answer, at whatever term lies in memory.
-/
namespace Go.Proofs.YtnddkmccagiclabGreatDoor
open Go.RowKit
theorem bindL_map {α β : Type} (g : α → β) (f : β → Nat → Option Nat) : ∀ (l : List α) (r : Nat), bindL f (l.map g) r = bindL (fun y r' => f (g y) r') l r
  | [], r => rfl
  | x :: l, r => by
    simp only [List.map_cons, bindL]
    cases f (g x) r with
    | none => rfl
    | some q => exact bindL_map g f l q
theorem bindL_le {α : Type} (f : α → Nat → Option Nat) (hf : ∀ y q q', f y q = some q' → q' ≤ q) : ∀ (l : List α) (r r' : Nat), bindL f l r = some r' → r' ≤ r
  | [], r, r', h => by simp [bindL] at h; omega
  | x :: l, r, r', h => by
    simp only [bindL] at h
    cases hq : f x r with
    | none => rw [hq] at h; cases h
    | some q =>
      rw [hq] at h
      have := hf x r q hq
      have := bindL_le f hf l q r' h
      omega
theorem goodS_le (ar : Int) : ∀ (n : Nat) (ins : Int) (x : Tm) (r r' : Nat), goodS ar n ins x r = some r' → r' ≤ r
  | 0, _, _, _, _, h => by simp [goodS] at h
  | n + 1, ins, x, 0, _, h => by simp [goodS] at h
  | n + 1, ins, x, r + 1, r', h => by
    simp only [goodS] at h
    split at h
    · have := bindL_le _ (fun y q q' h => goodS_le ar n (insOf x.k ins) y q q' h) x.l r r' h
      omega
    · cases h
theorem parts_le (k : Int) : partsOf k ≤ 3 := by
  unfold partsOf
  repeat' split
  all_goals omega
theorem goodW_any (R : Nat) (ar : Int) (hR : 1 ≤ R) (n : Nat) : n ≤ 500 → ∀ (ins : Nat) (x : TT) (r : Nat) (w : World), r ≤ n → ins + n ≤ 1000 → Gp w → WS R ar r w → x.In w → x.Bl (· ≠ R) → x.nb →
    Calls Tryz.prog 46 #[.pointer (some ⟨R, 0, none⟩), .agg #[.int .i64 x.k, .int .i64 x.n, .int .i64 x.t.k, .slice x.t.a x.t.l.length x.t.c, .int .i64 x.f.k, .slice x.f.a x.f.l.length x.f.c, .slice x.a x.l.length x.c], .int .i64 (ins : Int)] w (GoodPost R ar (goodS ar n (ins : Int) x.tm r) w) := by
  induction n with
  | zero =>
    intro _ ins x r w hr _ _ hw _ _ _
    obtain rfl : r = 0 := by omega
    exact goodW_none R ar _ x w hw
  | succ n ih =>
    intro hn ins x r w hr hi hg hw hx hbl hnb
    cases r with
    | zero => exact goodW_none R ar _ x w hw
    | succ r =>
      have e : goodS ar (n + 1) (ins : Int) x.tm (r + 1) = if okTop ar (ins : Int) x.tm = true then bindL (fun (y : TT) r' => goodS ar n (insOf x.k (ins : Int)) y.tm r') x.l r else none := by
        rw [goodS, TT.tm_l, TT.tm_k, bindL_map]
      rw [e]
      have ho : okTop ar (ins : Int) x.tm = ((decide (1 ≤ x.k) && decide (x.k ≤ 9) && (x.l.length == partsOf x.k)) && (okTypes x.k x.t.ty x.f.ty && okNum ar (ins : Int) x.k x.n)) := by
        rw [okTop, TT.tm_l, TT.tm_k, TT.tm_n, TT.tm_t, TT.tm_f, List.length_map]
      rw [ho]
      by_cases h1 : (decide (1 ≤ x.k) && decide (x.k ≤ 9) && (x.l.length == partsOf x.k)) = true
      · have h1' := h1
        simp only [Bool.and_eq_true, decide_eq_true_eq, beq_iff_eq] at h1'
        obtain ⟨⟨hk1, hk2⟩, hlen⟩ := h1'
        have hp := parts_le x.k
        by_cases h2 : (okTypes x.k x.t.ty x.f.ty && okNum ar (ins : Int) x.k x.n) = true
        · rw [h1, h2, Bool.and_self, if_pos rfl]
          simp only [Bool.and_eq_true] at h2
          by_cases h7 : x.k = 7
          · refine goodW_top R ar n r (by omega) ins (by omega) x w hg hR hw (by omega) hx hbl hnb hk1 hk2 hlen h2.1 h2.2 true (by simp [h7]) (ins + 1) (by simp) ?_ ?_
            · intro j hj q W hq hgW hwW hxW
              have := ih (by omega) (ins + 1) x.l[j] q W (by omega) (by omega) hgW hwW hxW (hbl.mem (List.getElem_mem hj)) (hnb.mem (List.getElem_mem hj))
              have e : insOf x.k (ins : Int) = ((ins + 1 : Nat) : Int) := by rw [insOf, if_pos h7]; omega
              rw [e]
              exact this
            · intro y q q' _ h
              exact goodS_le _ _ _ _ _ _ h
          · refine goodW_top R ar n r (by omega) ins (by omega) x w hg hR hw (by omega) hx hbl hnb hk1 hk2 hlen h2.1 h2.2 false (by simp [h7]) ins (by simp) ?_ ?_
            · intro j hj q W hq hgW hwW hxW
              have := ih (by omega) ins x.l[j] q W (by omega) (by omega) hgW hwW hxW (hbl.mem (List.getElem_mem hj)) (hnb.mem (List.getElem_mem hj))
              have e : insOf x.k (ins : Int) = (ins : Int) := by rw [insOf, if_neg h7]
              rw [e]
              exact this
            · intro y q q' _ h
              exact goodS_le _ _ _ _ _ _ h
        · have h2' : (okTypes x.k x.t.ty x.f.ty && okNum ar (ins : Int) x.k x.n) = false := by simpa using h2
          rw [h2', Bool.and_false, if_neg (by simp)]
          exact goodW_bad2 R ar r (by omega) ins (by omega) x w hg hR hw hx hbl hnb hk1 hk2 hlen h2'
      · have h1' : (decide (1 ≤ x.k) && decide (x.k ≤ 9) && (x.l.length == partsOf x.k)) = false := by simpa using h1
        rw [h1', Bool.false_and, if_neg (by simp)]
        exact goodW_bad1 R ar r (by omega) _ x w hg hR hw h1'
/-- Is it good within so many functions? -/
def goodM (ar : Int) (x : Tm) : Bool := (goodS ar 40 0 x 40).isSome
set_option maxHeartbeats 400000 in
/-- term.Good. -/
theorem goodTm_any (x : TT) (ar : Int) (w : World) (hg : Gp w) (hx : x.In w) (hnb : x.nb) :
    Calls Tryz.prog 29 #[.agg #[.int .i64 x.k, .int .i64 x.n, .int .i64 x.t.k, .slice x.t.a x.t.l.length x.t.c, .int .i64 x.f.k, .slice x.f.a x.f.l.length x.f.c, .slice x.a x.l.length x.c], .int .i64 ar] w fun e w' => e = .returned (.bool (goodM ar x.tm)) ∧ Below w.heap.size w w' := by
  have hgs := hg.size
  have hb0 : ∀ o, Below w.heap.size w (w.alloc o) := fun o => (Below.refl _ _).alloc (Nat.le_refl _) _
  have hb1 : ∀ o o', Below w.heap.size w ((w.alloc o).alloc o') := fun o o' => (hb0 o).alloc (by simp) _
  have HC : Hid (∀ W, Below w.heap.size w W → WS (w.heap.size + 1) ar 40 W → Calls Tryz.prog 46 #[.pointer (some ⟨w.heap.size + 1, 0, none⟩), .agg #[.int .i64 x.k, .int .i64 x.n, .int .i64 x.t.k, .slice x.t.a x.t.l.length x.t.c, .int .i64 x.f.k, .slice x.f.a x.f.l.length x.f.c, .slice x.a x.l.length x.c], .int .i64 0] W (GoodPost (w.heap.size + 1) ar (goodS ar 40 0 x.tm 40) W)) := by
    intro W hW hws
    exact goodW_any (w.heap.size + 1) ar (by omega) 40 (by omega) 0 x 40 W (Nat.le_refl _) (by omega) (hg.below hW) hws (hx.below hW) (hx.bl.mono fun b h => by omega) hnb
  have HB : Hid (∀ o o', Below w.heap.size w ((w.alloc o).alloc o')) := hb1
  clear hb0 hb1 hg hx hnb
  go_enter Tryz.func29, Tryz.ntmps29
  go_wp2_with fail
  refine (HC.out _ (HB.out _ _) ⟨by simp [go_sem], by simp [go_sem], by simp [go_sem]⟩).mono ?_
  rintro e w1 ⟨r, rfl, _, _, hk⟩
  have HF : Hid (Below w.heap.size w w1) := by
    have hs : ((w.alloc (.cells #[.int .i64 x.k, .int .i64 x.n, .int .i64 x.t.k, .slice x.t.a x.t.l.length x.t.c, .int .i64 x.f.k, .slice x.f.a x.f.l.length x.f.c, .slice x.a x.l.length x.c] 27)).alloc (.cells #[.int .i64 ar, .int .i64 40] 80)).heap.size = w.heap.size + 2 := by simp
    have := hk.size
    rw [hs] at this
    refine (HB.out (.cells #[.int .i64 x.k, .int .i64 x.n, .int .i64 x.t.k, .slice x.t.a x.t.l.length x.t.c, .int .i64 x.f.k, .slice x.f.a x.f.l.length x.f.c, .slice x.a x.l.length x.c] 27) (.cells #[.int .i64 ar, .int .i64 40] 80)).trans ?_
    exact ⟨hk.os, hk.tape, hk.output, hk.size, fun k h => hk.block k (by rw [hs]; omega) (by omega) (by simp)⟩
  clear hk
  go_wp2_with fail
  go_ret
  exact ⟨rfl, HF.out⟩
end Go.Proofs.YtnddkmccagiclabGreatDoor

/-
  What the calls of term.alikeAtTop and term.Same answer at two terms that are alike.
-/
namespace Go.Proofs.YtnddkmccagiclabGreatDoor
open Go.RowKit
theorem relY_refl : ∀ t : Ty, relY escSame t t = true := by
  intro t
  induction t using Ty.ind with
  | h k l ih =>
    rw [relY_mk]
    simp only [escSame, Bool.false_or, beq_self_eq_true, Bool.true_and]
    exact relL_all escSame l l rfl fun j h _ => ih _ (List.getElem_mem h)
/-- Its types are of at most a thousand levels. -/
def TT.tok : TT → Prop
  | ⟨_, _, t, f, _, _, l⟩ => (t.hgt ≤ 1000 ∧ t.sm) ∧ (f.hgt ≤ 1000 ∧ f.sm) ∧ ∀ x, x ∈ l → x.tok
theorem TT.tok_mk {k n : Int} {t f : Tr} {a : Option Addr} {c : Nat} {l : List TT} : (TT.mk k n t f a c l).tok ↔ (t.hgt ≤ 1000 ∧ t.sm) ∧ (f.hgt ≤ 1000 ∧ f.sm) ∧ ∀ x, x ∈ l → x.tok := by
  rw [TT.tok]
theorem TT.tok.t {x : TT} (h : x.tok) : x.t.hgt ≤ 1000 ∧ x.t.sm := by cases x; exact (TT.tok_mk.1 h).1
theorem TT.tok.f {x : TT} (h : x.tok) : x.f.hgt ≤ 1000 ∧ x.f.sm := by cases x; exact (TT.tok_mk.1 h).2.1
theorem TT.tok.mem {x y : TT} (h : x.tok) (hy : y ∈ x.l) : y.tok := by
  obtain ⟨k, n, t, f, a, c, l⟩ := x
  exact (TT.tok_mk.1 h).2.2 y hy
theorem ownsRow_low {w w' : World} {B e size n : Nat} {v : Value} {xs : List Value} (h : w.ownsRow B e size v n xs) (hb : Below w.heap.size w w') : w'.ownsRow B e size v n xs := by
  refine ⟨h.1, ?_⟩
  rcases h.2 with hn | ⟨g, cap, cur, hv, hb', hg, rest⟩
  · exact .inl hn
  · exact .inr ⟨g, cap, cur, hv, hb', (hb.block g (Array.getElem?_eq_some_iff.1 hg).1).trans hg, rest⟩
theorem sum_take_le (f : TT → Nat) : ∀ (l : List TT) (j : Nat), ((l.take j).map f).sum ≤ (l.map f).sum
  | [], j => by simp
  | x :: l, 0 => by simp
  | x :: l, j + 1 => by
    have := sum_take_le f l j
    simp only [List.take_succ_cons, List.map_cons, List.sum_cons]; omega
/-! ### The stack -/
def TT.sz : TT → Nat
  | ⟨_, _, _, _, _, _, l⟩ => (l.map fun t => t.sz).sum + 1
theorem TT.sz_mk (k n : Int) (t f : Tr) (a : Option Addr) (c : Nat) (l : List TT) : (TT.mk k n t f a c l).sz = (l.map TT.sz).sum + 1 := by
  rw [TT.sz]
theorem TT.sz_eq (x : TT) : x.sz = (x.l.map TT.sz).sum + 1 := by cases x; rw [TT.sz_mk]
theorem TT.sz_pos (x : TT) : 1 ≤ x.sz := by rw [TT.sz_eq]; omega
def cells2 (ps : List (TT × TT)) : List Value := ps.flatMap fun p => [.slice p.1.a p.1.l.length p.1.c, .slice p.2.a p.2.l.length p.2.c]
/-- Two lists of terms, each with each. -/
def Pr (B : Nat) (w : World) (p : TT × TT) : Prop := p.1.In w ∧ p.2.In w ∧ p.1.Bl (· < B) ∧ p.2.Bl (· < B) ∧ p.1.tok ∧ p.1.l.map TT.tm = p.2.l.map TT.tm
theorem Pr.low {B : Nat} {w w' : World} {p : TT × TT} (h : Pr B w p) (hb : Below B w w') : Pr B w' p :=
  ⟨h.1.congr (P := (· < B)) (fun b hb' o => hb.cell (p := ⟨b, o, none⟩) hb') h.2.2.1, h.2.1.congr (P := (· < B)) (fun b hb' o => hb.cell (p := ⟨b, o, none⟩) hb') h.2.2.2.1, h.2.2⟩
def mass (ps : List (TT × TT)) : Nat := (ps.map fun p => p.1.sz).sum
structure Stk (B : Nat) (v : Value) (ps : List (TT × TT)) (w : World) : Prop where
  own : w.ownsRow B 59 2 v ps.length (cells2 ps)
  ins : ∀ p, p ∈ ps → Pr B w p
theorem Stk.len {ps : List (TT × TT)} : ps.length ≤ mass ps := by
  induction ps with
  | nil => simp
  | cons p r ih => have := p.1.sz_pos; simp only [mass, List.map_cons, List.sum_cons, List.length_cons] at ih ⊢; omega
end Go.Proofs.YtnddkmccagiclabGreatDoor

/-
  Good terms: few levels of types, few terms; how many terms; the plain mathematics that several texts lean on; no program's run in it.
-/
namespace Go.Proofs.YtnddkmccagiclabGreatDoor
open Go.RowKit
theorem goodS_top {ar : Int} {n : Nat} {ins : Int} {x : Tm} {r r' : Nat} (h : goodS ar n ins x r = some r') : ∃ m q, n = m + 1 ∧ r = q + 1 ∧ okTop ar ins x = true ∧ bindL (fun y r' => goodS ar m (insOf x.k ins) y r') x.l q = some r' := by
  match n, r, h with
  | 0, _, h => simp [goodS] at h
  | m + 1, 0, h => simp [goodS] at h
  | m + 1, q + 1, h =>
    simp only [goodS] at h
    split at h
    · exact ⟨m, q, rfl, rfl, by assumption, h⟩
    · cases h
theorem okTop_parts {ar ins : Int} {x : Tm} (h : okTop ar ins x = true) : 1 ≤ x.k ∧ x.k ≤ 9 ∧ x.l.length = partsOf x.k ∧ okTypes x.k x.t x.f = true ∧ okNum ar ins x.k x.n = true := by
  simp only [okTop, Bool.and_eq_true, decide_eq_true_eq, beq_iff_eq] at h
  exact ⟨h.1.1.1, h.1.1.2, h.1.2, h.2.1, h.2.2⟩
theorem isAny_eq {t : Ty} (h : isAnyY t = true) : t = anyY := by
  obtain ⟨k, l⟩ := t
  simp only [isAnyY, anyY, relY_mk, escSame, Bool.false_or, Bool.and_eq_true, beq_iff_eq] at h
  obtain ⟨rfl, h⟩ := h
  cases l with
  | nil => rfl
  | cons x r => simp [relL] at h
theorem any_tok {t : Tr} (h : isAnyY t.ty = true) : t.hgt ≤ 1000 ∧ t.sm := by
  have e := isAny_eq h
  obtain ⟨k, a, c, l⟩ := t
  rw [Tr.ty_mk] at e
  have hl : l = [] := by
    have := congrArg Ty.l e
    simpa [anyY] using this
  subst hl
  refine ⟨?_, Tr.sm_mk.2 ⟨by simp, fun t h => by cases h⟩⟩
  rw [Tr.hgt_mk]; simp
theorem bindL_all {f : TT → Nat → Option Nat} (hf : ∀ y q q', f y q = some q' → y.tok ∧ y.sz + q' = q) : ∀ (l : List TT) (r r' : Nat), bindL f l r = some r' → (∀ y, y ∈ l → y.tok) ∧ (l.map TT.sz).sum + r' = r
  | [], r, r', h => by simp [bindL] at h; exact ⟨(fun y hy => by cases hy), by simpa using h.symm⟩
  | x :: l, r, r', h => by
    simp only [bindL] at h
    cases hq : f x r with
    | none => rw [hq] at h; cases h
    | some q =>
      rw [hq] at h
      have h1 := hf x r q hq
      have h2 := bindL_all hf l q r' h
      refine ⟨fun y hy => ?_, ?_⟩
      · rcases List.mem_cons.1 hy with rfl | hy
        · exact h1.1
        · exact h2.1 y hy
      · simp only [List.map_cons, List.sum_cons]; omega
/-- A good term has types of few levels, and as many terms as the room that it took. -/
theorem goodS_tok (ar : Int) : ∀ (n : Nat) (ins : Int) (x : TT) (r r' : Nat), goodS ar n ins x.tm r = some r' → x.tok ∧ x.sz + r' = r
  | 0, _, _, _, _, h => by simp [goodS] at h
  | n + 1, ins, x, r, r', h => by
    obtain ⟨m, q, hm, rfl, hok, hb⟩ := goodS_top h
    obtain rfl : n = m := by omega
    obtain ⟨_, _, _, hty, _⟩ := okTop_parts hok
    rw [TT.tm_l, TT.tm_k, bindL_map] at hb
    have hall := bindL_all (fun y q q' h => goodS_tok ar n _ y q q' h) x.l q r' hb
    rw [TT.tm_t, TT.tm_f, TT.tm_k] at hty
    simp only [okTypes, Bool.and_eq_true] at hty
    have ht : x.t.hgt ≤ 1000 ∧ x.t.sm := by
      by_cases hk : tells x.k = true
      · have := hty.2
        rw [hk, if_pos rfl, ← goodT_eq] at this
        exact ⟨Nat.le_trans (Tr.hgt_good 4 _ this) (by omega), Tr.sm_good 4 _ this⟩
      · have hk' : tells x.k = false := by simpa using hk
        have := hty.2
        rw [hk', if_neg (by simp)] at this
        exact any_tok this
    have hs := x.sz_eq
    refine ⟨?_, by omega⟩
    obtain ⟨k, n', t, f, a, c, l⟩ := x
    exact TT.tok_mk.2 ⟨ht, any_tok hty.1, hall.1⟩
theorem goodM_tok {ar : Int} {x : TT} (h : goodM ar x.tm = true) : x.tok ∧ x.sz ≤ 40 := by
  obtain ⟨r', hr⟩ := Option.isSome_iff_exists.1 h
  have := goodS_tok ar 40 0 x 40 r' hr
  exact ⟨this.1, by omega⟩
def Tm.sz : Tm → Nat
  | ⟨_, _, _, _, l⟩ => (l.map fun t => t.sz).sum + 1
theorem Tm.sz_mk (k n : Int) (t f : Ty) (l : List Tm) : (Tm.mk k n t f l).sz = (l.map Tm.sz).sum + 1 := by
  rw [Tm.sz]
theorem TT.sz_tm (x : TT) : x.sz = x.tm.sz := by
  induction x using TT.ind with
  | h k n t f a c l ih =>
    rw [TT.tm_mk, TT.sz_mk, Tm.sz_mk, List.map_map]
    have : l.map TT.sz = l.map (Tm.sz ∘ TT.tm) := List.map_congr_left fun x hx => ih x hx
    rw [this]
end Go.Proofs.YtnddkmccagiclabGreatDoor

/-
  What check's Check makes of a term, in plain mathematics: the term with its casts, and its type; that these types are good; no program in it.
-/
namespace Go.Proofs.YtnddkmccagiclabGreatDoor
/-- The parts, cast to what they are used as. -/
def castL : List (Nat × Tm × Ty) → List Ty → List Tm
  | p :: r, u :: s => castY (p.1 : Int) p.2.1 p.2.2 u :: castL r s
  | _, _ => []
theorem castL_length : ∀ (ps : List (Nat × Tm × Ty)) (us : List Ty), ps.length = us.length → (castL ps us).length = ps.length
  | [], [], _ => rfl
  | p :: r, u :: s, h => by simp [castL, castL_length r s (by simpa using h)]
  | [], _ :: _, h => by simp at h
  | _ :: _, [], h => by simp at h
/-- What the functions around a term's parts take. -/
def takesIn (k : Int) (t : Ty) (takes : List Ty) : List Ty := if k = 7 then t :: takes else takes
/-- Each part's reading, by its number; none: one has none. -/
def mapR : (l : List Tm) → ((x : Tm) → x ∈ l → Nat → Option (Tm × Ty)) → Nat → Option (List (Nat × Tm × Ty))
  | [], _, _ => some []
  | x :: r, f, c => (f x List.mem_cons_self c).bind fun p => (mapR r (fun z h c => f z (List.mem_cons_of_mem _ h) c) (c + x.sz)).bind fun q => some ((c, p.1, p.2) :: q)
/-- The term with its casts, and its type. -/
def readS : Tm → List Ty → Nat → Option (Tm × Ty)
  | ⟨k, n, t, _, l⟩, takes, c =>
    (mapR l (fun x _ c => readS x (takesIn k t takes) c) (c + 1)).bind fun ps =>
      (ruleY k n t (ps.map fun p => p.2.2) (takesIn k t takes)).bind fun r =>
        if fitL (ps.map fun p => p.2.2) r.2 = true then some (⟨k, n, t, anyY, castL ps r.2⟩, r.1) else none
def readL : List Tm → List Ty → Nat → Option (List (Nat × Tm × Ty))
  | [], _, _ => some []
  | x :: r, takes, c => (readS x takes c).bind fun p => (readL r takes (c + x.sz)).bind fun q => some ((c, p.1, p.2) :: q)
theorem mapR_read (takes : List Ty) : ∀ (l : List Tm) (c : Nat), mapR l (fun x _ c => readS x takes c) c = readL l takes c
  | [], _ => rfl
  | x :: r, c => by simp only [mapR, readL, mapR_read takes r]
theorem readS_mk (k n : Int) (t f : Ty) (l : List Tm) (takes : List Ty) (c : Nat) : readS ⟨k, n, t, f, l⟩ takes c =
    (readL l (takesIn k t takes) (c + 1)).bind fun ps => (ruleY k n t (ps.map fun p => p.2.2) (takesIn k t takes)).bind fun r => if fitL (ps.map fun p => p.2.2) r.2 = true then some (⟨k, n, t, anyY, castL ps r.2⟩, r.1) else none := by
  rw [readS, mapR_read]
theorem readS_some {k n : Int} {t f : Ty} {l : List Tm} {takes : List Ty} {c : Nat} {y : Tm} {i : Ty} (h : readS ⟨k, n, t, f, l⟩ takes c = some (y, i)) :
    ∃ ps us, readL l (takesIn k t takes) (c + 1) = some ps ∧ ruleY k n t (ps.map fun p => p.2.2) (takesIn k t takes) = some (i, us) ∧ fitL (ps.map fun p => p.2.2) us = true ∧ y = ⟨k, n, t, anyY, castL ps us⟩ := by
  rw [readS_mk] at h
  cases h1 : readL l (takesIn k t takes) (c + 1) with
  | none => rw [h1] at h; cases h
  | some ps =>
    rw [h1] at h
    simp only [Option.bind_some] at h
    cases h2 : ruleY k n t (ps.map fun p => p.2.2) (takesIn k t takes) with
    | none => rw [h2] at h; cases h
    | some r =>
      rw [h2] at h
      simp only [Option.bind_some] at h
      split at h
      · rename_i h3
        cases h
        exact ⟨ps, r.2, rfl, h2, h3, rfl⟩
      · cases h
theorem readL_cons {x : Tm} {r : List Tm} {takes : List Ty} {c : Nat} {ps : List (Nat × Tm × Ty)} (h : readL (x :: r) takes c = some ps) : ∃ y i q, readS x takes c = some (y, i) ∧ readL r takes (c + x.sz) = some q ∧ ps = (c, y, i) :: q := by
  rw [readL] at h
  cases h1 : readS x takes c with
  | none => rw [h1] at h; cases h
  | some p =>
    rw [h1] at h
    simp only [Option.bind_some] at h
    cases h2 : readL r takes (c + x.sz) with
    | none => rw [h2] at h; cases h
    | some q =>
      rw [h2] at h
      simp only [Option.bind_some] at h
      cases h
      exact ⟨p.1, p.2, q, rfl, rfl, rfl⟩
theorem readL_length : ∀ (l : List Tm) (takes : List Ty) (c : Nat) (ps : List (Nat × Tm × Ty)), readL l takes c = some ps → ps.length = l.length
  | [], _, _, ps, h => by rw [readL] at h; cases h; rfl
  | x :: r, takes, c, ps, h => by
    obtain ⟨y, i, q, _, h2, rfl⟩ := readL_cons h
    simp [readL_length r takes _ q h2]
/-- What is true of each part's reading is true of all. -/
theorem readL_all {takes : List Ty} {Q : Tm → Nat → Tm → Ty → Prop} : ∀ (l : List Tm) (c : Nat) (ps : List (Nat × Tm × Ty)), readL l takes c = some ps → (∀ x, x ∈ l → ∀ c y i, readS x takes c = some (y, i) → Q x c y i) →
    ∀ j (h : j < ps.length) (h' : j < l.length), Q l[j] ps[j].1 ps[j].2.1 ps[j].2.2
  | [], c, ps, h, _, j, hj, h' => by simp at h'
  | x :: r, c, ps, h, hQ, j, hj, h' => by
    obtain ⟨y, i, q, h1, h2, rfl⟩ := readL_cons h
    match j with
    | 0 => exact hQ x (by simp) c y i h1
    | j + 1 => exact readL_all r _ q h2 (fun z hz => hQ z (by simp [hz])) j (by simpa using hj) (by simpa using h')
/-- All that is asked of a good term, and of its parts. -/
def okTm : Tm → Nat → Prop
  | ⟨k, n, t, f, l⟩, ins => okTop 0 (ins : Int) ⟨k, n, t, f, l⟩ = true ∧ ∀ x, x ∈ l → okTm x (if k = 7 then ins + 1 else ins)
theorem okTm_mk {k n : Int} {t f : Ty} {l : List Tm} {ins : Nat} : okTm ⟨k, n, t, f, l⟩ ins ↔ okTop 0 (ins : Int) ⟨k, n, t, f, l⟩ = true ∧ ∀ x, x ∈ l → okTm x (if k = 7 then ins + 1 else ins) := by
  rw [okTm]
theorem bindL_ok {f : Tm → Nat → Option Nat} {Q : Tm → Prop} (hf : ∀ y q q', f y q = some q' → Q y ∧ y.sz + q' = q) : ∀ (l : List Tm) (r r' : Nat), bindL f l r = some r' → (∀ y, y ∈ l → Q y) ∧ (l.map Tm.sz).sum + r' = r
  | [], r, r', h => by simp [bindL] at h; exact ⟨(fun y hy => by cases hy), by simpa using h.symm⟩
  | x :: l, r, r', h => by
    simp only [bindL] at h
    cases hq : f x r with
    | none => rw [hq] at h; cases h
    | some q =>
      rw [hq] at h
      have h1 := hf x r q hq
      have h2 := bindL_ok hf l q r' h
      refine ⟨fun y hy => ?_, by simp; omega⟩
      rcases List.mem_cons.1 hy with rfl | hy
      · exact h1.1
      · exact h2.1 y hy
theorem goodS_ok : ∀ (n : Nat) (ins : Nat) (x : Tm) (r r' : Nat), goodS 0 n (ins : Int) x r = some r' → okTm x ins ∧ x.sz + r' = r
  | 0, _, _, _, _, h => by simp [goodS] at h
  | _ + 1, _, _, 0, _, h => by simp [goodS] at h
  | n + 1, ins, ⟨k, m, t, f, l⟩, r + 1, r', h => by
    simp only [goodS] at h
    split at h
    · rename_i ht
      have hi : insOf k (ins : Int) = ((if k = 7 then ins + 1 else ins : Nat) : Int) := by
        unfold insOf; split <;> simp
      rw [hi] at h
      have h2 := bindL_ok (fun y q q' => goodS_ok n (if k = 7 then ins + 1 else ins) y q q') l r r' h
      exact ⟨okTm_mk.2 ⟨ht, h2.1⟩, by rw [Tm.sz_mk]; omega⟩
    · cases h
theorem goodM_ok {x : Tm} (h : goodM 0 x = true) : okTm x 0 ∧ x.sz ≤ 40 := by
  obtain ⟨r', hr⟩ := Option.isSome_iff_exists.1 h
  have := goodS_ok 40 0 x 40 r' hr
  exact ⟨this.1, by omega⟩
theorem goodY_more : ∀ (n m : Nat) (t : Ty), n ≤ m → goodY n t = true → goodY m t = true
  | 0, _, _, _, h => by simp [goodY] at h
  | n + 1, 0, _, hm, _ => by omega
  | n + 1, m + 1, t, hm, h => by
    rcases goodY_cases h with ⟨k, rfl, hk⟩ | ⟨x, y, rfl, hx, hy⟩
    · rcases hk with rfl | rfl | rfl <;> simp [goodY]
    · simp [goodY, goodY_more n m x (by omega) hx, goodY_more n m y (by omega) hy]
theorem goodY_any (n : Nat) : goodY (n + 1) ⟨0, []⟩ = true := by simp [goodY]
theorem goodY_num (n : Nat) : goodY (n + 1) ⟨1, []⟩ = true := by simp [goodY]
theorem goodY_truth (n : Nat) : goodY (n + 1) ⟨2, []⟩ = true := by simp [goodY]
/-- What okTop asks, one by one. -/
theorem okTop_all {k n : Int} {t f : Ty} {l : List Tm} {ins : Nat} (h : okTop 0 (ins : Int) ⟨k, n, t, f, l⟩ = true) :
    1 ≤ k ∧ k ≤ 9 ∧ l.length = partsOf k ∧ isAnyY f = true ∧ goodY 4 t = true ∧ (tells k = false → isAnyY t = true) ∧ (k = 1 → 0 ≤ n ∧ n < (ins : Int)) := by
  simp only [okTop, okTypes, Bool.and_eq_true, decide_eq_true_eq, beq_iff_eq] at h
  obtain ⟨⟨⟨h1, h2⟩, h3⟩, ⟨h4, h5⟩, h6⟩ := h
  refine ⟨h1, h2, h3, h4, ?_, fun hk => ?_, fun hk => ?_⟩
  · split at h5
    · exact h5
    · rw [isAny_eq h5]; exact goodY_any 3
  · rw [if_neg (by rw [hk]; simp)] at h5; exact h5
  · subst hk
    simp [okNum] at h6
    omega
theorem takesIn_length (k : Int) (t : Ty) (takes : List Ty) : (takesIn k t takes).length = if k = 7 then takes.length + 1 else takes.length := by
  unfold takesIn; split <;> simp
theorem takesIn_good {k : Int} {t : Ty} {takes : List Ty} (ht : goodY 4 t = true) (h : ∀ u, u ∈ takes → goodY 4 u = true) : ∀ u, u ∈ takesIn k t takes → goodY 4 u = true := by
  intro u hu
  unfold takesIn at hu
  split at hu
  · rcases List.mem_cons.1 hu with rfl | hu
    · exact ht
    · exact h u hu
  · exact h u hu
theorem getD_good {m : Nat} {l : List Ty} (h : ∀ u, u ∈ l → goodY m u = true) (hm : 1 ≤ m) (j : Nat) : goodY m (l.getD j ⟨0, []⟩) = true := by
  rw [List.getD_eq_getElem?_getD]
  cases hj : l[j]? with
  | none => obtain ⟨m, rfl⟩ : ∃ q, m = q + 1 := ⟨m - 1, by omega⟩; exact goodY_any m
  | some u => exact h u (List.mem_of_getElem? hj)
/-- The types of a rule are good, and there is one use for each part. -/
theorem rule_good {k n : Int} {t : Ty} {ps takes : List Ty} {i : Ty} {us : List Ty} (m : Nat) (hm : 4 ≤ m) (h1 : 1 ≤ k) (h9 : k ≤ 9) (hl : ps.length = partsOf k) (ht : goodY 4 t = true) (hT : ∀ u, u ∈ takes → goodY 4 u = true) (hp : ∀ u, u ∈ ps → goodY m u = true)
    (h : ruleY k n t ps takes = some (i, us)) : us.length = ps.length ∧ goodY (m + 1) i = true ∧ ∀ u, u ∈ us → goodY (m + 1) u = true := by
  have hk : k = 1 ∨ k = 2 ∨ k = 3 ∨ k = 4 ∨ k = 5 ∨ k = 6 ∨ k = 7 ∨ k = 8 ∨ k = 9 := by omega
  have up : ∀ u, goodY m u = true → goodY (m + 1) u = true := fun u => goodY_more m (m + 1) u (by omega)
  have up4 : ∀ u, goodY 4 u = true → goodY (m + 1) u = true := fun u => goodY_more 4 (m + 1) u (by omega)
  rcases hk with rfl | rfl | rfl | rfl | rfl | rfl | rfl | rfl | rfl
  · simp [ruleY] at h
    obtain ⟨rfl, rfl⟩ := h
    refine ⟨by rw [hl]; rfl, up4 _ ?_, fun u hu => by cases hu⟩
    have := getD_good hT (by omega) n.toNat
    simpa [List.getD_eq_getElem?_getD] using this
  · simp [ruleY] at h
    obtain ⟨rfl, rfl⟩ := h
    exact ⟨by rw [hl]; rfl, goodY_num _, fun u hu => by cases hu⟩
  · simp [ruleY] at h
    obtain ⟨rfl, rfl⟩ := h
    exact ⟨by rw [hl]; rfl, goodY_truth _, fun u hu => by cases hu⟩
  · simp [ruleY] at h
    obtain ⟨rfl, rfl⟩ := h
    exact ⟨by rw [hl]; rfl, goodY_num _, fun u hu => by simp at hu; subst hu; exact goodY_num _⟩
  · simp [ruleY] at h
    obtain ⟨rfl, rfl⟩ := h
    exact ⟨by rw [hl]; rfl, goodY_truth _, fun u hu => by simp at hu; subst hu; exact goodY_num _⟩
  · have h' : ifY ⟨2, []⟩ (ps.getD 1 ⟨0, []⟩) (ps.getD 2 ⟨0, []⟩) = some (i, us) := by simpa [ruleY] using h
    have g1 := getD_good hp (by omega) 1
    have g2 := getD_good hp (by omega) 2
    have gj := (join_facts m _ _ g1 g2).1
    unfold ifY at h'
    split at h'
    · cases h'
      refine ⟨by rw [hl]; rfl, up _ gj, fun u hu => ?_⟩
      simp only [List.mem_cons, List.not_mem_nil, or_false] at hu
      rcases hu with rfl | rfl | rfl
      · exact goodY_truth _
      · exact up _ gj
      · exact up _ gj
    · cases h'
  · have h' : i = ⟨3, [t, ps.getD 0 ⟨0, []⟩]⟩ ∧ us = ps := by
      have : some (Ty.mk 3 [t, ps.getD 0 ⟨0, []⟩], ps) = some (i, us) := by simpa [ruleY] using h
      cases this; exact ⟨rfl, rfl⟩
    obtain ⟨rfl, rfl⟩ := h'
    have g1 := getD_good hp (by omega) 0
    refine ⟨rfl, ?_, fun u hu => up _ (hp u hu)⟩
    rw [goodY, g1, goodY_more 4 m t (by omega) ht]; rfl
  · have h' : callY (ps.getD 0 ⟨0, []⟩) = some (i, us) := by simpa [ruleY] using h
    have g1 := getD_good hp (by omega) 0
    generalize ps.getD 0 ⟨0, []⟩ = q at h' g1
    obtain ⟨m, rfl⟩ : ∃ r, m = r + 1 := ⟨m - 1, by omega⟩
    rcases goodY_cases g1 with ⟨k, rfl, hk⟩ | ⟨x, y, rfl, hx, hy⟩
    · rcases hk with rfl | rfl | rfl
      · simp [callY] at h'
        obtain ⟨rfl, rfl⟩ := h'
        refine ⟨by rw [hl]; rfl, goodY_any _, fun u hu => ?_⟩
        simp only [List.mem_cons, List.not_mem_nil, or_false] at hu
        rcases hu with rfl | rfl
        · simp [goodY]
        · exact goodY_any _
      · simp [callY] at h'
      · simp [callY] at h'
    · simp [callY] at h'
      obtain ⟨rfl, rfl⟩ := h'
      refine ⟨by rw [hl]; rfl, goodY_more m _ _ (by omega) hy, fun u hu => ?_⟩
      simp only [List.mem_cons, List.not_mem_nil, or_false] at hu
      rcases hu with rfl | rfl
      · exact up _ g1
      · exact goodY_more m _ _ (by omega) hx
  · have h' : i = t ∧ us = [t] := by
      have : some (t, [t]) = some (i, us) := by simpa [ruleY] using h
      cases this; exact ⟨rfl, rfl⟩
    obtain ⟨rfl, rfl⟩ := h'
    exact ⟨by rw [hl]; rfl, up4 _ ht, fun u hu => by simp at hu; subst hu; exact up4 _ ht⟩
/-- A part has less nodes. -/
theorem sz_mem : ∀ (l : List Tm) (x : Tm), x ∈ l → x.sz ≤ (l.map Tm.sz).sum
  | [], _, h => by cases h
  | y :: r, x, h => by
    rcases List.mem_cons.1 h with rfl | h
    · simp
    · have := sz_mem r x h
      simp; omega
theorem Tm.sz_pos (x : Tm) : 1 ≤ x.sz := by cases x; rw [Tm.sz_mk]; omega
/-- The type of a good term is good. -/
theorem read_good : ∀ (x : Tm) (takes : List Ty) (c : Nat) (y : Tm) (i : Ty), okTm x takes.length → (∀ u, u ∈ takes → goodY 4 u = true) → readS x takes c = some (y, i) → goodY (x.sz + 4) i = true := by
  intro x
  induction x using Tm.ind with
  | h k n t f l ih =>
    intro takes c y i hok hT h
    obtain ⟨h0, h1⟩ := okTm_mk.1 hok
    obtain ⟨k1, k9, hl, _, ht, _, _⟩ := okTop_all h0
    obtain ⟨ps, us, e1, e2, _, _⟩ := readS_some h
    have hlen := readL_length _ _ _ _ e1
    have hp : ∀ u, u ∈ ps.map (fun p => p.2.2) → goodY ((l.map Tm.sz).sum + 4) u = true := by
      intro u hu
      obtain ⟨j, hj, rfl⟩ := List.getElem_of_mem hu
      have hj' : j < ps.length := by simpa using hj
      have := readL_all (Q := fun x _ _ i => goodY (x.sz + 4) i = true) l _ ps e1 (fun x hx c y i hr => ih x hx _ c y i (by rw [takesIn_length]; exact h1 x hx) (takesIn_good ht hT) hr) j hj' (by omega)
      have hs := sz_mem l l[j] (List.getElem_mem _)
      simpa using goodY_more _ ((l.map Tm.sz).sum + 4) _ (by omega) this
    have := rule_good ((l.map Tm.sz).sum + 4) (by omega) k1 k9 (by simpa using hlen.trans hl) ht (takesIn_good ht hT) hp e2
    rw [Tm.sz_mk]
    exact goodY_more _ _ _ (by omega) this.2.1
end Go.Proofs.YtnddkmccagiclabGreatDoor
