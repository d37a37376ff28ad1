/-
  What the call of (*walk).good answers, at whatever term lies in memory.
-/
import Derived.Test.YtnddkmccagiclaaGreatDoorLotae048bf8fb
namespace Go.Proofs.YtnddkmccagiclaaGreatDoor
open Go.RowKit

theorem wTop_kept (R r : Nat) (x : TT) (w : World) (nq : Nat) : Kept R none w ((wTop R r x w).drewN nq) :=
  setR_kept.trans (Kept.of_below (below_dN ((Below.refl _ _).alloc (Nat.le_refl _) _) _))

theorem wTop_ws {R r : Nat} {ar : Int} {room : Nat} {x : TT} {w : World} {nq : Nat} (h : WS R ar room w) : WS R ar r ((wTop R r x w).drewN nq) :=
  (WS.set h).below (below_dN ((Below.refl _ _).alloc (Nat.le_refl _) _) _)

/-- The box's cells. -/
theorem wTop_cells (R r : Nat) (x : TT) (w : World) (nq : Nat) : At7 ((wTop R r x w).drewN nq) w.heap.size 0 x := by
  have hs : (w.setCell ⟨R, 1, none⟩ (.int .i64 (r : Int))).heap.size = w.heap.size := by simp [World.setCell]
  rw [← hs]
  constructor <;> simp [wTop, go_sem]

set_option maxHeartbeats 2000000 in
theorem goodW_bad2 (R : Nat) (ar : Int) (r : Nat) (hr1 : r ≤ 1000) (ins : Nat) (hi : ins ≤ 1000) (x : TT) (w : World) (hg : Gp w) (hR : 3 ≤ R) (hw : WS R ar (r + 1) w)
    (hx : x.In w) (hbl : x.Bl (· ≠ R)) (hnb : x.nb) (hk1 : 1 ≤ x.k) (hk2 : x.k ≤ 9) (hlen : x.l.length = partsOf x.k)
    (hok : (okTypes x.k x.t.ty x.f.ty && okNum ar (ins : Int) x.k x.n) = false) :
    Calls Tryz.prog 24 #[.pointer (some ⟨R, 0, none⟩), .agg #[.int .i64 x.k, .int .i64 x.n, .int .i64 x.t.k, .slice x.t.a x.t.l.length x.t.c, .int .i64 x.f.k, .slice x.f.a x.f.l.length x.f.c, .slice x.a x.l.length x.c], .int .i64 (ins : Int)] w (GoodPost R ar none w) := by
  have hr := hw.r
  have hz := hw.z
  have hRl := hw.lt
  have e0 : ((r + 1 : Nat) : Int) = (r : Int) + 1 := by omega
  rw [e0] at hr
  have e1 : (((r : Int) + 1) == 0) = false := by simp; omega
  have hd1 : decide (x.k < 1) = false := by simp; omega
  have hd2 : decide (9 < x.k) = false := by simp; omega
  have hp := parts_cell hg x.k hk1 hk2
  have hne : ((x.l.length : Int) == (partsOf x.k : Int)) = true := by rw [hlen]; simp
  have hne2 : ((x.l.length : Int) != (partsOf x.k : Int)) = false := by rw [bne, hne]; rfl
  have i0 : (0 : Int) ≤ x.k := by omega
  have i1 : x.k < 10 := by omega
  have n2 : (2 : Nat) ≠ R := by omega
  have h2l : 2 < w.heap.size := by have := hg.size; omega
  have HX : Hid (∀ nq, x.In ((wTop R r x w).drewN nq)) := fun nq => hx.keptR (wTop_kept R r x w nq) hbl
  have HW : Hid (∀ nq, WS R ar r ((wTop R r x w).drewN nq)) := fun nq => wTop_ws hw
  have HB : Hid (∀ nq, At7 ((wTop R r x w).drewN nq) w.heap.size 0 x) := fun nq => wTop_cells R r x w nq
  have HNB : Hid (x.n ≤ 9223372036854775807) := hnb.n
  have HOK : Hid ((okTypes x.k x.t.ty x.f.ty && okNum ar (ins : Int) x.k x.n) = false) := hok
  obtain ⟨bt, hbt⟩ : ∃ b, okTypes x.k x.t.ty x.f.ty = b := ⟨_, rfl⟩
  have HT : Hid (∀ W, x.In W → Calls Tryz.prog 43 #[.agg #[.int .i64 x.k, .int .i64 x.n, .int .i64 x.t.k, .slice x.t.a x.t.l.length x.t.c, .int .i64 x.f.k, .slice x.f.a x.f.l.length x.f.c, .slice x.a x.l.length x.c]] W fun e w' => e = .returned (.bool bt) ∧ Below W.heap.size W w') := by
    intro W h
    have := goodTypes_any x W h.t h.f
    rw [hbt] at this
    exact this
  have HBT : Hid (okTypes x.k x.t.ty x.f.ty = bt) := hbt
  clear hok hlen hk1 hk2 hg hbt hbl hx hw hnb
  cases bt
  · go_enter Tryz.func24, Tryz.ntmps24
    go_wp2_with fail
    go_quiet (fail)
    go_wp2_with fail
    refine (HT.out _ (HX.out nq)).mono ?_
    rintro e w1 ⟨rfl, hb1⟩
    have HE : Hid (GoodPost R ar none w (.returned (.bool false)) w1) := ⟨r, rfl, (HW.out nq).below hb1, (fun q h => by cases h), (wTop_kept R r x w nq).trans (Kept.of_below hb1)⟩
    clear hb1
    go_wp2_with fail
    go_ret
    exact HE.out
  · have hbn : Hid (okNum ar (ins : Int) x.k x.n = false) := by have := HOK.out; rw [HBT.out] at this; simpa [Hid] using this
    go_enter Tryz.func24, Tryz.ntmps24
    go_wp2_with fail
    go_quiet (fail)
    go_wp2_with fail
    refine (HT.out _ (HX.out nq)).mono ?_
    rintro e w1 ⟨rfl, hb1⟩
    have HN : Hid (Calls Tryz.prog 44 #[.pointer (some ⟨R, 0, none⟩), .agg #[.int .i64 x.k, .int .i64 x.n, .int .i64 x.t.k, .slice x.t.a x.t.l.length x.t.c, .int .i64 x.f.k, .slice x.f.a x.f.l.length x.f.c, .slice x.a x.l.length x.c], .int .i64 (ins : Int)] w1 fun e w' => e = .returned (.bool false) ∧ Below w1.heap.size w1 w') := by
      have := goodNumber_any R ar ins hi x HNB.out w1 ((HW.out nq).below hb1).a
      rw [hbn.out] at this
      exact this
    have HE : Hid (WS R ar r w1 ∧ Kept R none w w1) := ⟨(HW.out nq).below hb1, (wTop_kept R r x w nq).trans (Kept.of_below hb1)⟩
    have h7 := (HB.out nq).below hb1
    have c0 := h7.c0
    have c1 := h7.c1
    have c2 := h7.c2
    have c3 := h7.c3
    have c4 := h7.c4
    have c5 := h7.c5
    have c6 := h7.c6
    simp only [Nat.zero_add] at c0 c1 c2 c3 c4 c5 c6
    clear hb1 h7
    go_wp2_with fail
    refine HN.out.mono ?_
    rintro e w2 ⟨rfl, hb2⟩
    have HE2 : Hid (GoodPost R ar none w (.returned (.bool false)) w2) := ⟨r, rfl, HE.out.1.below hb2, (fun q h => by cases h), HE.out.2.trans (Kept.of_below hb2)⟩
    clear hb2 c0 c1 c2 c3 c4 c5 c6
    go_wp2_with fail
    go_ret
    exact HE2.out

set_option maxHeartbeats 4000000 in
theorem goodW_top (R : Nat) (ar : Int) (n r : Nat) (hr1 : r ≤ 1000) (ins : Nat) (hi : ins ≤ 1000) (x : TT) (w : World) (hg : Gp w) (hR : 3 ≤ R) (hw : WS R ar (r + 1) w) (hl : x.l.length ≤ 140737488355328)
    (hx : x.In w) (hbl : x.Bl (· ≠ R)) (hnb : x.nb) (hk1 : 1 ≤ x.k) (hk2 : x.k ≤ 9) (hlen : x.l.length = partsOf x.k)
    (hok1 : okTypes x.k x.t.ty x.f.ty = true) (hok2 : okNum ar (ins : Int) x.k x.n = true)
    (b7 : Bool) (h7 : (x.k == 7) = b7) (ins' : Nat) (hins : (ins' : Int) = if b7 = true then (ins : Int) + 1 else (ins : Int))
    (HC : Hid (∀ (j : Nat) (hj : j < x.l.length) (q : Nat) (W : World), q ≤ r → Gp W → WS R ar q W → x.l[j].In W → Calls Tryz.prog 24 #[.pointer (some ⟨R, 0, none⟩), .agg #[.int .i64 x.l[j].k, .int .i64 x.l[j].n, .int .i64 x.l[j].t.k, .slice x.l[j].t.a x.l[j].t.l.length x.l[j].t.c, .int .i64 x.l[j].f.k, .slice x.l[j].f.a x.l[j].f.l.length x.l[j].f.c, .slice x.l[j].a x.l[j].l.length x.l[j].c], .int .i64 (ins' : Int)] W (GoodPost R ar (goodS ar n (insOf x.k (ins : Int)) x.l[j].tm q) W)))
    (HM : Hid (∀ (y : TT) (q q' : Nat), y ∈ x.l → goodS ar n (insOf x.k (ins : Int)) y.tm q = some q' → q' ≤ q)) :
    Calls Tryz.prog 24 #[.pointer (some ⟨R, 0, none⟩), .agg #[.int .i64 x.k, .int .i64 x.n, .int .i64 x.t.k, .slice x.t.a x.t.l.length x.t.c, .int .i64 x.f.k, .slice x.f.a x.f.l.length x.f.c, .slice x.a x.l.length x.c], .int .i64 (ins : Int)] w (GoodPost R ar (bindL (fun (y : TT) r' => goodS ar n (insOf x.k (ins : Int)) y.tm r') x.l r) w) := by
  have hr := hw.r
  have hz := hw.z
  have hRl := hw.lt
  have e0 : ((r + 1 : Nat) : Int) = (r : Int) + 1 := by omega
  rw [e0] at hr
  have e1 : (((r : Int) + 1) == 0) = false := by simp; omega
  have hd1 : decide (x.k < 1) = false := by simp; omega
  have hd2 : decide (9 < x.k) = false := by simp; omega
  have hp := parts_cell hg x.k hk1 hk2
  have hne : ((x.l.length : Int) == (partsOf x.k : Int)) = true := by rw [hlen]; simp
  have hne2 : ((x.l.length : Int) != (partsOf x.k : Int)) = false := by rw [bne, hne]; rfl
  have i0 : (0 : Int) ≤ x.k := by omega
  have i1 : x.k < 10 := by omega
  have n2 : (2 : Nat) ≠ R := by omega
  have h2l : 2 < w.heap.size := by have := hg.size; omega
  have HX : Hid (∀ nq, x.In ((wTop R r x w).drewN nq)) := fun nq => hx.keptR (wTop_kept R r x w nq) hbl
  have HW : Hid (∀ nq, WS R ar r ((wTop R r x w).drewN nq)) := fun nq => wTop_ws hw
  have HB : Hid (∀ nq, At7 ((wTop R r x w).drewN nq) w.heap.size 0 x) := fun nq => wTop_cells R r x w nq
  have HNB : Hid (x.n ≤ 9223372036854775807) := hnb.n
  have HT : Hid (∀ W, x.In W → Calls Tryz.prog 43 #[.agg #[.int .i64 x.k, .int .i64 x.n, .int .i64 x.t.k, .slice x.t.a x.t.l.length x.t.c, .int .i64 x.f.k, .slice x.f.a x.f.l.length x.f.c, .slice x.a x.l.length x.c]] W fun e w' => e = .returned (.bool true) ∧ Below W.heap.size W w') := by
    intro W h
    have := goodTypes_any x W h.t h.f
    rw [hok1] at this
    exact this
  have HOK : Hid (okNum ar (ins : Int) x.k x.n = true) := hok2
  have HG : Hid (Gp w) := hg
  have HBL : Hid (x.Bl (· ≠ R)) := hbl
  have HINS : Hid ((ins' : Int) = if b7 = true then (ins : Int) + 1 else (ins : Int)) := hins
  have hi1 : (ins : Int) + 1 ≤ 1001 := by omega
  clear hok1 hok2 hlen hk1 hk2 hg hbl hx hw hnb hins
  cases b7
  all_goals
    go_enter Tryz.func24, Tryz.ntmps24
    go_wp2_with fail
    go_quiet (fail)
    go_wp2_with fail
    refine (HT.out _ (HX.out nq)).mono ?_
    rintro e w1 ⟨rfl, hb1⟩
    have HN : Hid (Calls Tryz.prog 44 #[.pointer (some ⟨R, 0, none⟩), .agg #[.int .i64 x.k, .int .i64 x.n, .int .i64 x.t.k, .slice x.t.a x.t.l.length x.t.c, .int .i64 x.f.k, .slice x.f.a x.f.l.length x.f.c, .slice x.a x.l.length x.c], .int .i64 (ins : Int)] w1 fun e w' => e = .returned (.bool true) ∧ Below w1.heap.size w1 w') := by
      have := goodNumber_any R ar ins hi x HNB.out w1 ((HW.out nq).below hb1).a
      rw [HOK.out] at this
      exact this
    have HE : Hid (WS R ar r w1 ∧ Kept R none w w1 ∧ x.In w1 ∧ At7 w1 w.heap.size 0 x) := ⟨(HW.out nq).below hb1, (wTop_kept R r x w nq).trans (Kept.of_below hb1), (HX.out nq).below hb1, (HB.out nq).below hb1⟩
    obtain ⟨_, _, _, c0, c1, c2, c3, c4, c5, c6⟩ := HE.out
    simp only [Nat.zero_add] at c0 c1 c2 c3 c4 c5 c6
    clear hb1
    go_wp2_with fail
    refine HN.out.mono ?_
    rintro e w2 ⟨rfl, hb2⟩
    have HE2 : Hid (WS R ar r w2 ∧ Kept R none w w2 ∧ x.In w2 ∧ Gp w2) := ⟨HE.out.1.below hb2, HE.out.2.1.trans (Kept.of_below hb2), HE.out.2.2.1.below hb2, (HG.out.kept hR HE.out.2.1).below hb2⟩
    replace c0 := cell_later hb2 c0
    replace c6 := cell_later hb2 c6
    clear hb2 c1 c2 c3 c4 c5 HE HN HX HW HB
    go_wp2_with fail
    go_loopg [57] x.l.length (fun g i wr => ∃ (j q : Nat), g + j = x.l.length ∧ i = .int .i64 (j : Int) ∧ Hid (q ≤ r ∧ bindL (fun (y : TT) r' => goodS ar n (insOf x.k (ins : Int)) y.tm r') x.l r = bindL (fun (y : TT) r' => goodS ar n (insOf x.k (ins : Int)) y.tm r') (x.l.drop j) q ∧ WS R ar q wr ∧ Kept R none w2 wr))
    case atStart => exact ⟨0, r, by omega, rfl, Nat.le_refl _, rfl, HE2.out.1, Kept.of_below (Below.refl _ _)⟩
    case round =>
      obtain ⟨j, q, hj, rfl, HQ⟩ := hrel
      by_cases hlt : j < x.l.length
      · obtain ⟨b, o, ea, h7', hxj⟩ := HE2.out.2.2.1.part j hlt
        have hbR : b ≠ R := HBL.out.own (by intro e; rw [e] at hlt; simp at hlt) _ ea
        have h8 := h7'.keptR HQ.out.2.2.2 hbR
        have d0 := h8.c0
        have d1 := h8.c1
        have d2 := h8.c2
        have d3 := h8.c3
        have d4 := h8.c4
        have d5 := h8.c5
        have d6 := h8.c6
        have hxr := hxj.keptR HQ.out.2.2.2 (HBL.out.mem (List.getElem_mem hlt))
        have HXR : Hid (x.l[j].In wr) := hxr
        have hR2 : wr.heap.size ≠ R := by have := HQ.out.2.2.1.lt; omega
        have i2 : (j : Int) < (x.l.length : Int) := by omega
        have i3 : (0 : Int) ≤ (j : Int) := by omega
        have HEA : Hid (x.a = some ⟨b, o, none⟩) := ea
        rw [ea]
        have hbp : ∀ o, Below wr.heap.size wr (wr.alloc o) := fun o => (Below.refl _ _).alloc (Nat.le_refl _) _
        have HP : Hid (∀ o, Calls Tryz.prog 24 #[.pointer (some ⟨R, 0, none⟩), .agg #[.int .i64 x.l[j].k, .int .i64 x.l[j].n, .int .i64 x.l[j].t.k, .slice x.l[j].t.a x.l[j].t.l.length x.l[j].t.c, .int .i64 x.l[j].f.k, .slice x.l[j].f.a x.l[j].f.l.length x.l[j].f.c, .slice x.l[j].a x.l[j].l.length x.l[j].c], .int .i64 (ins' : Int)] (wr.alloc o) (GoodPost R ar (goodS ar n (insOf x.k (ins : Int)) x.l[j].tm q) (wr.alloc o))) := fun o => HC.out j hlt q _ HQ.out.1 ((HE2.out.2.2.2.kept hR HQ.out.2.2.2).below (hbp o)) (HQ.out.2.2.1.below (hbp o)) (HXR.out.below (hbp o))
        rw [HINS.out] at HP
        clear h7' hxj h8 hxr ea hbp
        simp only [Bool.false_eq_true, if_false, if_true] at HP
        go_wp2_with fail
        refine (HP.out _).mono ?_
        rintro e w3 ⟨r3, rfl, hw3, hs3, hk3⟩
        have hk4 : Kept R none w2 w3 := (HQ.out.2.2.2.trans (Kept.of_below ((Below.refl _ _).alloc (Nat.le_refl _) _))).trans hk3
        have HS : Hid (x.l.drop j = x.l[j] :: x.l.drop (j + 1)) := List.drop_eq_getElem_cons hlt
        cases ho : goodS ar n (insOf x.k (ins : Int)) x.l[j].tm q with
        | none =>
          have HF : Hid (GoodPost R ar (bindL (fun (y : TT) r' => goodS ar n (insOf x.k (ins : Int)) y.tm r') x.l r) w (.returned (.bool false)) w3) := by
            have e : bindL (fun (y : TT) r' => goodS ar n (insOf x.k (ins : Int)) y.tm r') x.l r = none := by rw [HQ.out.2.1, HS.out, bindL, ho]; rfl
            rw [e]
            exact ⟨r3, rfl, hw3, (fun q h => by cases h), HE2.out.2.1.trans hk4⟩
          clear hw3 hs3 hk3 hk4 ho HQ HP HXR d0 d1 d2 d3 d4 d5 d6
          simp only [Option.isSome_none]
          go_wp2_with fail
          go_ret
          exact HF.out
        | some q' =>
          have HF : Hid (q' ≤ r ∧ bindL (fun (y : TT) r' => goodS ar n (insOf x.k (ins : Int)) y.tm r') x.l r = bindL (fun (y : TT) r' => goodS ar n (insOf x.k (ins : Int)) y.tm r') (x.l.drop (j + 1)) q' ∧ WS R ar q' w3 ∧ Kept R none w2 w3) := by
            have e := hs3 q' ho
            subst e
            refine ⟨Nat.le_trans (HM.out _ q q' (List.getElem_mem hlt) ho) HQ.out.1, ?_, hw3, hk4⟩
            rw [HQ.out.2.1, HS.out, bindL, ho]
            rfl
          clear hw3 hs3 hk3 hk4 ho HQ HP HXR d0 d1 d2 d3 d4 d5 d6
          simp only [Option.isSome_some]
          go_wp2_with fail
          rw [← HEA.out]
          go_roundg (x.l.length - (j + 1))
          case measure => omega
          case rel => exact ⟨j + 1, q', by omega, by go_num, HF⟩
      · have HF : Hid (GoodPost R ar (bindL (fun (y : TT) r' => goodS ar n (insOf x.k (ins : Int)) y.tm r') x.l r) w (.returned (.bool true)) wr) := by
          have e : bindL (fun (y : TT) r' => goodS ar n (insOf x.k (ins : Int)) y.tm r') x.l r = some q := by rw [HQ.out.2.1, List.drop_eq_nil_of_le (by omega), bindL]
          rw [e]
          exact ⟨q, rfl, HQ.out.2.2.1, (fun q h => by cases h; rfl), HE2.out.2.1.trans HQ.out.2.2.2⟩
        clear HQ
        go_wp2_with fail
        go_ret
        exact HF.out
end Go.Proofs.YtnddkmccagiclaaGreatDoor

/-
  What the calls of (*walk).good and term.Good answer, at whatever term lies in memory.
-/
namespace Go.Proofs.YtnddkmccagiclaaGreatDoor
open Go.RowKit

theorem bindL_map {α β : Type} (g : α → β) (f : β → Nat → Option Nat) : ∀ (l : List α) (r : Nat), bindL f (l.map g) r = bindL (fun y r' => f (g y) r') l r
  | [], r => rfl
  | x :: l, r => by
    simp only [List.map_cons, bindL]
    cases f (g x) r with
    | none => rfl
    | some q => exact bindL_map g f l q

theorem bindL_le {α : Type} (f : α → Nat → Option Nat) (hf : ∀ y q q', f y q = some q' → q' ≤ q) : ∀ (l : List α) (r r' : Nat), bindL f l r = some r' → r' ≤ r
  | [], r, r', h => by simp [bindL] at h; omega
  | x :: l, r, r', h => by
    simp only [bindL] at h
    cases hq : f x r with
    | none => rw [hq] at h; cases h
    | some q =>
      rw [hq] at h
      have := hf x r q hq
      have := bindL_le f hf l q r' h
      omega

theorem goodS_le (ar : Int) : ∀ (n : Nat) (ins : Int) (x : Tm) (r r' : Nat), goodS ar n ins x r = some r' → r' ≤ r
  | 0, _, _, _, _, h => by simp [goodS] at h
  | n + 1, ins, x, 0, _, h => by simp [goodS] at h
  | n + 1, ins, x, r + 1, r', h => by
    simp only [goodS] at h
    split at h
    · have := bindL_le _ (fun y q q' h => goodS_le ar n (insOf x.k ins) y q q' h) x.l r r' h
      omega
    · cases h

theorem parts_le (k : Int) : partsOf k ≤ 3 := by
  unfold partsOf
  repeat' split
  all_goals omega

theorem goodW_any (R : Nat) (ar : Int) (hR : 3 ≤ R) (n : Nat) : n ≤ 500 → ∀ (ins : Nat) (x : TT) (r : Nat) (w : World), r ≤ n → ins + n ≤ 1000 → Gp w → WS R ar r w → x.In w → x.Bl (· ≠ R) → x.nb →
    Calls Tryz.prog 24 #[.pointer (some ⟨R, 0, none⟩), .agg #[.int .i64 x.k, .int .i64 x.n, .int .i64 x.t.k, .slice x.t.a x.t.l.length x.t.c, .int .i64 x.f.k, .slice x.f.a x.f.l.length x.f.c, .slice x.a x.l.length x.c], .int .i64 (ins : Int)] w (GoodPost R ar (goodS ar n (ins : Int) x.tm r) w) := by
  induction n with
  | zero =>
    intro _ ins x r w hr _ _ hw _ _ _
    obtain rfl : r = 0 := by omega
    exact goodW_none R ar _ x w hw
  | succ n ih =>
    intro hn ins x r w hr hi hg hw hx hbl hnb
    cases r with
    | zero => exact goodW_none R ar _ x w hw
    | succ r =>
      have e : goodS ar (n + 1) (ins : Int) x.tm (r + 1) = if okTop ar (ins : Int) x.tm = true then bindL (fun (y : TT) r' => goodS ar n (insOf x.k (ins : Int)) y.tm r') x.l r else none := by
        rw [goodS, TT.tm_l, TT.tm_k, bindL_map]
      rw [e]
      have ho : okTop ar (ins : Int) x.tm = ((decide (1 ≤ x.k) && decide (x.k ≤ 9) && (x.l.length == partsOf x.k)) && (okTypes x.k x.t.ty x.f.ty && okNum ar (ins : Int) x.k x.n)) := by
        rw [okTop, TT.tm_l, TT.tm_k, TT.tm_n, TT.tm_t, TT.tm_f, List.length_map]
      rw [ho]
      by_cases h1 : (decide (1 ≤ x.k) && decide (x.k ≤ 9) && (x.l.length == partsOf x.k)) = true
      · have h1' := h1
        simp only [Bool.and_eq_true, decide_eq_true_eq, beq_iff_eq] at h1'
        obtain ⟨⟨hk1, hk2⟩, hlen⟩ := h1'
        have hp := parts_le x.k
        by_cases h2 : (okTypes x.k x.t.ty x.f.ty && okNum ar (ins : Int) x.k x.n) = true
        · rw [h1, h2, Bool.and_self, if_pos rfl]
          simp only [Bool.and_eq_true] at h2
          by_cases h7 : x.k = 7
          · refine goodW_top R ar n r (by omega) ins (by omega) x w hg hR hw (by omega) hx hbl hnb hk1 hk2 hlen h2.1 h2.2 true (by simp [h7]) (ins + 1) (by simp) ?_ ?_
            · intro j hj q W hq hgW hwW hxW
              have := ih (by omega) (ins + 1) x.l[j] q W (by omega) (by omega) hgW hwW hxW (hbl.mem (List.getElem_mem hj)) (hnb.mem (List.getElem_mem hj))
              have e : insOf x.k (ins : Int) = ((ins + 1 : Nat) : Int) := by rw [insOf, if_pos h7]; omega
              rw [e]
              exact this
            · intro y q q' _ h
              exact goodS_le _ _ _ _ _ _ h
          · refine goodW_top R ar n r (by omega) ins (by omega) x w hg hR hw (by omega) hx hbl hnb hk1 hk2 hlen h2.1 h2.2 false (by simp [h7]) ins (by simp) ?_ ?_
            · intro j hj q W hq hgW hwW hxW
              have := ih (by omega) ins x.l[j] q W (by omega) (by omega) hgW hwW hxW (hbl.mem (List.getElem_mem hj)) (hnb.mem (List.getElem_mem hj))
              have e : insOf x.k (ins : Int) = (ins : Int) := by rw [insOf, if_neg h7]
              rw [e]
              exact this
            · intro y q q' _ h
              exact goodS_le _ _ _ _ _ _ h
        · have h2' : (okTypes x.k x.t.ty x.f.ty && okNum ar (ins : Int) x.k x.n) = false := by simpa using h2
          rw [h2', Bool.and_false, if_neg (by simp)]
          exact goodW_bad2 R ar r (by omega) ins (by omega) x w hg hR hw hx hbl hnb hk1 hk2 hlen h2'
      · have h1' : (decide (1 ≤ x.k) && decide (x.k ≤ 9) && (x.l.length == partsOf x.k)) = false := by simpa using h1
        rw [h1', Bool.false_and, if_neg (by simp)]
        exact goodW_bad1 R ar r (by omega) _ x w hg hR hw h1'

/-- Is it good within so many functions? -/
def goodM (ar : Int) (x : Tm) : Bool := (goodS ar 40 0 x 40).isSome

set_option maxHeartbeats 400000 in
/-- term.Good. -/
theorem goodTm_any (x : TT) (ar : Int) (w : World) (hg : Gp w) (hx : x.In w) (hnb : x.nb) :
    Calls Tryz.prog 9 #[.agg #[.int .i64 x.k, .int .i64 x.n, .int .i64 x.t.k, .slice x.t.a x.t.l.length x.t.c, .int .i64 x.f.k, .slice x.f.a x.f.l.length x.f.c, .slice x.a x.l.length x.c], .int .i64 ar] w fun e w' => e = .returned (.bool (goodM ar x.tm)) ∧ Below w.heap.size w w' := by
  have hgs := hg.size
  have hb0 : ∀ o, Below w.heap.size w (w.alloc o) := fun o => (Below.refl _ _).alloc (Nat.le_refl _) _
  have hb1 : ∀ o o', Below w.heap.size w ((w.alloc o).alloc o') := fun o o' => (hb0 o).alloc (by simp) _
  have HC : Hid (∀ W, Below w.heap.size w W → WS (w.heap.size + 1) ar 40 W → Calls Tryz.prog 24 #[.pointer (some ⟨w.heap.size + 1, 0, none⟩), .agg #[.int .i64 x.k, .int .i64 x.n, .int .i64 x.t.k, .slice x.t.a x.t.l.length x.t.c, .int .i64 x.f.k, .slice x.f.a x.f.l.length x.f.c, .slice x.a x.l.length x.c], .int .i64 0] W (GoodPost (w.heap.size + 1) ar (goodS ar 40 0 x.tm 40) W)) := by
    intro W hW hws
    exact goodW_any (w.heap.size + 1) ar (by omega) 40 (by omega) 0 x 40 W (Nat.le_refl _) (by omega) (hg.below hW) hws (hx.below hW) (hx.bl.mono fun b h => by omega) hnb
  have HB : Hid (∀ o o', Below w.heap.size w ((w.alloc o).alloc o')) := hb1
  clear hb0 hb1 hg hx hnb
  go_enter Tryz.func9, Tryz.ntmps9
  go_wp2_with fail
  refine (HC.out _ (HB.out _ _) ⟨by simp [go_sem], by simp [go_sem], by simp [go_sem]⟩).mono ?_
  rintro e w1 ⟨r, rfl, _, _, hk⟩
  have HF : Hid (Below w.heap.size w w1) := by
    have hs : ((w.alloc (.cells #[.int .i64 x.k, .int .i64 x.n, .int .i64 x.t.k, .slice x.t.a x.t.l.length x.t.c, .int .i64 x.f.k, .slice x.f.a x.f.l.length x.f.c, .slice x.a x.l.length x.c] 27)).alloc (.cells #[.int .i64 ar, .int .i64 40] 49)).heap.size = w.heap.size + 2 := by simp
    have := hk.size
    rw [hs] at this
    refine (HB.out (.cells #[.int .i64 x.k, .int .i64 x.n, .int .i64 x.t.k, .slice x.t.a x.t.l.length x.t.c, .int .i64 x.f.k, .slice x.f.a x.f.l.length x.f.c, .slice x.a x.l.length x.c] 27) (.cells #[.int .i64 ar, .int .i64 40] 49)).trans ?_
    exact ⟨hk.os, hk.tape, hk.output, hk.size, fun k h => hk.block k (by rw [hs]; omega) (by omega) (by simp)⟩
  clear hk
  go_wp2_with fail
  go_ret
  exact ⟨rfl, HF.out⟩
end Go.Proofs.YtnddkmccagiclaaGreatDoor
