/-
  What the call of (*walk).good answers, at whatever term lies in memory.
-/
import Derived.Test.YtnddkmccagiclaaGreatDoorLot694cd256ef
import Derived.Test.YtnddkmccagiclaaGreatDoorLot8f935494a2
import Derived.Deep.AppendLies
import Derived.Deep.RegionLaw
import Derived.Test.YtnddkmccagiclaaGreatDoorLot8a8b3f08ee
namespace Go.Proofs.YtnddkmccagiclaaGreatDoor
open Go.RowKit

theorem wTop_kept (R r : Nat) (x : TT) (w : World) (nq : Nat) : Kept R none w ((wTop R r x w).drewN nq) :=
  setR_kept.trans (Kept.of_below (below_dN ((Below.refl _ _).alloc (Nat.le_refl _) _) _))

theorem wTop_ws {R r : Nat} {ar : Int} {room : Nat} {x : TT} {w : World} {nq : Nat} (h : WS R ar room w) : WS R ar r ((wTop R r x w).drewN nq) :=
  (WS.set h).below (below_dN ((Below.refl _ _).alloc (Nat.le_refl _) _) _)

/-- The box's cells. -/
theorem wTop_cells (R r : Nat) (x : TT) (w : World) (nq : Nat) : At7 ((wTop R r x w).drewN nq) w.heap.size 0 x := by
  have hs : (w.setCell ⟨R, 1, none⟩ (.int .i64 (r : Int))).heap.size = w.heap.size := by simp [World.setCell]
  rw [← hs]
  constructor <;> simp [wTop, go_sem]

set_option maxHeartbeats 2000000 in
theorem goodW_bad2 (R : Nat) (ar : Int) (r : Nat) (hr1 : r ≤ 1000) (ins : Nat) (hi : ins ≤ 1000) (x : TT) (w : World) (hg : Gp w) (hR : 3 ≤ R) (hw : WS R ar (r + 1) w)
    (hx : x.In w) (hbl : x.Bl (· ≠ R)) (hnb : x.nb) (hk1 : 1 ≤ x.k) (hk2 : x.k ≤ 9) (hlen : x.l.length = partsOf x.k)
    (hok : (okTypes x.k x.t.ty x.f.ty && okNum ar (ins : Int) x.k x.n) = false) :
    Calls Tryz.prog 24 #[.pointer (some ⟨R, 0, none⟩), .agg #[.int .i64 x.k, .int .i64 x.n, .int .i64 x.t.k, .slice x.t.a x.t.l.length x.t.c, .int .i64 x.f.k, .slice x.f.a x.f.l.length x.f.c, .slice x.a x.l.length x.c], .int .i64 (ins : Int)] w (GoodPost R ar none w) := by
  have hr := hw.r
  have hz := hw.z
  have hRl := hw.lt
  have e0 : ((r + 1 : Nat) : Int) = (r : Int) + 1 := by omega
  rw [e0] at hr
  have e1 : (((r : Int) + 1) == 0) = false := by simp; omega
  have hd1 : decide (x.k < 1) = false := by simp; omega
  have hd2 : decide (9 < x.k) = false := by simp; omega
  have hp := parts_cell hg x.k hk1 hk2
  have hne : ((x.l.length : Int) == (partsOf x.k : Int)) = true := by rw [hlen]; simp
  have hne2 : ((x.l.length : Int) != (partsOf x.k : Int)) = false := by rw [bne, hne]; rfl
  have i0 : (0 : Int) ≤ x.k := by omega
  have i1 : x.k < 10 := by omega
  have n2 : (2 : Nat) ≠ R := by omega
  have h2l : 2 < w.heap.size := by have := hg.size; omega
  have HX : Hid (∀ nq, x.In ((wTop R r x w).drewN nq)) := fun nq => hx.keptR (wTop_kept R r x w nq) hbl
  have HW : Hid (∀ nq, WS R ar r ((wTop R r x w).drewN nq)) := fun nq => wTop_ws hw
  have HB : Hid (∀ nq, At7 ((wTop R r x w).drewN nq) w.heap.size 0 x) := fun nq => wTop_cells R r x w nq
  have HNB : Hid (x.n ≤ 9223372036854775807) := hnb.n
  have HOK : Hid ((okTypes x.k x.t.ty x.f.ty && okNum ar (ins : Int) x.k x.n) = false) := hok
  obtain ⟨bt, hbt⟩ : ∃ b, okTypes x.k x.t.ty x.f.ty = b := ⟨_, rfl⟩
  have HT : Hid (∀ W, x.In W → Calls Tryz.prog 43 #[.agg #[.int .i64 x.k, .int .i64 x.n, .int .i64 x.t.k, .slice x.t.a x.t.l.length x.t.c, .int .i64 x.f.k, .slice x.f.a x.f.l.length x.f.c, .slice x.a x.l.length x.c]] W fun e w' => e = .returned (.bool bt) ∧ Below W.heap.size W w') := by
    intro W h
    have := goodTypes_any x W h.t h.f
    rw [hbt] at this
    exact this
  have HBT : Hid (okTypes x.k x.t.ty x.f.ty = bt) := hbt
  clear hok hlen hk1 hk2 hg hbt hbl hx hw hnb
  cases bt
  · go_enter Tryz.func24, Tryz.ntmps24
    go_wp2_with fail
    go_quiet (fail)
    go_wp2_with fail
    refine (HT.out _ (HX.out nq)).mono ?_
    rintro e w1 ⟨rfl, hb1⟩
    have HE : Hid (GoodPost R ar none w (.returned (.bool false)) w1) := ⟨r, rfl, (HW.out nq).below hb1, (fun q h => by cases h), (wTop_kept R r x w nq).trans (Kept.of_below hb1)⟩
    clear hb1
    go_wp2_with fail
    go_ret
    exact HE.out
  · have hbn : Hid (okNum ar (ins : Int) x.k x.n = false) := by have := HOK.out; rw [HBT.out] at this; simpa [Hid] using this
    go_enter Tryz.func24, Tryz.ntmps24
    go_wp2_with fail
    go_quiet (fail)
    go_wp2_with fail
    refine (HT.out _ (HX.out nq)).mono ?_
    rintro e w1 ⟨rfl, hb1⟩
    have HN : Hid (Calls Tryz.prog 44 #[.pointer (some ⟨R, 0, none⟩), .agg #[.int .i64 x.k, .int .i64 x.n, .int .i64 x.t.k, .slice x.t.a x.t.l.length x.t.c, .int .i64 x.f.k, .slice x.f.a x.f.l.length x.f.c, .slice x.a x.l.length x.c], .int .i64 (ins : Int)] w1 fun e w' => e = .returned (.bool false) ∧ Below w1.heap.size w1 w') := by
      have := goodNumber_any R ar ins hi x HNB.out w1 ((HW.out nq).below hb1).a
      rw [hbn.out] at this
      exact this
    have HE : Hid (WS R ar r w1 ∧ Kept R none w w1) := ⟨(HW.out nq).below hb1, (wTop_kept R r x w nq).trans (Kept.of_below hb1)⟩
    have h7 := (HB.out nq).below hb1
    have c0 := h7.c0
    have c1 := h7.c1
    have c2 := h7.c2
    have c3 := h7.c3
    have c4 := h7.c4
    have c5 := h7.c5
    have c6 := h7.c6
    simp only [Nat.zero_add] at c0 c1 c2 c3 c4 c5 c6
    clear hb1 h7
    go_wp2_with fail
    refine HN.out.mono ?_
    rintro e w2 ⟨rfl, hb2⟩
    have HE2 : Hid (GoodPost R ar none w (.returned (.bool false)) w2) := ⟨r, rfl, HE.out.1.below hb2, (fun q h => by cases h), HE.out.2.trans (Kept.of_below hb2)⟩
    clear hb2 c0 c1 c2 c3 c4 c5 c6
    go_wp2_with fail
    go_ret
    exact HE2.out

set_option maxHeartbeats 4000000 in
theorem goodW_top (R : Nat) (ar : Int) (n r : Nat) (hr1 : r ≤ 1000) (ins : Nat) (hi : ins ≤ 1000) (x : TT) (w : World) (hg : Gp w) (hR : 3 ≤ R) (hw : WS R ar (r + 1) w) (hl : x.l.length ≤ 140737488355328)
    (hx : x.In w) (hbl : x.Bl (· ≠ R)) (hnb : x.nb) (hk1 : 1 ≤ x.k) (hk2 : x.k ≤ 9) (hlen : x.l.length = partsOf x.k)
    (hok1 : okTypes x.k x.t.ty x.f.ty = true) (hok2 : okNum ar (ins : Int) x.k x.n = true)
    (b7 : Bool) (h7 : (x.k == 7) = b7) (ins' : Nat) (hins : (ins' : Int) = if b7 = true then (ins : Int) + 1 else (ins : Int))
    (HC : Hid (∀ (j : Nat) (hj : j < x.l.length) (q : Nat) (W : World), q ≤ r → Gp W → WS R ar q W → x.l[j].In W → Calls Tryz.prog 24 #[.pointer (some ⟨R, 0, none⟩), .agg #[.int .i64 x.l[j].k, .int .i64 x.l[j].n, .int .i64 x.l[j].t.k, .slice x.l[j].t.a x.l[j].t.l.length x.l[j].t.c, .int .i64 x.l[j].f.k, .slice x.l[j].f.a x.l[j].f.l.length x.l[j].f.c, .slice x.l[j].a x.l[j].l.length x.l[j].c], .int .i64 (ins' : Int)] W (GoodPost R ar (goodS ar n (insOf x.k (ins : Int)) x.l[j].tm q) W)))
    (HM : Hid (∀ (y : TT) (q q' : Nat), y ∈ x.l → goodS ar n (insOf x.k (ins : Int)) y.tm q = some q' → q' ≤ q)) :
    Calls Tryz.prog 24 #[.pointer (some ⟨R, 0, none⟩), .agg #[.int .i64 x.k, .int .i64 x.n, .int .i64 x.t.k, .slice x.t.a x.t.l.length x.t.c, .int .i64 x.f.k, .slice x.f.a x.f.l.length x.f.c, .slice x.a x.l.length x.c], .int .i64 (ins : Int)] w (GoodPost R ar (bindL (fun (y : TT) r' => goodS ar n (insOf x.k (ins : Int)) y.tm r') x.l r) w) := by
  have hr := hw.r
  have hz := hw.z
  have hRl := hw.lt
  have e0 : ((r + 1 : Nat) : Int) = (r : Int) + 1 := by omega
  rw [e0] at hr
  have e1 : (((r : Int) + 1) == 0) = false := by simp; omega
  have hd1 : decide (x.k < 1) = false := by simp; omega
  have hd2 : decide (9 < x.k) = false := by simp; omega
  have hp := parts_cell hg x.k hk1 hk2
  have hne : ((x.l.length : Int) == (partsOf x.k : Int)) = true := by rw [hlen]; simp
  have hne2 : ((x.l.length : Int) != (partsOf x.k : Int)) = false := by rw [bne, hne]; rfl
  have i0 : (0 : Int) ≤ x.k := by omega
  have i1 : x.k < 10 := by omega
  have n2 : (2 : Nat) ≠ R := by omega
  have h2l : 2 < w.heap.size := by have := hg.size; omega
  have HX : Hid (∀ nq, x.In ((wTop R r x w).drewN nq)) := fun nq => hx.keptR (wTop_kept R r x w nq) hbl
  have HW : Hid (∀ nq, WS R ar r ((wTop R r x w).drewN nq)) := fun nq => wTop_ws hw
  have HB : Hid (∀ nq, At7 ((wTop R r x w).drewN nq) w.heap.size 0 x) := fun nq => wTop_cells R r x w nq
  have HNB : Hid (x.n ≤ 9223372036854775807) := hnb.n
  have HT : Hid (∀ W, x.In W → Calls Tryz.prog 43 #[.agg #[.int .i64 x.k, .int .i64 x.n, .int .i64 x.t.k, .slice x.t.a x.t.l.length x.t.c, .int .i64 x.f.k, .slice x.f.a x.f.l.length x.f.c, .slice x.a x.l.length x.c]] W fun e w' => e = .returned (.bool true) ∧ Below W.heap.size W w') := by
    intro W h
    have := goodTypes_any x W h.t h.f
    rw [hok1] at this
    exact this
  have HOK : Hid (okNum ar (ins : Int) x.k x.n = true) := hok2
  have HG : Hid (Gp w) := hg
  have HBL : Hid (x.Bl (· ≠ R)) := hbl
  have HINS : Hid ((ins' : Int) = if b7 = true then (ins : Int) + 1 else (ins : Int)) := hins
  have hi1 : (ins : Int) + 1 ≤ 1001 := by omega
  clear hok1 hok2 hlen hk1 hk2 hg hbl hx hw hnb hins
  cases b7
  all_goals
    go_enter Tryz.func24, Tryz.ntmps24
    go_wp2_with fail
    go_quiet (fail)
    go_wp2_with fail
    refine (HT.out _ (HX.out nq)).mono ?_
    rintro e w1 ⟨rfl, hb1⟩
    have HN : Hid (Calls Tryz.prog 44 #[.pointer (some ⟨R, 0, none⟩), .agg #[.int .i64 x.k, .int .i64 x.n, .int .i64 x.t.k, .slice x.t.a x.t.l.length x.t.c, .int .i64 x.f.k, .slice x.f.a x.f.l.length x.f.c, .slice x.a x.l.length x.c], .int .i64 (ins : Int)] w1 fun e w' => e = .returned (.bool true) ∧ Below w1.heap.size w1 w') := by
      have := goodNumber_any R ar ins hi x HNB.out w1 ((HW.out nq).below hb1).a
      rw [HOK.out] at this
      exact this
    have HE : Hid (WS R ar r w1 ∧ Kept R none w w1 ∧ x.In w1 ∧ At7 w1 w.heap.size 0 x) := ⟨(HW.out nq).below hb1, (wTop_kept R r x w nq).trans (Kept.of_below hb1), (HX.out nq).below hb1, (HB.out nq).below hb1⟩
    obtain ⟨_, _, _, c0, c1, c2, c3, c4, c5, c6⟩ := HE.out
    simp only [Nat.zero_add] at c0 c1 c2 c3 c4 c5 c6
    clear hb1
    go_wp2_with fail
    refine HN.out.mono ?_
    rintro e w2 ⟨rfl, hb2⟩
    have HE2 : Hid (WS R ar r w2 ∧ Kept R none w w2 ∧ x.In w2 ∧ Gp w2) := ⟨HE.out.1.below hb2, HE.out.2.1.trans (Kept.of_below hb2), HE.out.2.2.1.below hb2, (HG.out.kept hR HE.out.2.1).below hb2⟩
    replace c0 := cell_later hb2 c0
    replace c6 := cell_later hb2 c6
    clear hb2 c1 c2 c3 c4 c5 HE HN HX HW HB
    go_wp2_with fail
    go_loopg [57] x.l.length (fun g i wr => ∃ (j q : Nat), g + j = x.l.length ∧ i = .int .i64 (j : Int) ∧ Hid (q ≤ r ∧ bindL (fun (y : TT) r' => goodS ar n (insOf x.k (ins : Int)) y.tm r') x.l r = bindL (fun (y : TT) r' => goodS ar n (insOf x.k (ins : Int)) y.tm r') (x.l.drop j) q ∧ WS R ar q wr ∧ Kept R none w2 wr))
    case atStart => exact ⟨0, r, by omega, rfl, Nat.le_refl _, rfl, HE2.out.1, Kept.of_below (Below.refl _ _)⟩
    case round =>
      obtain ⟨j, q, hj, rfl, HQ⟩ := hrel
      by_cases hlt : j < x.l.length
      · obtain ⟨b, o, ea, h7', hxj⟩ := HE2.out.2.2.1.part j hlt
        have hbR : b ≠ R := HBL.out.own (by intro e; rw [e] at hlt; simp at hlt) _ ea
        have h8 := h7'.keptR HQ.out.2.2.2 hbR
        have d0 := h8.c0
        have d1 := h8.c1
        have d2 := h8.c2
        have d3 := h8.c3
        have d4 := h8.c4
        have d5 := h8.c5
        have d6 := h8.c6
        have hxr := hxj.keptR HQ.out.2.2.2 (HBL.out.mem (List.getElem_mem hlt))
        have HXR : Hid (x.l[j].In wr) := hxr
        have hR2 : wr.heap.size ≠ R := by have := HQ.out.2.2.1.lt; omega
        have i2 : (j : Int) < (x.l.length : Int) := by omega
        have i3 : (0 : Int) ≤ (j : Int) := by omega
        have HEA : Hid (x.a = some ⟨b, o, none⟩) := ea
        rw [ea]
        have hbp : ∀ o, Below wr.heap.size wr (wr.alloc o) := fun o => (Below.refl _ _).alloc (Nat.le_refl _) _
        have HP : Hid (∀ o, Calls Tryz.prog 24 #[.pointer (some ⟨R, 0, none⟩), .agg #[.int .i64 x.l[j].k, .int .i64 x.l[j].n, .int .i64 x.l[j].t.k, .slice x.l[j].t.a x.l[j].t.l.length x.l[j].t.c, .int .i64 x.l[j].f.k, .slice x.l[j].f.a x.l[j].f.l.length x.l[j].f.c, .slice x.l[j].a x.l[j].l.length x.l[j].c], .int .i64 (ins' : Int)] (wr.alloc o) (GoodPost R ar (goodS ar n (insOf x.k (ins : Int)) x.l[j].tm q) (wr.alloc o))) := fun o => HC.out j hlt q _ HQ.out.1 ((HE2.out.2.2.2.kept hR HQ.out.2.2.2).below (hbp o)) (HQ.out.2.2.1.below (hbp o)) (HXR.out.below (hbp o))
        rw [HINS.out] at HP
        clear h7' hxj h8 hxr ea hbp
        simp only [Bool.false_eq_true, if_false, if_true] at HP
        go_wp2_with fail
        refine (HP.out _).mono ?_
        rintro e w3 ⟨r3, rfl, hw3, hs3, hk3⟩
        have hk4 : Kept R none w2 w3 := (HQ.out.2.2.2.trans (Kept.of_below ((Below.refl _ _).alloc (Nat.le_refl _) _))).trans hk3
        have HS : Hid (x.l.drop j = x.l[j] :: x.l.drop (j + 1)) := List.drop_eq_getElem_cons hlt
        cases ho : goodS ar n (insOf x.k (ins : Int)) x.l[j].tm q with
        | none =>
          have HF : Hid (GoodPost R ar (bindL (fun (y : TT) r' => goodS ar n (insOf x.k (ins : Int)) y.tm r') x.l r) w (.returned (.bool false)) w3) := by
            have e : bindL (fun (y : TT) r' => goodS ar n (insOf x.k (ins : Int)) y.tm r') x.l r = none := by rw [HQ.out.2.1, HS.out, bindL, ho]; rfl
            rw [e]
            exact ⟨r3, rfl, hw3, (fun q h => by cases h), HE2.out.2.1.trans hk4⟩
          clear hw3 hs3 hk3 hk4 ho HQ HP HXR d0 d1 d2 d3 d4 d5 d6
          simp only [Option.isSome_none]
          go_wp2_with fail
          go_ret
          exact HF.out
        | some q' =>
          have HF : Hid (q' ≤ r ∧ bindL (fun (y : TT) r' => goodS ar n (insOf x.k (ins : Int)) y.tm r') x.l r = bindL (fun (y : TT) r' => goodS ar n (insOf x.k (ins : Int)) y.tm r') (x.l.drop (j + 1)) q' ∧ WS R ar q' w3 ∧ Kept R none w2 w3) := by
            have e := hs3 q' ho
            subst e
            refine ⟨Nat.le_trans (HM.out _ q q' (List.getElem_mem hlt) ho) HQ.out.1, ?_, hw3, hk4⟩
            rw [HQ.out.2.1, HS.out, bindL, ho]
            rfl
          clear hw3 hs3 hk3 hk4 ho HQ HP HXR d0 d1 d2 d3 d4 d5 d6
          simp only [Option.isSome_some]
          go_wp2_with fail
          rw [← HEA.out]
          go_roundg (x.l.length - (j + 1))
          case measure => omega
          case rel => exact ⟨j + 1, q', by omega, by go_num, HF⟩
      · have HF : Hid (GoodPost R ar (bindL (fun (y : TT) r' => goodS ar n (insOf x.k (ins : Int)) y.tm r') x.l r) w (.returned (.bool true)) wr) := by
          have e : bindL (fun (y : TT) r' => goodS ar n (insOf x.k (ins : Int)) y.tm r') x.l r = some q := by rw [HQ.out.2.1, List.drop_eq_nil_of_le (by omega), bindL]
          rw [e]
          exact ⟨q, rfl, HQ.out.2.2.1, (fun q h => by cases h; rfl), HE2.out.2.1.trans HQ.out.2.2.2⟩
        clear HQ
        go_wp2_with fail
        go_ret
        exact HF.out
end Go.Proofs.YtnddkmccagiclaaGreatDoor

/-
  What the calls of (*walk).good and term.Good answer, at whatever term lies in memory.
-/
namespace Go.Proofs.YtnddkmccagiclaaGreatDoor
open Go.RowKit

theorem bindL_map {α β : Type} (g : α → β) (f : β → Nat → Option Nat) : ∀ (l : List α) (r : Nat), bindL f (l.map g) r = bindL (fun y r' => f (g y) r') l r
  | [], r => rfl
  | x :: l, r => by
    simp only [List.map_cons, bindL]
    cases f (g x) r with
    | none => rfl
    | some q => exact bindL_map g f l q

theorem bindL_le {α : Type} (f : α → Nat → Option Nat) (hf : ∀ y q q', f y q = some q' → q' ≤ q) : ∀ (l : List α) (r r' : Nat), bindL f l r = some r' → r' ≤ r
  | [], r, r', h => by simp [bindL] at h; omega
  | x :: l, r, r', h => by
    simp only [bindL] at h
    cases hq : f x r with
    | none => rw [hq] at h; cases h
    | some q =>
      rw [hq] at h
      have := hf x r q hq
      have := bindL_le f hf l q r' h
      omega

theorem goodS_le (ar : Int) : ∀ (n : Nat) (ins : Int) (x : Tm) (r r' : Nat), goodS ar n ins x r = some r' → r' ≤ r
  | 0, _, _, _, _, h => by simp [goodS] at h
  | n + 1, ins, x, 0, _, h => by simp [goodS] at h
  | n + 1, ins, x, r + 1, r', h => by
    simp only [goodS] at h
    split at h
    · have := bindL_le _ (fun y q q' h => goodS_le ar n (insOf x.k ins) y q q' h) x.l r r' h
      omega
    · cases h

theorem parts_le (k : Int) : partsOf k ≤ 3 := by
  unfold partsOf
  repeat' split
  all_goals omega

theorem goodW_any (R : Nat) (ar : Int) (hR : 3 ≤ R) (n : Nat) : n ≤ 500 → ∀ (ins : Nat) (x : TT) (r : Nat) (w : World), r ≤ n → ins + n ≤ 1000 → Gp w → WS R ar r w → x.In w → x.Bl (· ≠ R) → x.nb →
    Calls Tryz.prog 24 #[.pointer (some ⟨R, 0, none⟩), .agg #[.int .i64 x.k, .int .i64 x.n, .int .i64 x.t.k, .slice x.t.a x.t.l.length x.t.c, .int .i64 x.f.k, .slice x.f.a x.f.l.length x.f.c, .slice x.a x.l.length x.c], .int .i64 (ins : Int)] w (GoodPost R ar (goodS ar n (ins : Int) x.tm r) w) := by
  induction n with
  | zero =>
    intro _ ins x r w hr _ _ hw _ _ _
    obtain rfl : r = 0 := by omega
    exact goodW_none R ar _ x w hw
  | succ n ih =>
    intro hn ins x r w hr hi hg hw hx hbl hnb
    cases r with
    | zero => exact goodW_none R ar _ x w hw
    | succ r =>
      have e : goodS ar (n + 1) (ins : Int) x.tm (r + 1) = if okTop ar (ins : Int) x.tm = true then bindL (fun (y : TT) r' => goodS ar n (insOf x.k (ins : Int)) y.tm r') x.l r else none := by
        rw [goodS, TT.tm_l, TT.tm_k, bindL_map]
      rw [e]
      have ho : okTop ar (ins : Int) x.tm = ((decide (1 ≤ x.k) && decide (x.k ≤ 9) && (x.l.length == partsOf x.k)) && (okTypes x.k x.t.ty x.f.ty && okNum ar (ins : Int) x.k x.n)) := by
        rw [okTop, TT.tm_l, TT.tm_k, TT.tm_n, TT.tm_t, TT.tm_f, List.length_map]
      rw [ho]
      by_cases h1 : (decide (1 ≤ x.k) && decide (x.k ≤ 9) && (x.l.length == partsOf x.k)) = true
      · have h1' := h1
        simp only [Bool.and_eq_true, decide_eq_true_eq, beq_iff_eq] at h1'
        obtain ⟨⟨hk1, hk2⟩, hlen⟩ := h1'
        have hp := parts_le x.k
        by_cases h2 : (okTypes x.k x.t.ty x.f.ty && okNum ar (ins : Int) x.k x.n) = true
        · rw [h1, h2, Bool.and_self, if_pos rfl]
          simp only [Bool.and_eq_true] at h2
          by_cases h7 : x.k = 7
          · refine goodW_top R ar n r (by omega) ins (by omega) x w hg hR hw (by omega) hx hbl hnb hk1 hk2 hlen h2.1 h2.2 true (by simp [h7]) (ins + 1) (by simp) ?_ ?_
            · intro j hj q W hq hgW hwW hxW
              have := ih (by omega) (ins + 1) x.l[j] q W (by omega) (by omega) hgW hwW hxW (hbl.mem (List.getElem_mem hj)) (hnb.mem (List.getElem_mem hj))
              have e : insOf x.k (ins : Int) = ((ins + 1 : Nat) : Int) := by rw [insOf, if_pos h7]; omega
              rw [e]
              exact this
            · intro y q q' _ h
              exact goodS_le _ _ _ _ _ _ h
          · refine goodW_top R ar n r (by omega) ins (by omega) x w hg hR hw (by omega) hx hbl hnb hk1 hk2 hlen h2.1 h2.2 false (by simp [h7]) ins (by simp) ?_ ?_
            · intro j hj q W hq hgW hwW hxW
              have := ih (by omega) ins x.l[j] q W (by omega) (by omega) hgW hwW hxW (hbl.mem (List.getElem_mem hj)) (hnb.mem (List.getElem_mem hj))
              have e : insOf x.k (ins : Int) = (ins : Int) := by rw [insOf, if_neg h7]
              rw [e]
              exact this
            · intro y q q' _ h
              exact goodS_le _ _ _ _ _ _ h
        · have h2' : (okTypes x.k x.t.ty x.f.ty && okNum ar (ins : Int) x.k x.n) = false := by simpa using h2
          rw [h2', Bool.and_false, if_neg (by simp)]
          exact goodW_bad2 R ar r (by omega) ins (by omega) x w hg hR hw hx hbl hnb hk1 hk2 hlen h2'
      · have h1' : (decide (1 ≤ x.k) && decide (x.k ≤ 9) && (x.l.length == partsOf x.k)) = false := by simpa using h1
        rw [h1', Bool.false_and, if_neg (by simp)]
        exact goodW_bad1 R ar r (by omega) _ x w hg hR hw h1'

/-- Is it good within so many functions? -/
def goodM (ar : Int) (x : Tm) : Bool := (goodS ar 40 0 x 40).isSome

set_option maxHeartbeats 400000 in
/-- term.Good. -/
theorem goodTm_any (x : TT) (ar : Int) (w : World) (hg : Gp w) (hx : x.In w) (hnb : x.nb) :
    Calls Tryz.prog 9 #[.agg #[.int .i64 x.k, .int .i64 x.n, .int .i64 x.t.k, .slice x.t.a x.t.l.length x.t.c, .int .i64 x.f.k, .slice x.f.a x.f.l.length x.f.c, .slice x.a x.l.length x.c], .int .i64 ar] w fun e w' => e = .returned (.bool (goodM ar x.tm)) ∧ Below w.heap.size w w' := by
  have hgs := hg.size
  have hb0 : ∀ o, Below w.heap.size w (w.alloc o) := fun o => (Below.refl _ _).alloc (Nat.le_refl _) _
  have hb1 : ∀ o o', Below w.heap.size w ((w.alloc o).alloc o') := fun o o' => (hb0 o).alloc (by simp) _
  have HC : Hid (∀ W, Below w.heap.size w W → WS (w.heap.size + 1) ar 40 W → Calls Tryz.prog 24 #[.pointer (some ⟨w.heap.size + 1, 0, none⟩), .agg #[.int .i64 x.k, .int .i64 x.n, .int .i64 x.t.k, .slice x.t.a x.t.l.length x.t.c, .int .i64 x.f.k, .slice x.f.a x.f.l.length x.f.c, .slice x.a x.l.length x.c], .int .i64 0] W (GoodPost (w.heap.size + 1) ar (goodS ar 40 0 x.tm 40) W)) := by
    intro W hW hws
    exact goodW_any (w.heap.size + 1) ar (by omega) 40 (by omega) 0 x 40 W (Nat.le_refl _) (by omega) (hg.below hW) hws (hx.below hW) (hx.bl.mono fun b h => by omega) hnb
  have HB : Hid (∀ o o', Below w.heap.size w ((w.alloc o).alloc o')) := hb1
  clear hb0 hb1 hg hx hnb
  go_enter Tryz.func9, Tryz.ntmps9
  go_wp2_with fail
  refine (HC.out _ (HB.out _ _) ⟨by simp [go_sem], by simp [go_sem], by simp [go_sem]⟩).mono ?_
  rintro e w1 ⟨r, rfl, _, _, hk⟩
  have HF : Hid (Below w.heap.size w w1) := by
    have hs : ((w.alloc (.cells #[.int .i64 x.k, .int .i64 x.n, .int .i64 x.t.k, .slice x.t.a x.t.l.length x.t.c, .int .i64 x.f.k, .slice x.f.a x.f.l.length x.f.c, .slice x.a x.l.length x.c] 27)).alloc (.cells #[.int .i64 ar, .int .i64 40] 49)).heap.size = w.heap.size + 2 := by simp
    have := hk.size
    rw [hs] at this
    refine (HB.out (.cells #[.int .i64 x.k, .int .i64 x.n, .int .i64 x.t.k, .slice x.t.a x.t.l.length x.t.c, .int .i64 x.f.k, .slice x.f.a x.f.l.length x.f.c, .slice x.a x.l.length x.c] 27) (.cells #[.int .i64 ar, .int .i64 40] 49)).trans ?_
    exact ⟨hk.os, hk.tape, hk.output, hk.size, fun k h => hk.block k (by rw [hs]; omega) (by omega) (by simp)⟩
  clear hk
  go_wp2_with fail
  go_ret
  exact ⟨rfl, HF.out⟩
end Go.Proofs.YtnddkmccagiclaaGreatDoor

/-
  What the call of (*reader).number does at a word.
-/
namespace Go.Proofs.YtnddkmccagiclaaGreatDoor
open Go.RowKit

def NumPost (R : Nat) (ws : List ByteArray) (b : Bool) (d : ByteArray) (w : World) (e : Ending) (w' : World) : Prop :=
  ∃ n : Int, e = .returned (.int .i64 n) ∧ ((numOf d = some n ∧ RS R ws b w') ∨ (numOf d = none ∧ RS R [] true w')) ∧ Kept R none w w'

theorem Gl.pow {w : World} (h : Gl w) : Lib.TabIs Tryz.prog w "internal/strconv.uint64pow10" .u64 Lib.pow10Tab := by
  obtain ⟨t, fr, h⟩ := h.pw
  have hg : Tryz.prog.globalNamed "internal/strconv.uint64pow10" = some 7 := by kernel_rfl
  simp only [Lib.TabIs, World.var?, hg, Option.bind_some, h]

set_option maxRecDepth 20000 in
set_option maxHeartbeats 1000000 in
theorem number_bad (R : Nat) (ws : List ByteArray) (b : Bool) (d : ByteArray) (w : World) (h : RS R ws b w) (hn : Hid (numOf d = none))
    (HA : Hid (Calls Tryz.prog 87 #[.string d] w fun e w' => ∃ (n : Int) (N : Nat), e = .returned (.tuple #[.int .i64 n, .iface 213 (.pointer (some ⟨N, 0, none⟩))]) ∧ Below w.heap.size w w')) :
    Calls Tryz.prog 56 #[.pointer (some ⟨R, 0, none⟩), .string d] w (NumPost R ws b d w) := by
  go_enter Tryz.func56, Tryz.ntmps56
  go_wp2_with fail
  refine HA.out.mono ?_
  rintro e w1 ⟨n, N, rfl, hb⟩
  have HF : Hid (Calls Tryz.prog 82 #[.pointer (some ⟨R, 0, none⟩)] w1 fun e w' => e = .returned (.tuple #[]) ∧ RS R [] true w' ∧ Kept R none w1 w') := fail_any R ws b w1 (h.below hb)
  have HB : Hid (Kept R none w w1) := Kept.of_below hb
  clear hb HA h
  go_wp2_with fail
  refine HF.out.mono ?_
  rintro e w2 ⟨rfl, hr, hk⟩
  have HR : Hid (RS R [] true w2 ∧ Kept R none w w2) := ⟨hr, HB.out.trans hk⟩
  clear hr hk HF HB
  go_wp2_with fail
  go_ret
  exact ⟨0, rfl, .inr ⟨hn.out, HR.out.1⟩, HR.out.2⟩

set_option maxRecDepth 20000 in
set_option maxHeartbeats 1000000 in
theorem number_ok (R : Nat) (ws : List ByteArray) (b : Bool) (d : ByteArray) (v : Int) (w : World) (h : RS R ws b w)
    (HA : Hid (Calls Tryz.prog 87 #[.string d] w fun e w' => e = .returned (.tuple #[.int .i64 v, .nilIface]) ∧ Below w.heap.size w w'))
    (HI : Hid (∀ W, Below w.heap.size w W → Calls Tryz.prog 36 #[.int .i64 v] W fun e w' => e = .returned (.string ⟨(Lib.itoa v).toArray⟩) ∧ Below W.heap.size W w'))
    (HO : Hid (numOf d = if (⟨(Lib.itoa v).toArray⟩ : ByteArray) = d then some v else none)) :
    Calls Tryz.prog 56 #[.pointer (some ⟨R, 0, none⟩), .string d] w (NumPost R ws b d w) := by
  obtain ⟨s, hs⟩ : ∃ s : ByteArray, s = ⟨(Lib.itoa v).toArray⟩ := ⟨_, rfl⟩
  rw [← hs] at HI HO
  clear hs
  by_cases hd : s = d
  · have hn : Hid (numOf d = some v) := by show _ = _; rw [HO.out, if_pos hd]
    subst hd
    clear HO
    go_enter Tryz.func56, Tryz.ntmps56
    go_wp2_with fail
    refine HA.out.mono ?_
    rintro e w1 ⟨rfl, hb⟩
    have HB : Hid (Below w.heap.size w w1) := hb
    clear hb HA
    go_wp2_with fail
    refine (HI.out _ HB.out).mono ?_
    rintro e w2 ⟨rfl, hb⟩
    have HB2 : Hid (Below w.heap.size w w2) := HB.out.trans (hb.mono HB.out.size)
    have HR : Hid (RS R ws b w2) := h.below HB2.out
    clear hb HB h HI
    go_wp2_with fail
    go_ret
    exact ⟨v, rfl, .inl ⟨hn.out, HR.out⟩, Kept.of_below HB2.out⟩
  · have hn : Hid (numOf d = none) := by show _ = _; rw [HO.out, if_neg hd]
    have hb1 : (s.toList == d.toList) = false := (Lib.bytes_beq_false_iff _ _).2 hd
    have hb2 : (!s.toList == d.toList) = true := by rw [hb1]; rfl
    clear HO hd
    go_enter Tryz.func56, Tryz.ntmps56
    go_wp2_with fail
    refine HA.out.mono ?_
    rintro e w1 ⟨rfl, hb⟩
    have HB : Hid (Below w.heap.size w w1) := hb
    clear hb HA
    go_wp2_with fail
    refine (HI.out _ HB.out).mono ?_
    rintro e w2 ⟨rfl, hb⟩
    have HB2 : Hid (Below w.heap.size w w2) := HB.out.trans (hb.mono HB.out.size)
    have HF : Hid (Calls Tryz.prog 82 #[.pointer (some ⟨R, 0, none⟩)] w2 fun e w' => e = .returned (.tuple #[]) ∧ RS R [] true w' ∧ Kept R none w2 w') := fail_any R ws b w2 (h.below HB2.out)
    clear hb HB h HI
    go_wp2_with fail
    refine HF.out.mono ?_
    rintro e w3 ⟨rfl, hr, hk⟩
    have HR : Hid (RS R [] true w3 ∧ Kept R none w w3) := ⟨hr, (Kept.of_below HB2.out).trans hk⟩
    clear hr hk HF HB2
    go_wp2_with fail
    go_ret
    exact ⟨0, rfl, .inr ⟨hn.out, HR.out.1⟩, HR.out.2⟩

theorem below_grew (w : World) (k : Nat) (os : Array Obj) : Below w.heap.size w (Sort.grow (w.drewN k) os) := by
  refine ⟨rfl, rfl, rfl, ?_, fun i hi => ?_⟩
  · show w.heap.size ≤ (w.heap ++ os).size
    simp
  · show (w.heap ++ os)[i]? = w.heap[i]?
    exact Array.getElem?_append_left hi

/-- (*reader).number. -/
theorem number_any (R : Nat) (ws : List ByteArray) (b : Bool) (d : ByteArray) (hd : d.size ≤ 1000000) (w : World) (hg : Gl w) (h : RS R ws b w) :
    Calls Tryz.prog 56 #[.pointer (some ⟨R, 0, none⟩), .string d] w (NumPost R ws b d w) := by
  cases ha : Lib.atoiAll d.data.toList with
  | ok v =>
    have hv := Lib.atoiAll_bounds ha
    refine number_ok R ws b d v w h ?_ (fun W hb => ?_) (by show _ = _; simp only [numOf, ha])
    · refine (Tryz.strconv_Atoi_ok d (by omega) v ha w).mono ?_
      rintro e w' ⟨rfl, rfl | ⟨t, rfl⟩⟩
      · exact ⟨rfl, Below.refl _ _⟩
      · exact ⟨rfl, Lib.bytesWorld_below _ _ _⟩
    · refine (Tryz.strconv_Itoa v hv.1 hv.2 W (hg.below hb).pow).mono ?_
      rintro e w' ⟨rfl, k, os, rfl⟩
      exact ⟨rfl, below_grew _ _ _⟩
  | «syntax» =>
    obtain ⟨te, pe, hs⟩ := hg.es
    have hc := hs.cell 0
    refine number_bad R ws b d w h (by show _ = _; simp only [numOf, ha]) ?_
    refine (Tryz.strconv_Atoi_syntax d (by omega) ha (.iface te pe) w (by simpa using hc) (.inr ⟨te, pe, rfl⟩)).mono ?_
    rintro e w' ⟨N, rfl, _, _, hb⟩
    exact ⟨0, N, rfl, hb⟩
  | range =>
    obtain ⟨te, pe, hs⟩ := hg.er
    have hc := hs.cell 0
    refine number_bad R ws b d w h (by show _ = _; simp only [numOf, ha]) ?_
    refine (Tryz.strconv_Atoi_range d (by omega) ha (.iface te pe) w (by simpa using hc) (.inr ⟨te, pe, rfl⟩)).mono ?_
    rintro e w' ⟨N, rfl, _, _, hb⟩
    exact ⟨_, N, rfl, hb⟩
end Go.Proofs.YtnddkmccagiclaaGreatDoor

/-
  What the calls of term.typeText, term.termText and term.Print answer.
-/
namespace Go.Proofs.YtnddkmccagiclaaGreatDoor
open Go.RowKit

theorem bw_app (a b : List UInt8) : bw a ++ bw b = bw (a ++ b) := by
  apply ByteArray.ext
  show (bw a ++ bw b).data = (a ++ b).toArray
  rw [ByteArray.data_append]
  simp [bw]

theorem cat_run (a b : List UInt8) (h : a.length + b.length ≤ 1000000000) (w : World) : (Op.stringOp .add (bw a) (bw b)).run Tryz.prog w = .ok (.string (bw (a ++ b))) w := by
  rw [run_string_add_sum, bw_app]
  show a.toArray.size + b.toArray.size ≤ 9223372036854775807
  simp; omega

set_option maxRecDepth 20000 in
set_option maxHeartbeats 1000000 in
theorem typeText_leaf (k : Int) (hk : k = 0 ∨ k = 1 ∨ k = 2) (a : Option Addr) (c m : Nat) (w : World) (hg : Gl w) :
    Calls Tryz.prog 38 #[.agg #[.int .i64 k, .slice a m c]] w fun e w' => e = .returned (.string (bw (typeW k))) ∧ Below w.heap.size w w' := by
  have c0 := hg.ty.cell 0
  have c1 := hg.ty.cell 1
  have c2 := hg.ty.cell 2
  simp only [List.getElem?_toArray, List.getElem?_cons_zero, List.getElem?_cons_succ] at c0 c1 c2
  have hgs := hg.size
  have h3 : 3 < w.heap.size := by omega
  clear hg
  rcases hk with rfl | rfl | rfl
  all_goals
    go_enter Tryz.func38, Tryz.ntmps38
    go_wp2_with fail
    go_ret
    exact ⟨rfl, (Below.refl _ _).alloc (Nat.le_refl _) _⟩

set_option maxRecDepth 20000 in
set_option maxHeartbeats 2000000 in
theorem typeText_fun (b o c : Nat) (x y : Tr) (tf : Tr → List UInt8) (hlx : (tf x).length ≤ 1000000) (hly : (tf y).length ≤ 1000000) (w : World)
    (x0 : w.cell? ⟨b, o, none⟩ = some (.int .i64 x.k)) (x1 : w.cell? ⟨b, o + 1, none⟩ = some (.slice x.a x.l.length x.c))
    (y0 : w.cell? ⟨b, o + 2, none⟩ = some (.int .i64 y.k)) (y1 : w.cell? ⟨b, o + 3, none⟩ = some (.slice y.a y.l.length y.c))
    (G : Hid (∀ (q : Tr) W, (q = x ∨ q = y) → Below w.heap.size w W → Calls Tryz.prog 38 #[.agg #[.int .i64 q.k, .slice q.a q.l.length q.c]] W fun e w' => e = .returned (.string (bw (tf q))) ∧ Below W.heap.size W w')) :
    Calls Tryz.prog 38 #[.agg #[.int .i64 3, .slice (some ⟨b, o, none⟩) 2 c]] w fun e w' => e = .returned (.string (bw ([40, 116, 111, 32] ++ tf x ++ [32] ++ tf y ++ [41]))) ∧ Below w.heap.size w w' := by
  have lb : b < w.heap.size := World.block_lt_of_cell? _ _ x0
  have hb0 : Below w.heap.size w (w.alloc (.cells #[.int .i64 3, .slice (some ⟨b, o, none⟩) 2 c] 24)).drew := ((Below.refl _ _).alloc (Nat.le_refl _) _).drew
  have hb1 : Below w.heap.size w (w.alloc (.cells #[.int .i64 3, .slice (some ⟨b, o, none⟩) 2 c] 24)) := ((Below.refl _ _).alloc (Nat.le_refl _) _)
  have a1 : ∀ w, (Op.stringOp .add ⟨#[40, 116, 111, 32]⟩ (bw (tf x))).run Tryz.prog w = .ok (.string (bw ([40, 116, 111, 32] ++ tf x))) w := cat_run [40, 116, 111, 32] (tf x) (by simp; omega)
  have a2 : ∀ w, (Op.stringOp .add (bw ([40, 116, 111, 32] ++ tf x)) ⟨#[32]⟩).run Tryz.prog w = .ok (.string (bw ([40, 116, 111, 32] ++ tf x ++ [32]))) w := cat_run ([40, 116, 111, 32] ++ tf x) [32] (by simp; omega)
  have a3 : ∀ w, (Op.stringOp .add (bw ([40, 116, 111, 32] ++ tf x ++ [32])) (bw (tf y))).run Tryz.prog w = .ok (.string (bw ([40, 116, 111, 32] ++ tf x ++ [32] ++ tf y))) w := cat_run ([40, 116, 111, 32] ++ tf x ++ [32]) (tf y) (by simp; omega)
  have a4 : ∀ w, (Op.stringOp .add (bw ([40, 116, 111, 32] ++ tf x ++ [32] ++ tf y)) ⟨#[41]⟩).run Tryz.prog w = .ok (.string (bw ([40, 116, 111, 32] ++ tf x ++ [32] ++ tf y ++ [41]))) w := cat_run ([40, 116, 111, 32] ++ tf x ++ [32] ++ tf y) [41] (by simp; omega)
  obtain ⟨v1, hv1⟩ : ∃ v, bw ([40, 116, 111, 32] ++ tf x) = v := ⟨_, rfl⟩
  obtain ⟨v2, hv2⟩ : ∃ v, bw ([40, 116, 111, 32] ++ tf x ++ [32]) = v := ⟨_, rfl⟩
  obtain ⟨v3, hv3⟩ : ∃ v, bw ([40, 116, 111, 32] ++ tf x ++ [32] ++ tf y) = v := ⟨_, rfl⟩
  obtain ⟨v4, hv4⟩ : ∃ v, bw ([40, 116, 111, 32] ++ tf x ++ [32] ++ tf y ++ [41]) = v := ⟨_, rfl⟩
  rw [hv1] at a1 a2
  rw [hv2] at a2 a3
  rw [hv3] at a3 a4
  rw [hv4] at a4
  rw [hv4]
  clear hv1 hv2 hv3 hv4
  go_enter Tryz.func38, Tryz.ntmps38
  go_wp2_with fail
  go_region_held3 (fun w' => Below w.heap.size w w' ∧ w'.cell? ⟨w.heap.size, 1, none⟩ = some (.slice (some ⟨b, o, none⟩) 2 c) ∧ w'.cell? ⟨b, o, none⟩ = some (.int .i64 x.k) ∧ w'.cell? ⟨b, o + 1, none⟩ = some (.slice x.a x.l.length x.c) ∧ w'.cell? ⟨b, o + 2, none⟩ = some (.int .i64 y.k) ∧ w'.cell? ⟨b, o + 3, none⟩ = some (.slice y.a y.l.length y.c))
    (first
      | exact ⟨hb0, by simp [go_sem], cell_later hb0 x0, cell_later hb0 x1, cell_later hb0 y0, cell_later hb0 y1⟩
      | (go_split_ands; exact ⟨Below.trans (by assumption) ((h53).mono (Below.size (by assumption))), cell_later h53 (by assumption), cell_later h53 (by assumption), cell_later h53 (by assumption), cell_later h53 (by assumption), cell_later h53 (by assumption)⟩)
      | go_keep)
    (first
      | (go_at_call 38; go_split_ands; refine (G.out _ _ ?_ (by assumption)).mono ?_; (first | exact .inl rfl | exact .inr rfl); rintro e w53 ⟨rfl, h53⟩))
  go_split_ands
  have hbe : Below w.heap.size w w53 := by assumption
  go_wp2_with fail
  go_ret
  exact ⟨rfl, hbe⟩
end Go.Proofs.YtnddkmccagiclaaGreatDoor

/-
  A box of a term's seven cells; a row of terms that a call makes longer; no program's run in it.
-/
namespace Go.Proofs.YtnddkmccagiclaaGreatDoor
open Go.RowKit

theorem Kept.fz {R : Nat} {w w' : World} (h : Kept R none w w') {b i : Nat} (hf : w.frozen? ⟨b, i, none⟩ = false) (hl : b < w.heap.size) (hb : b ≠ R) : w'.frozen? ⟨b, i, none⟩ = false :=
  (World.frozen?_of_block (a := ⟨b, i, none⟩) (h.block b hl hb (by simp))).trans hf

theorem Kept.refl {R : Nat} {w : World} : Kept R none w w := ⟨rfl, rfl, rfl, Nat.le_refl _, fun _ _ _ _ => rfl⟩

/-- A store into a block that is new. -/
theorem Kept.new {R k : Nat} {w w' w'' : World} (h : Kept R none w w') (hk : Kept k none w' w'') (hn : w.heap.size ≤ k) : Kept R none w w'' :=
  ⟨hk.os.trans h.os, hk.tape.trans h.tape, hk.output.trans h.output, Nat.le_trans h.size hk.size, fun q hq h1 h2 => (hk.block q (by have := h.size; omega) (by omega) h2).trans (h.block q hq h1 h2)⟩

theorem RS.new {R k : Nat} {ws : List ByteArray} {b : Bool} {w w' : World} (h : RS R ws b w) (hk : Kept k none w w') (hR : R < k) : RS R ws b w' := by
  have hl := h.lt
  obtain ⟨⟨a, c, hc, hn, hw⟩, h1, h2, h3, hz⟩ := h
  refine ⟨⟨a, c, hk.cell hc (by omega), hn, fun hne => ?_⟩, hk.cell h1 (by omega), hk.fz h2 hl (by omega), hk.fz h3 hl (by omega), hz⟩
  obtain ⟨A, o, ha, hA, hx⟩ := hw hne
  exact ⟨A, o, ha, hA, fun i x hi => hk.cell (hx i x hi) (by omega)⟩

/-- Seven cells that may be written. -/
structure Box7 (w : World) (J : Nat) (x : TT) : Prop where
  at7 : At7 w J 0 x
  fz : ∀ i, i < 7 → w.frozen? ⟨J, i, none⟩ = false

theorem Box7.lt {w : World} {J : Nat} {x : TT} (h : Box7 w J x) : J < w.heap.size := h.at7.lt

theorem Box7.kept {R J : Nat} {w w' : World} {x : TT} (h : Box7 w J x) (hk : Kept R none w w') (hJ : J ≠ R) : Box7 w' J x :=
  ⟨h.at7.keptR hk hJ, fun i hi => hk.fz (h.fz i hi) h.lt hJ⟩

theorem Box7.below {J : Nat} {w w' : World} {x : TT} (h : Box7 w J x) (hb : Below w.heap.size w w') : Box7 w' J x :=
  ⟨h.at7.below hb, fun i hi => (hb.frozen (p := ⟨J, i, none⟩) h.lt).trans (h.fz i hi)⟩

theorem Box7.set6 {w : World} {J : Nat} {x : TT} {a' : Option Addr} {c' : Nat} {l' : List TT} (h : Box7 w J x) : Box7 (w.setCell ⟨J, 6, none⟩ (.slice a' l'.length c')) J { x with a := a', c := c', l := l' } := by
  have h7 := h.at7
  refine ⟨⟨?_, ?_, ?_, ?_, ?_, ?_, ?_⟩, fun i hi => by rw [World.frozen?_setCell]; exact h.fz i hi⟩
  · rw [World.cell?_setCell_other _ _ _ _ (by simp)]; exact h7.c0
  · rw [World.cell?_setCell_other _ _ _ _ (by simp)]; exact h7.c1
  · rw [World.cell?_setCell_other _ _ _ _ (by simp)]; exact h7.c2
  · rw [World.cell?_setCell_other _ _ _ _ (by simp)]; exact h7.c3
  · rw [World.cell?_setCell_other _ _ _ _ (by simp)]; exact h7.c4
  · rw [World.cell?_setCell_other _ _ _ _ (by simp)]; exact h7.c5
  · exact World.cell?_setCell_same _ _ _ (by simpa using h7.c6)

theorem Box7.set23 {w : World} {J : Nat} {x : TT} {t : Tr} (h : Box7 w J x) : Box7 ((w.setCell ⟨J, 2, none⟩ (.int .i64 t.k)).setCell ⟨J, 3, none⟩ (.slice t.a t.l.length t.c)) J { x with t := t } := by
  have h7 := h.at7
  refine ⟨⟨?_, ?_, ?_, ?_, ?_, ?_, ?_⟩, fun i hi => by rw [World.frozen?_setCell, World.frozen?_setCell]; exact h.fz i hi⟩
  · rw [World.cell?_setCell_other _ _ _ _ (by simp), World.cell?_setCell_other _ _ _ _ (by simp)]; exact h7.c0
  · rw [World.cell?_setCell_other _ _ _ _ (by simp), World.cell?_setCell_other _ _ _ _ (by simp)]; exact h7.c1
  · rw [World.cell?_setCell_other _ _ _ _ (by simp)]; exact World.cell?_setCell_same _ _ _ (by simpa using h7.c2)
  · refine World.cell?_setCell_same _ _ _ (u := .slice x.t.a x.t.l.length x.t.c) ?_
    rw [World.cell?_setCell_other _ _ _ _ (by simp)]; simpa using h7.c3
  · rw [World.cell?_setCell_other _ _ _ _ (by simp), World.cell?_setCell_other _ _ _ _ (by simp)]; exact h7.c4
  · rw [World.cell?_setCell_other _ _ _ _ (by simp), World.cell?_setCell_other _ _ _ _ (by simp)]; exact h7.c5
  · rw [World.cell?_setCell_other _ _ _ _ (by simp), World.cell?_setCell_other _ _ _ _ (by simp)]; exact h7.c6

/-- All seven cells written. -/
def put7 (w : World) (J : Nat) (x : TT) : World :=
  ((((((w.setCell ⟨J, 0, none⟩ (.int .i64 x.k)).setCell ⟨J, 1, none⟩ (.int .i64 x.n)).setCell ⟨J, 2, none⟩ (.int .i64 x.t.k)).setCell ⟨J, 3, none⟩ (.slice x.t.a x.t.l.length x.t.c)).setCell ⟨J, 4, none⟩ (.int .i64 x.f.k)).setCell ⟨J, 5, none⟩ (.slice x.f.a x.f.l.length x.f.c)).setCell ⟨J, 6, none⟩ (.slice x.a x.l.length x.c)

theorem set_get {w : World} {J i j : Nat} {u v : Value} (h : w.cell? ⟨J, i, none⟩ = some u) : (w.setCell ⟨J, j, none⟩ v).cell? ⟨J, i, none⟩ = some (if i = j then v else u) := by
  by_cases e : i = j
  · subst e
    rw [if_pos rfl]
    exact World.cell?_setCell_same _ _ _ h
  · rw [if_neg e, World.cell?_setCell_other _ _ _ _ (by simp)]
    exact h

theorem put7_box {w : World} {J : Nat} {x y : TT} (h : Box7 w J y) : Box7 (put7 w J x) J x := by
  have h7 := h.at7
  have c0 := h7.c0
  have c1 := h7.c1
  have c2 := h7.c2
  have c3 := h7.c3
  have c4 := h7.c4
  have c5 := h7.c5
  have c6 := h7.c6
  simp only [Nat.zero_add] at c0 c1 c2 c3 c4 c5 c6
  have key : ∀ i u, w.cell? ⟨J, i, none⟩ = some u → (put7 w J x).cell? ⟨J, i, none⟩ = some (if i = 6 then .slice x.a x.l.length x.c else if i = 5 then .slice x.f.a x.f.l.length x.f.c else if i = 4 then .int .i64 x.f.k else if i = 3 then .slice x.t.a x.t.l.length x.t.c else if i = 2 then .int .i64 x.t.k else if i = 1 then .int .i64 x.n else if i = 0 then .int .i64 x.k else u) := by
    intro i u hu
    exact set_get (set_get (set_get (set_get (set_get (set_get (set_get hu))))))
  refine ⟨⟨?_, ?_, ?_, ?_, ?_, ?_, ?_⟩, fun i hi => ?_⟩
  · simpa using key 0 _ c0
  · simpa using key 1 _ c1
  · simpa using key 2 _ c2
  · simpa using key 3 _ c3
  · simpa using key 4 _ c4
  · simpa using key 5 _ c5
  · simpa using key 6 _ c6
  · simp only [put7, World.frozen?_setCell]
    exact h.fz i hi

theorem put7_kept {w : World} {J : Nat} {x : TT} : Kept J none w (put7 w J x) :=
  setR_kept.trans (setR_kept.trans (setR_kept.trans (setR_kept.trans (setR_kept.trans (setR_kept.trans setR_kept)))))

theorem set23_kept {w : World} {J : Nat} {u v : Value} : Kept J none w ((w.setCell ⟨J, 2, none⟩ u).setCell ⟨J, 3, none⟩ v) :=
  setR_kept.trans setR_kept

/-! ### A row of terms -/

def cells7 (cs : List TT) : List Value := cs.flatMap fun x => [.int .i64 x.k, .int .i64 x.n, .int .i64 x.t.k, .slice x.t.a x.t.l.length x.t.c, .int .i64 x.f.k, .slice x.f.a x.f.l.length x.f.c, .slice x.a x.l.length x.c]

theorem cells7_append (a b : List TT) : cells7 (a ++ b) = cells7 a ++ cells7 b := by simp [cells7]

theorem cells7_at : ∀ (l : List TT) (j : Nat) (h : j < l.length) (i : Nat), i < 7 → (cells7 l)[j * 7 + i]? = [Value.int .i64 l[j].k, .int .i64 l[j].n, .int .i64 l[j].t.k, .slice l[j].t.a l[j].t.l.length l[j].t.c, .int .i64 l[j].f.k, .slice l[j].f.a l[j].f.l.length l[j].f.c, .slice l[j].a l[j].l.length l[j].c][i]?
  | [], j, h, _, _ => by simp at h
  | x :: r, 0, _, i, hi => by
    obtain rfl | rfl | rfl | rfl | rfl | rfl | rfl : i = 0 ∨ i = 1 ∨ i = 2 ∨ i = 3 ∨ i = 4 ∨ i = 5 ∨ i = 6 := by omega
    all_goals simp [cells7]
  | x :: r, j + 1, h, i, hi => by
    have ih := cells7_at r j (by simpa using h) i hi
    have e : (j + 1) * 7 + i = (j * 7 + i) + 1 + 1 + 1 + 1 + 1 + 1 + 1 := by omega
    rw [e]
    simpa [cells7] using ih

/-- A list that the call makes: its row, and what lies in it. -/
structure Row (base : Nat) (v : Value) (cs : List TT) (w : World) : Prop where
  own : w.ownsRow base 27 7 v cs.length (cells7 cs)
  ins : ∀ c, c ∈ cs → c.In w ∧ c.Bl (fun b => base ≤ b ∧ some b ≠ v.ownBlock)

theorem Row.nil (base : Nat) (w : World) : Row base (.slice none 0 0) [] w := ⟨World.ownsRow_nil _ _ _ _, fun c h => by cases h⟩

theorem Row.kept {base R : Nat} {v : Value} {cs : List TT} {w w' : World} (h : Row base v cs w) (hk : Kept R none w w') (hR : R < base) : Row base v cs w' := by
  refine ⟨⟨h.own.1, ?_⟩, fun c hc => ⟨(h.ins c hc).1.keptR hk ((h.ins c hc).2.mono fun b hb => by omega), (h.ins c hc).2⟩⟩
  rcases h.own.2 with hn | ⟨g, cap, cur, hv, hb, hg, rest⟩
  · exact .inl hn
  · exact .inr ⟨g, cap, cur, hv, hb, (hk.block g (Array.getElem?_eq_some_iff.1 hg).1 (by omega) (by simp)).trans hg, rest⟩

theorem Row.below {base : Nat} {v : Value} {cs : List TT} {w w' : World} (h : Row base v cs w) (hb : Below w.heap.size w w') : Row base v cs w' := by
  refine ⟨⟨h.own.1, ?_⟩, fun c hc => ⟨(h.ins c hc).1.below hb, (h.ins c hc).2⟩⟩
  rcases h.own.2 with hn | ⟨g, cap, cur, hv, hb', hg, rest⟩
  · exact .inl hn
  · exact .inr ⟨g, cap, cur, hv, hb', (hb.block g (Array.getElem?_eq_some_iff.1 hg).1).trans hg, rest⟩

/-- One more. -/
theorem Row.step {base : Nat} {v : Value} {cs : List TT} {w2 w3 : World} {c : TT} {gg cap1 : Nat} {X : Obj} (h : Row base v cs w2) (hin : c.In w2) (hbl : c.Bl (fun b => base ≤ b ∧ some b ≠ v.ownBlock))
    (hown : w3.ownsRow base 27 7 (.slice (some ⟨gg, 0, none⟩) (cs.length + 1) cap1) (cs.length + 1) (cells7 cs ++ cells7 [c])) (hgrow : (w2.alloc X).grownBy w3 v.ownBlock) (hat : v.ownBlock = some gg ∨ gg = w2.heap.size + 1) :
    Row base (.slice (some ⟨gg, 0, none⟩) (cs.length + 1) cap1) (cs ++ [c]) w3 ∧ ∀ k, k < w2.heap.size → some k ≠ v.ownBlock → w3.heap[k]? = w2.heap[k]? := by
  have hblk : ∀ k, k < w2.heap.size → some k ≠ v.ownBlock → w3.heap[k]? = w2.heap[k]? := fun k hk hn => by
    rw [hgrow.block k (by simp; omega) hn]
    exact ((Below.refl _ w2).alloc (Nat.le_refl _) X).block k hk
  refine ⟨⟨by rw [cells7_append, List.length_append, List.length_singleton]; exact hown, fun d hd => ?_⟩, hblk⟩
  have key : d.In w2 ∧ d.Bl (fun b => base ≤ b ∧ some b ≠ v.ownBlock) := by
    rcases List.mem_append.1 hd with hd | hd
    · exact h.ins d hd
    · rcases List.mem_singleton.1 hd with rfl
      exact ⟨hin, hbl⟩
  have i3 := key.1.bl.and key.2
  refine ⟨key.1.congr (P := fun b => b < w2.heap.size ∧ base ≤ b ∧ some b ≠ v.ownBlock) (fun b hb i => ?_) i3, i3.mono fun b hb => ⟨hb.2.1, ?_⟩⟩
  · exact World.cell?_of_block (a := ⟨b, i, none⟩) (hblk b hb.1 hb.2.2)
  · show some b ≠ some gg
    rcases hat with e | e
    · rw [← e]; exact hb.2.2
    · simp only [ne_eq, Option.some.injEq]; omega

/-- A row that the call owns is a term's list. -/
theorem Row.list {base : Nat} {v : Value} {cs : List TT} {w : World} (h : Row base v cs w) : ∃ a c, v = .slice a cs.length c ∧ (∀ j (hj : j < cs.length), ∃ b o, a = some ⟨b, o, none⟩ ∧ At7 w b (o + j * 7) cs[j]) ∧ (∀ y, cs ≠ [] → a = some y → base ≤ y.block) := by
  rcases h.own.2 with ⟨rfl, h0⟩ | ⟨g, cap, cur, rfl, hg, _⟩
  · have : cs = [] := List.length_eq_zero_iff.1 h0
    subst this
    exact ⟨none, 0, rfl, fun j hj => absurd hj (by simp), fun y h => absurd rfl h⟩
  · refine ⟨_, _, rfl, fun j hj => ⟨g, 0, rfl, ?_⟩, fun y _ hy => by cases hy; exact hg⟩
    have hc : ∀ i, i < 7 → w.cell? ⟨g, 0 + j * 7 + i, none⟩ = _ := fun i hi => by rw [Nat.zero_add, h.own.cellAt (j * 7 + i) (by omega), cells7_at cs j hj i hi]
    exact ⟨hc 0 (by omega), hc 1 (by omega), hc 2 (by omega), hc 3 (by omega), hc 4 (by omega), hc 5 (by omega), hc 6 (by omega)⟩

theorem Row.tree {base : Nat} {v : Value} {cs : List TT} {w : World} (h : Row base v cs w) : ∃ a c, v = .slice a cs.length c ∧ ∀ k n t f, t.In w → f.In w → (TT.mk k n t f a c cs).In w ∧ (∀ P : Nat → Prop, (∀ b, base ≤ b → P b) → t.Bl P → f.Bl P → (TT.mk k n t f a c cs).Bl P) := by
  obtain ⟨a, c, hv, hl, hb⟩ := h.list
  refine ⟨a, c, hv, fun k n t f ht hf => ⟨TT.In_mk.2 ⟨ht, hf, hl, fun x hx => (h.ins x hx).1⟩, fun P hP h1 h2 => TT.Bl_mk.2 ⟨h1, h2, fun hne x hx => hP _ (hb x hne hx), fun x hx => (h.ins x hx).2.mono fun b hb => hP b hb.1⟩⟩⟩

theorem Row.lt {base : Nat} {v : Value} {cs : List TT} {w : World} (h : Row base v cs w) (k : Nat) (hk : v.ownBlock = some k) : base ≤ k ∧ k < w.heap.size := h.own.lt k hk
end Go.Proofs.YtnddkmccagiclaaGreatDoor

/-
  What the calls of term.alikeAtTop and term.Same answer at two terms that are alike.
-/
namespace Go.Proofs.YtnddkmccagiclaaGreatDoor
open Go.RowKit

theorem relY_refl : ∀ t : Ty, relY escSame t t = true := by
  intro t
  induction t using Ty.ind with
  | h k l ih =>
    rw [relY_mk]
    simp only [escSame, Bool.false_or, beq_self_eq_true, Bool.true_and]
    exact relL_all escSame l l rfl fun j h _ => ih _ (List.getElem_mem h)

/-- Its types are of at most a thousand levels. -/
def TT.tok : TT → Prop
  | ⟨_, _, t, f, _, _, l⟩ => (t.hgt ≤ 1000 ∧ t.sm) ∧ (f.hgt ≤ 1000 ∧ f.sm) ∧ ∀ x, x ∈ l → x.tok

theorem TT.tok_mk {k n : Int} {t f : Tr} {a : Option Addr} {c : Nat} {l : List TT} : (TT.mk k n t f a c l).tok ↔ (t.hgt ≤ 1000 ∧ t.sm) ∧ (f.hgt ≤ 1000 ∧ f.sm) ∧ ∀ x, x ∈ l → x.tok := by
  rw [TT.tok]
theorem TT.tok.t {x : TT} (h : x.tok) : x.t.hgt ≤ 1000 ∧ x.t.sm := by cases x; exact (TT.tok_mk.1 h).1
theorem TT.tok.f {x : TT} (h : x.tok) : x.f.hgt ≤ 1000 ∧ x.f.sm := by cases x; exact (TT.tok_mk.1 h).2.1
theorem TT.tok.mem {x y : TT} (h : x.tok) (hy : y ∈ x.l) : y.tok := by
  obtain ⟨k, n, t, f, a, c, l⟩ := x
  exact (TT.tok_mk.1 h).2.2 y hy

set_option maxHeartbeats 1000000 in
/-- term.alikeAtTop, of two that are alike. -/
theorem alikeTm_yes (x y : TT) (w : World) (hx : x.In w) (hy : y.In w) (hk : x.k = y.k) (hn : x.n = y.n) (hl : x.l.length = y.l.length) (ht : x.t.ty = y.t.ty) (hf : x.f.ty = y.f.ty) (hto : x.tok) :
    Calls Tryz.prog 26 #[.agg #[.int .i64 x.k, .int .i64 x.n, .int .i64 x.t.k, .slice x.t.a x.t.l.length x.t.c, .int .i64 x.f.k, .slice x.f.a x.f.l.length x.f.c, .slice x.a x.l.length x.c], .agg #[.int .i64 y.k, .int .i64 y.n, .int .i64 y.t.k, .slice y.t.a y.t.l.length y.t.c, .int .i64 y.f.k, .slice y.f.a y.f.l.length y.f.c, .slice y.a y.l.length y.c]] w fun e w' => e = .returned (.bool true) ∧ Below w.heap.size w w' := by
  have HT : Hid (∀ W, x.t.In W → y.t.In W → Calls Tryz.prog 48 #[.agg #[.int .i64 x.t.k, .slice x.t.a x.t.l.length x.t.c], .agg #[.int .i64 y.t.k, .slice y.t.a y.t.l.length y.t.c]] W fun e w' => e = .returned (.bool true) ∧ Below W.heap.size W w') := by
    intro W h1 h2
    have := same_whole x.t y.t W h1 h2 hto.t.1 hto.t.2
    rw [ht, relY_refl] at this
    exact this
  have HF : Hid (∀ W, x.f.In W → y.f.In W → Calls Tryz.prog 48 #[.agg #[.int .i64 x.f.k, .slice x.f.a x.f.l.length x.f.c], .agg #[.int .i64 y.f.k, .slice y.f.a y.f.l.length y.f.c]] W fun e w' => e = .returned (.bool true) ∧ Below W.heap.size W w') := by
    intro W h1 h2
    have := same_whole x.f y.f W h1 h2 hto.f.1 hto.f.2
    rw [hf, relY_refl] at this
    exact this
  have e1 : (x.k == y.k) = true := by simp [hk]
  have e2 : (x.n == y.n) = true := by simp [hn]
  have e3 : ((x.l.length : Int) == (y.l.length : Int)) = true := by simp [hl]
  have hb0 : ∀ o o', Below w.heap.size w ((w.alloc o).alloc o') := fun o o' => ((Below.refl _ _).alloc (Nat.le_refl _) _).alloc (by simp) _
  have HB : Hid (∀ o o', Below w.heap.size w ((w.alloc o).alloc o')) := hb0
  have HX : Hid (x.In w ∧ y.In w) := ⟨hx, hy⟩
  clear hk hn hl ht hf hto hx hy hb0
  go_enter Tryz.func26, Tryz.ntmps26
  go_wp2_with fail
  refine (HT.out _ (HX.out.1.below (HB.out _ _)).t (HX.out.2.below (HB.out _ _)).t).mono ?_
  rintro e w1 ⟨rfl, hb1⟩
  have hbw : Below w.heap.size w w1 := (HB.out _ _).trans (hb1.mono (by simp; omega))
  have q4 : w1.cell? ⟨w.heap.size, 4, none⟩ = some (.int .i64 x.f.k) := cell_later hb1 (by simp [go_sem])
  have q5 : w1.cell? ⟨w.heap.size, 5, none⟩ = some (.slice x.f.a x.f.l.length x.f.c) := cell_later hb1 (by simp [go_sem])
  have p4 : w1.cell? ⟨w.heap.size + 1, 4, none⟩ = some (.int .i64 y.f.k) := cell_later hb1 (by simp [go_sem])
  have p5 : w1.cell? ⟨w.heap.size + 1, 5, none⟩ = some (.slice y.f.a y.f.l.length y.f.c) := cell_later hb1 (by simp [go_sem])
  clear hb1
  go_wp2_with fail
  refine (HF.out _ (HX.out.1.below hbw).f (HX.out.2.below hbw).f).mono ?_
  rintro e w2 ⟨rfl, hb2⟩
  have hbz := hbw.trans (hb2.mono hbw.size)
  clear hb2 hbw
  go_wp2_with fail
  go_ret
  exact ⟨rfl, hbz⟩

theorem ownsRow_low {w w' : World} {B e size n : Nat} {v : Value} {xs : List Value} (h : w.ownsRow B e size v n xs) (hb : Below w.heap.size w w') : w'.ownsRow B e size v n xs := by
  refine ⟨h.1, ?_⟩
  rcases h.2 with hn | ⟨g, cap, cur, hv, hb', hg, rest⟩
  · exact .inl hn
  · exact .inr ⟨g, cap, cur, hv, hb', (hb.block g (Array.getElem?_eq_some_iff.1 hg).1).trans hg, rest⟩

theorem sum_take_le (f : TT → Nat) : ∀ (l : List TT) (j : Nat), ((l.take j).map f).sum ≤ (l.map f).sum
  | [], j => by simp
  | x :: l, 0 => by simp
  | x :: l, j + 1 => by
    have := sum_take_le f l j
    simp only [List.take_succ_cons, List.map_cons, List.sum_cons]; omega

/-! ### The stack -/

def TT.sz : TT → Nat
  | ⟨_, _, _, _, _, _, l⟩ => (l.map fun t => t.sz).sum + 1
theorem TT.sz_mk (k n : Int) (t f : Tr) (a : Option Addr) (c : Nat) (l : List TT) : (TT.mk k n t f a c l).sz = (l.map TT.sz).sum + 1 := by
  rw [TT.sz]
theorem TT.sz_eq (x : TT) : x.sz = (x.l.map TT.sz).sum + 1 := by cases x; rw [TT.sz_mk]
theorem TT.sz_pos (x : TT) : 1 ≤ x.sz := by rw [TT.sz_eq]; omega

def cells2 (ps : List (TT × TT)) : List Value := ps.flatMap fun p => [.slice p.1.a p.1.l.length p.1.c, .slice p.2.a p.2.l.length p.2.c]
theorem cells2_append (a b : List (TT × TT)) : cells2 (a ++ b) = cells2 a ++ cells2 b := by simp [cells2]
theorem cells2_length (a : List (TT × TT)) : (cells2 a).length = a.length * 2 := by
  induction a with
  | nil => rfl
  | cons p r ih => simp [cells2] at ih ⊢; omega

/-- Two lists of terms, each with each. -/
def Pr (B : Nat) (w : World) (p : TT × TT) : Prop := p.1.In w ∧ p.2.In w ∧ p.1.Bl (· < B) ∧ p.2.Bl (· < B) ∧ p.1.tok ∧ p.1.l.map TT.tm = p.2.l.map TT.tm

theorem Pr.low {B : Nat} {w w' : World} {p : TT × TT} (h : Pr B w p) (hb : Below B w w') : Pr B w' p :=
  ⟨h.1.congr (P := (· < B)) (fun b hb' o => hb.cell (p := ⟨b, o, none⟩) hb') h.2.2.1, h.2.1.congr (P := (· < B)) (fun b hb' o => hb.cell (p := ⟨b, o, none⟩) hb') h.2.2.2.1, h.2.2⟩

/-- The pairs of lists of these terms that have any. -/
def kids : List TT → List TT → List (TT × TT)
  | x :: xs, y :: ys => (if x.l.length = 0 then [] else [(x, y)]) ++ kids xs ys
  | _, _ => []

def mass (ps : List (TT × TT)) : Nat := (ps.map fun p => p.1.sz).sum

theorem kids_mass : ∀ xs ys : List TT, mass (kids xs ys) ≤ (xs.map TT.sz).sum
  | [], _ => by simp [kids, mass]
  | x :: xs, [] => by simp [kids, mass]
  | x :: xs, y :: ys => by
    have := kids_mass xs ys
    simp only [kids, mass, List.map_append, List.sum_append_nat, List.map_cons, List.sum_cons] at this ⊢
    split
    · simp; omega
    · simp; omega

theorem kids_snoc : ∀ (l m : List TT) (j : Nat) (hj : j < l.length) (hm : j < m.length), kids (l.take (j + 1)) (m.take (j + 1)) = kids (l.take j) (m.take j) ++ (if l[j].l.length = 0 then [] else [(l[j], m[j])])
  | x :: l, y :: m, 0, _, _ => by simp [kids]
  | x :: l, y :: m, j + 1, hj, hm => by
    have := kids_snoc l m j (by simpa using hj) (by simpa using hm)
    simp only [List.take_succ_cons, kids, List.getElem_cons_succ]
    rw [this, List.append_assoc]
  | [], _, j, hj, _ => by simp at hj
  | x :: l, [], j, _, hm => by simp at hm

structure Stk (B : Nat) (v : Value) (ps : List (TT × TT)) (w : World) : Prop where
  own : w.ownsRow B 53 2 v ps.length (cells2 ps)
  ins : ∀ p, p ∈ ps → Pr B w p

theorem Stk.len {ps : List (TT × TT)} : ps.length ≤ mass ps := by
  induction ps with
  | nil => simp
  | cons p r ih => have := p.1.sz_pos; simp only [mass, List.map_cons, List.sum_cons, List.length_cons] at ih ⊢; omega

theorem Tryz.info53 : (Tryz.prog.info? 53).map (fun i => (i.zero, i.size, i.bytes)) = some (some (.agg #[.slice none 0 0, .slice none 0 0]), 2, 48) := by kernel_rfl

theorem tm_parts {x y : TT} (h : x.tm = y.tm) : x.k = y.k ∧ x.n = y.n ∧ x.l.length = y.l.length ∧ x.t.ty = y.t.ty ∧ x.f.ty = y.f.ty ∧ x.l.map TT.tm = y.l.map TT.tm := by
  have hk := congrArg Tm.k h
  have hn := congrArg Tm.n h
  have ht := congrArg Tm.t h
  have hf := congrArg Tm.f h
  have hl := congrArg Tm.l h
  rw [TT.tm_k, TT.tm_k] at hk
  rw [TT.tm_n, TT.tm_n] at hn
  rw [TT.tm_t, TT.tm_t] at ht
  rw [TT.tm_f, TT.tm_f] at hf
  rw [TT.tm_l, TT.tm_l] at hl
  exact ⟨hk, hn, by have := congrArg List.length hl; simpa using this, ht, hf, hl⟩
end Go.Proofs.YtnddkmccagiclaaGreatDoor

/-
  Good terms: few levels of types, few terms; how many terms; the plain mathematics that several texts lean on; no program's run in it.
-/
namespace Go.Proofs.YtnddkmccagiclaaGreatDoor
open Go.RowKit

theorem goodS_top {ar : Int} {n : Nat} {ins : Int} {x : Tm} {r r' : Nat} (h : goodS ar n ins x r = some r') : ∃ m q, n = m + 1 ∧ r = q + 1 ∧ okTop ar ins x = true ∧ bindL (fun y r' => goodS ar m (insOf x.k ins) y r') x.l q = some r' := by
  match n, r, h with
  | 0, _, h => simp [goodS] at h
  | m + 1, 0, h => simp [goodS] at h
  | m + 1, q + 1, h =>
    simp only [goodS] at h
    split at h
    · exact ⟨m, q, rfl, rfl, by assumption, h⟩
    · cases h

theorem okTop_parts {ar ins : Int} {x : Tm} (h : okTop ar ins x = true) : 1 ≤ x.k ∧ x.k ≤ 9 ∧ x.l.length = partsOf x.k ∧ okTypes x.k x.t x.f = true ∧ okNum ar ins x.k x.n = true := by
  simp only [okTop, Bool.and_eq_true, decide_eq_true_eq, beq_iff_eq] at h
  exact ⟨h.1.1.1, h.1.1.2, h.1.2, h.2.1, h.2.2⟩

theorem isAny_eq {t : Ty} (h : isAnyY t = true) : t = anyY := by
  obtain ⟨k, l⟩ := t
  simp only [isAnyY, anyY, relY_mk, escSame, Bool.false_or, Bool.and_eq_true, beq_iff_eq] at h
  obtain ⟨rfl, h⟩ := h
  cases l with
  | nil => rfl
  | cons x r => simp [relL] at h

theorem any_tok {t : Tr} (h : isAnyY t.ty = true) : t.hgt ≤ 1000 ∧ t.sm := by
  have e := isAny_eq h
  obtain ⟨k, a, c, l⟩ := t
  rw [Tr.ty_mk] at e
  have hl : l = [] := by
    have := congrArg Ty.l e
    simpa [anyY] using this
  subst hl
  refine ⟨?_, Tr.sm_mk.2 ⟨by simp, fun t h => by cases h⟩⟩
  rw [Tr.hgt_mk]; simp

theorem bindL_all {f : TT → Nat → Option Nat} (hf : ∀ y q q', f y q = some q' → y.tok ∧ y.sz + q' = q) : ∀ (l : List TT) (r r' : Nat), bindL f l r = some r' → (∀ y, y ∈ l → y.tok) ∧ (l.map TT.sz).sum + r' = r
  | [], r, r', h => by simp [bindL] at h; exact ⟨(fun y hy => by cases hy), by simpa using h.symm⟩
  | x :: l, r, r', h => by
    simp only [bindL] at h
    cases hq : f x r with
    | none => rw [hq] at h; cases h
    | some q =>
      rw [hq] at h
      have h1 := hf x r q hq
      have h2 := bindL_all hf l q r' h
      refine ⟨fun y hy => ?_, ?_⟩
      · rcases List.mem_cons.1 hy with rfl | hy
        · exact h1.1
        · exact h2.1 y hy
      · simp only [List.map_cons, List.sum_cons]; omega

/-- A good term has types of few levels, and as many terms as the room that it took. -/
theorem goodS_tok (ar : Int) : ∀ (n : Nat) (ins : Int) (x : TT) (r r' : Nat), goodS ar n ins x.tm r = some r' → x.tok ∧ x.sz + r' = r
  | 0, _, _, _, _, h => by simp [goodS] at h
  | n + 1, ins, x, r, r', h => by
    obtain ⟨m, q, hm, rfl, hok, hb⟩ := goodS_top h
    obtain rfl : n = m := by omega
    obtain ⟨_, _, _, hty, _⟩ := okTop_parts hok
    rw [TT.tm_l, TT.tm_k, bindL_map] at hb
    have hall := bindL_all (fun y q q' h => goodS_tok ar n _ y q q' h) x.l q r' hb
    rw [TT.tm_t, TT.tm_f, TT.tm_k] at hty
    simp only [okTypes, Bool.and_eq_true] at hty
    have ht : x.t.hgt ≤ 1000 ∧ x.t.sm := by
      by_cases hk : tells x.k = true
      · have := hty.2
        rw [hk, if_pos rfl, ← goodT_eq] at this
        exact ⟨Nat.le_trans (Tr.hgt_good 4 _ this) (by omega), Tr.sm_good 4 _ this⟩
      · have hk' : tells x.k = false := by simpa using hk
        have := hty.2
        rw [hk', if_neg (by simp)] at this
        exact any_tok this
    have hs := x.sz_eq
    refine ⟨?_, by omega⟩
    obtain ⟨k, n', t, f, a, c, l⟩ := x
    exact TT.tok_mk.2 ⟨ht, any_tok hty.1, hall.1⟩

theorem goodM_tok {ar : Int} {x : TT} (h : goodM ar x.tm = true) : x.tok ∧ x.sz ≤ 40 := by
  obtain ⟨r', hr⟩ := Option.isSome_iff_exists.1 h
  have := goodS_tok ar 40 0 x 40 r' hr
  exact ⟨this.1, by omega⟩

def Tm.sz : Tm → Nat
  | ⟨_, _, _, _, l⟩ => (l.map fun t => t.sz).sum + 1
theorem Tm.sz_mk (k n : Int) (t f : Ty) (l : List Tm) : (Tm.mk k n t f l).sz = (l.map Tm.sz).sum + 1 := by
  rw [Tm.sz]

theorem TT.sz_tm (x : TT) : x.sz = x.tm.sz := by
  induction x using TT.ind with
  | h k n t f a c l ih =>
    rw [TT.tm_mk, TT.sz_mk, Tm.sz_mk, List.map_map]
    have : l.map TT.sz = l.map (Tm.sz ∘ TT.tm) := List.map_congr_left fun x hx => ih x hx
    rw [this]

end Go.Proofs.YtnddkmccagiclaaGreatDoor
