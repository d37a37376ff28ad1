/-
  What the call of (*walk).good answers, at whatever term lies in memory.
-/
import Derived.Test.YtnddkmccagiclaaDoorLotf95a12f13f
import Derived.Test.YtnddkmccagiclaaDoorLot6084a0127f
import Derived.Test.YtnddkmccagiclaaDoorLotdb77f22aaa
namespace Go.Proofs.YtnddkmccagiclaaDoor
open Go.RowKit

theorem wTop_kept (R r : Nat) (x : TT) (w : World) (nq : Nat) : Kept R none w ((wTop R r x w).drewN nq) :=
  setR_kept.trans (Kept.of_below (below_dN ((Below.refl _ _).alloc (Nat.le_refl _) _) _))

theorem wTop_ws {R r : Nat} {ar : Int} {room : Nat} {x : TT} {w : World} {nq : Nat} (h : WS R ar room w) : WS R ar r ((wTop R r x w).drewN nq) :=
  (WS.set h).below (below_dN ((Below.refl _ _).alloc (Nat.le_refl _) _) _)

/-- The box's cells. -/
theorem wTop_cells (R r : Nat) (x : TT) (w : World) (nq : Nat) : At7 ((wTop R r x w).drewN nq) w.heap.size 0 x := by
  have hs : (w.setCell ⟨R, 1, none⟩ (.int .i64 (r : Int))).heap.size = w.heap.size := by simp [World.setCell]
  rw [← hs]
  constructor <;> simp [wTop, go_sem]

set_option maxHeartbeats 2000000 in
theorem goodW_bad2 (R : Nat) (ar : Int) (r : Nat) (hr1 : r ≤ 1000) (ins : Nat) (hi : ins ≤ 1000) (x : TT) (w : World) (hg : Gp w) (hR : 3 ≤ R) (hw : WS R ar (r + 1) w)
    (hx : x.In w) (hbl : x.Bl (· ≠ R)) (hnb : x.nb) (hk1 : 1 ≤ x.k) (hk2 : x.k ≤ 9) (hlen : x.l.length = partsOf x.k)
    (hok : (okTypes x.k x.t.ty x.f.ty && okNum ar (ins : Int) x.k x.n) = false) :
    Calls Tryd.prog 50 #[.pointer (some ⟨R, 0, none⟩), .agg #[.int .i64 x.k, .int .i64 x.n, .int .i64 x.t.k, .slice x.t.a x.t.l.length x.t.c, .int .i64 x.f.k, .slice x.f.a x.f.l.length x.f.c, .slice x.a x.l.length x.c], .int .i64 (ins : Int)] w (GoodPost R ar none w) := by
  have hr := hw.r
  have hz := hw.z
  have hRl := hw.lt
  have e0 : ((r + 1 : Nat) : Int) = (r : Int) + 1 := by omega
  rw [e0] at hr
  have e1 : (((r : Int) + 1) == 0) = false := by simp; omega
  have hd1 : decide (x.k < 1) = false := by simp; omega
  have hd2 : decide (9 < x.k) = false := by simp; omega
  have hp := parts_cell hg x.k hk1 hk2
  have hne : ((x.l.length : Int) == (partsOf x.k : Int)) = true := by rw [hlen]; simp
  have hne2 : ((x.l.length : Int) != (partsOf x.k : Int)) = false := by rw [bne, hne]; rfl
  have i0 : (0 : Int) ≤ x.k := by omega
  have i1 : x.k < 10 := by omega
  have n2 : (2 : Nat) ≠ R := by omega
  have h2l : 2 < w.heap.size := by have := hg.size; omega
  have HX : Hid (∀ nq, x.In ((wTop R r x w).drewN nq)) := fun nq => hx.keptR (wTop_kept R r x w nq) hbl
  have HW : Hid (∀ nq, WS R ar r ((wTop R r x w).drewN nq)) := fun nq => wTop_ws hw
  have HB : Hid (∀ nq, At7 ((wTop R r x w).drewN nq) w.heap.size 0 x) := fun nq => wTop_cells R r x w nq
  have HNB : Hid (x.n ≤ 9223372036854775807) := hnb.n
  have HOK : Hid ((okTypes x.k x.t.ty x.f.ty && okNum ar (ins : Int) x.k x.n) = false) := hok
  obtain ⟨bt, hbt⟩ : ∃ b, okTypes x.k x.t.ty x.f.ty = b := ⟨_, rfl⟩
  have HT : Hid (∀ W, x.In W → Calls Tryd.prog 79 #[.agg #[.int .i64 x.k, .int .i64 x.n, .int .i64 x.t.k, .slice x.t.a x.t.l.length x.t.c, .int .i64 x.f.k, .slice x.f.a x.f.l.length x.f.c, .slice x.a x.l.length x.c]] W fun e w' => e = .returned (.bool bt) ∧ Below W.heap.size W w') := by
    intro W h
    have := goodTypes_any x W h.t h.f
    rw [hbt] at this
    exact this
  have HBT : Hid (okTypes x.k x.t.ty x.f.ty = bt) := hbt
  clear hok hlen hk1 hk2 hg hbt hbl hx hw hnb
  cases bt
  · go_enter Tryd.func50, Tryd.ntmps50
    go_wp2_with fail
    go_quiet (fail)
    go_wp2_with fail
    refine (HT.out _ (HX.out nq)).mono ?_
    rintro e w1 ⟨rfl, hb1⟩
    have HE : Hid (GoodPost R ar none w (.returned (.bool false)) w1) := ⟨r, rfl, (HW.out nq).below hb1, (fun q h => by cases h), (wTop_kept R r x w nq).trans (Kept.of_below hb1)⟩
    clear hb1
    go_wp2_with fail
    go_ret
    exact HE.out
  · have hbn : Hid (okNum ar (ins : Int) x.k x.n = false) := by have := HOK.out; rw [HBT.out] at this; simpa [Hid] using this
    go_enter Tryd.func50, Tryd.ntmps50
    go_wp2_with fail
    go_quiet (fail)
    go_wp2_with fail
    refine (HT.out _ (HX.out nq)).mono ?_
    rintro e w1 ⟨rfl, hb1⟩
    have HN : Hid (Calls Tryd.prog 80 #[.pointer (some ⟨R, 0, none⟩), .agg #[.int .i64 x.k, .int .i64 x.n, .int .i64 x.t.k, .slice x.t.a x.t.l.length x.t.c, .int .i64 x.f.k, .slice x.f.a x.f.l.length x.f.c, .slice x.a x.l.length x.c], .int .i64 (ins : Int)] w1 fun e w' => e = .returned (.bool false) ∧ Below w1.heap.size w1 w') := by
      have := goodNumber_any R ar ins hi x HNB.out w1 ((HW.out nq).below hb1).a
      rw [hbn.out] at this
      exact this
    have HE : Hid (WS R ar r w1 ∧ Kept R none w w1) := ⟨(HW.out nq).below hb1, (wTop_kept R r x w nq).trans (Kept.of_below hb1)⟩
    have h7 := (HB.out nq).below hb1
    have c0 := h7.c0
    have c1 := h7.c1
    have c2 := h7.c2
    have c3 := h7.c3
    have c4 := h7.c4
    have c5 := h7.c5
    have c6 := h7.c6
    simp only [Nat.zero_add] at c0 c1 c2 c3 c4 c5 c6
    clear hb1 h7
    go_wp2_with fail
    refine HN.out.mono ?_
    rintro e w2 ⟨rfl, hb2⟩
    have HE2 : Hid (GoodPost R ar none w (.returned (.bool false)) w2) := ⟨r, rfl, HE.out.1.below hb2, (fun q h => by cases h), HE.out.2.trans (Kept.of_below hb2)⟩
    clear hb2 c0 c1 c2 c3 c4 c5 c6
    go_wp2_with fail
    go_ret
    exact HE2.out

set_option maxHeartbeats 4000000 in
theorem goodW_top (R : Nat) (ar : Int) (n r : Nat) (hr1 : r ≤ 1000) (ins : Nat) (hi : ins ≤ 1000) (x : TT) (w : World) (hg : Gp w) (hR : 3 ≤ R) (hw : WS R ar (r + 1) w) (hl : x.l.length ≤ 140737488355328)
    (hx : x.In w) (hbl : x.Bl (· ≠ R)) (hnb : x.nb) (hk1 : 1 ≤ x.k) (hk2 : x.k ≤ 9) (hlen : x.l.length = partsOf x.k)
    (hok1 : okTypes x.k x.t.ty x.f.ty = true) (hok2 : okNum ar (ins : Int) x.k x.n = true)
    (b7 : Bool) (h7 : (x.k == 7) = b7) (ins' : Nat) (hins : (ins' : Int) = if b7 = true then (ins : Int) + 1 else (ins : Int))
    (HC : Hid (∀ (j : Nat) (hj : j < x.l.length) (q : Nat) (W : World), q ≤ r → Gp W → WS R ar q W → x.l[j].In W → Calls Tryd.prog 50 #[.pointer (some ⟨R, 0, none⟩), .agg #[.int .i64 x.l[j].k, .int .i64 x.l[j].n, .int .i64 x.l[j].t.k, .slice x.l[j].t.a x.l[j].t.l.length x.l[j].t.c, .int .i64 x.l[j].f.k, .slice x.l[j].f.a x.l[j].f.l.length x.l[j].f.c, .slice x.l[j].a x.l[j].l.length x.l[j].c], .int .i64 (ins' : Int)] W (GoodPost R ar (goodS ar n (insOf x.k (ins : Int)) x.l[j].tm q) W)))
    (HM : Hid (∀ (y : TT) (q q' : Nat), y ∈ x.l → goodS ar n (insOf x.k (ins : Int)) y.tm q = some q' → q' ≤ q)) :
    Calls Tryd.prog 50 #[.pointer (some ⟨R, 0, none⟩), .agg #[.int .i64 x.k, .int .i64 x.n, .int .i64 x.t.k, .slice x.t.a x.t.l.length x.t.c, .int .i64 x.f.k, .slice x.f.a x.f.l.length x.f.c, .slice x.a x.l.length x.c], .int .i64 (ins : Int)] w (GoodPost R ar (bindL (fun (y : TT) r' => goodS ar n (insOf x.k (ins : Int)) y.tm r') x.l r) w) := by
  have hr := hw.r
  have hz := hw.z
  have hRl := hw.lt
  have e0 : ((r + 1 : Nat) : Int) = (r : Int) + 1 := by omega
  rw [e0] at hr
  have e1 : (((r : Int) + 1) == 0) = false := by simp; omega
  have hd1 : decide (x.k < 1) = false := by simp; omega
  have hd2 : decide (9 < x.k) = false := by simp; omega
  have hp := parts_cell hg x.k hk1 hk2
  have hne : ((x.l.length : Int) == (partsOf x.k : Int)) = true := by rw [hlen]; simp
  have hne2 : ((x.l.length : Int) != (partsOf x.k : Int)) = false := by rw [bne, hne]; rfl
  have i0 : (0 : Int) ≤ x.k := by omega
  have i1 : x.k < 10 := by omega
  have n2 : (2 : Nat) ≠ R := by omega
  have h2l : 2 < w.heap.size := by have := hg.size; omega
  have HX : Hid (∀ nq, x.In ((wTop R r x w).drewN nq)) := fun nq => hx.keptR (wTop_kept R r x w nq) hbl
  have HW : Hid (∀ nq, WS R ar r ((wTop R r x w).drewN nq)) := fun nq => wTop_ws hw
  have HB : Hid (∀ nq, At7 ((wTop R r x w).drewN nq) w.heap.size 0 x) := fun nq => wTop_cells R r x w nq
  have HNB : Hid (x.n ≤ 9223372036854775807) := hnb.n
  have HT : Hid (∀ W, x.In W → Calls Tryd.prog 79 #[.agg #[.int .i64 x.k, .int .i64 x.n, .int .i64 x.t.k, .slice x.t.a x.t.l.length x.t.c, .int .i64 x.f.k, .slice x.f.a x.f.l.length x.f.c, .slice x.a x.l.length x.c]] W fun e w' => e = .returned (.bool true) ∧ Below W.heap.size W w') := by
    intro W h
    have := goodTypes_any x W h.t h.f
    rw [hok1] at this
    exact this
  have HOK : Hid (okNum ar (ins : Int) x.k x.n = true) := hok2
  have HG : Hid (Gp w) := hg
  have HBL : Hid (x.Bl (· ≠ R)) := hbl
  have HINS : Hid ((ins' : Int) = if b7 = true then (ins : Int) + 1 else (ins : Int)) := hins
  have hi1 : (ins : Int) + 1 ≤ 1001 := by omega
  clear hok1 hok2 hlen hk1 hk2 hg hbl hx hw hnb hins
  cases b7
  all_goals
    go_enter Tryd.func50, Tryd.ntmps50
    go_wp2_with fail
    go_quiet (fail)
    go_wp2_with fail
    refine (HT.out _ (HX.out nq)).mono ?_
    rintro e w1 ⟨rfl, hb1⟩
    have HN : Hid (Calls Tryd.prog 80 #[.pointer (some ⟨R, 0, none⟩), .agg #[.int .i64 x.k, .int .i64 x.n, .int .i64 x.t.k, .slice x.t.a x.t.l.length x.t.c, .int .i64 x.f.k, .slice x.f.a x.f.l.length x.f.c, .slice x.a x.l.length x.c], .int .i64 (ins : Int)] w1 fun e w' => e = .returned (.bool true) ∧ Below w1.heap.size w1 w') := by
      have := goodNumber_any R ar ins hi x HNB.out w1 ((HW.out nq).below hb1).a
      rw [HOK.out] at this
      exact this
    have HE : Hid (WS R ar r w1 ∧ Kept R none w w1 ∧ x.In w1 ∧ At7 w1 w.heap.size 0 x) := ⟨(HW.out nq).below hb1, (wTop_kept R r x w nq).trans (Kept.of_below hb1), (HX.out nq).below hb1, (HB.out nq).below hb1⟩
    obtain ⟨_, _, _, c0, c1, c2, c3, c4, c5, c6⟩ := HE.out
    simp only [Nat.zero_add] at c0 c1 c2 c3 c4 c5 c6
    clear hb1
    go_wp2_with fail
    refine HN.out.mono ?_
    rintro e w2 ⟨rfl, hb2⟩
    have HE2 : Hid (WS R ar r w2 ∧ Kept R none w w2 ∧ x.In w2 ∧ Gp w2) := ⟨HE.out.1.below hb2, HE.out.2.1.trans (Kept.of_below hb2), HE.out.2.2.1.below hb2, (HG.out.kept hR HE.out.2.1).below hb2⟩
    replace c0 := cell_later hb2 c0
    replace c6 := cell_later hb2 c6
    clear hb2 c1 c2 c3 c4 c5 HE HN HX HW HB
    go_wp2_with fail
    go_loopg [57] x.l.length (fun g i wr => ∃ (j q : Nat), g + j = x.l.length ∧ i = .int .i64 (j : Int) ∧ Hid (q ≤ r ∧ bindL (fun (y : TT) r' => goodS ar n (insOf x.k (ins : Int)) y.tm r') x.l r = bindL (fun (y : TT) r' => goodS ar n (insOf x.k (ins : Int)) y.tm r') (x.l.drop j) q ∧ WS R ar q wr ∧ Kept R none w2 wr))
    case atStart => exact ⟨0, r, by omega, rfl, Nat.le_refl _, rfl, HE2.out.1, Kept.of_below (Below.refl _ _)⟩
    case round =>
      obtain ⟨j, q, hj, rfl, HQ⟩ := hrel
      by_cases hlt : j < x.l.length
      · obtain ⟨b, o, ea, h7', hxj⟩ := HE2.out.2.2.1.part j hlt
        have hbR : b ≠ R := HBL.out.own (by intro e; rw [e] at hlt; simp at hlt) _ ea
        have h8 := h7'.keptR HQ.out.2.2.2 hbR
        have d0 := h8.c0
        have d1 := h8.c1
        have d2 := h8.c2
        have d3 := h8.c3
        have d4 := h8.c4
        have d5 := h8.c5
        have d6 := h8.c6
        have hxr := hxj.keptR HQ.out.2.2.2 (HBL.out.mem (List.getElem_mem hlt))
        have HXR : Hid (x.l[j].In wr) := hxr
        have hR2 : wr.heap.size ≠ R := by have := HQ.out.2.2.1.lt; omega
        have i2 : (j : Int) < (x.l.length : Int) := by omega
        have i3 : (0 : Int) ≤ (j : Int) := by omega
        have HEA : Hid (x.a = some ⟨b, o, none⟩) := ea
        rw [ea]
        have hbp : ∀ o, Below wr.heap.size wr (wr.alloc o) := fun o => (Below.refl _ _).alloc (Nat.le_refl _) _
        have HP : Hid (∀ o, Calls Tryd.prog 50 #[.pointer (some ⟨R, 0, none⟩), .agg #[.int .i64 x.l[j].k, .int .i64 x.l[j].n, .int .i64 x.l[j].t.k, .slice x.l[j].t.a x.l[j].t.l.length x.l[j].t.c, .int .i64 x.l[j].f.k, .slice x.l[j].f.a x.l[j].f.l.length x.l[j].f.c, .slice x.l[j].a x.l[j].l.length x.l[j].c], .int .i64 (ins' : Int)] (wr.alloc o) (GoodPost R ar (goodS ar n (insOf x.k (ins : Int)) x.l[j].tm q) (wr.alloc o))) := fun o => HC.out j hlt q _ HQ.out.1 ((HE2.out.2.2.2.kept hR HQ.out.2.2.2).below (hbp o)) (HQ.out.2.2.1.below (hbp o)) (HXR.out.below (hbp o))
        rw [HINS.out] at HP
        clear h7' hxj h8 hxr ea hbp
        simp only [Bool.false_eq_true, if_false, if_true] at HP
        go_wp2_with fail
        refine (HP.out _).mono ?_
        rintro e w3 ⟨r3, rfl, hw3, hs3, hk3⟩
        have hk4 : Kept R none w2 w3 := (HQ.out.2.2.2.trans (Kept.of_below ((Below.refl _ _).alloc (Nat.le_refl _) _))).trans hk3
        have HS : Hid (x.l.drop j = x.l[j] :: x.l.drop (j + 1)) := List.drop_eq_getElem_cons hlt
        cases ho : goodS ar n (insOf x.k (ins : Int)) x.l[j].tm q with
        | none =>
          have HF : Hid (GoodPost R ar (bindL (fun (y : TT) r' => goodS ar n (insOf x.k (ins : Int)) y.tm r') x.l r) w (.returned (.bool false)) w3) := by
            have e : bindL (fun (y : TT) r' => goodS ar n (insOf x.k (ins : Int)) y.tm r') x.l r = none := by rw [HQ.out.2.1, HS.out, bindL, ho]; rfl
            rw [e]
            exact ⟨r3, rfl, hw3, (fun q h => by cases h), HE2.out.2.1.trans hk4⟩
          clear hw3 hs3 hk3 hk4 ho HQ HP HXR d0 d1 d2 d3 d4 d5 d6
          simp only [Option.isSome_none]
          go_wp2_with fail
          go_ret
          exact HF.out
        | some q' =>
          have HF : Hid (q' ≤ r ∧ bindL (fun (y : TT) r' => goodS ar n (insOf x.k (ins : Int)) y.tm r') x.l r = bindL (fun (y : TT) r' => goodS ar n (insOf x.k (ins : Int)) y.tm r') (x.l.drop (j + 1)) q' ∧ WS R ar q' w3 ∧ Kept R none w2 w3) := by
            have e := hs3 q' ho
            subst e
            refine ⟨Nat.le_trans (HM.out _ q q' (List.getElem_mem hlt) ho) HQ.out.1, ?_, hw3, hk4⟩
            rw [HQ.out.2.1, HS.out, bindL, ho]
            rfl
          clear hw3 hs3 hk3 hk4 ho HQ HP HXR d0 d1 d2 d3 d4 d5 d6
          simp only [Option.isSome_some]
          go_wp2_with fail
          rw [← HEA.out]
          go_roundg (x.l.length - (j + 1))
          case measure => omega
          case rel => exact ⟨j + 1, q', by omega, by go_num, HF⟩
      · have HF : Hid (GoodPost R ar (bindL (fun (y : TT) r' => goodS ar n (insOf x.k (ins : Int)) y.tm r') x.l r) w (.returned (.bool true)) wr) := by
          have e : bindL (fun (y : TT) r' => goodS ar n (insOf x.k (ins : Int)) y.tm r') x.l r = some q := by rw [HQ.out.2.1, List.drop_eq_nil_of_le (by omega), bindL]
          rw [e]
          exact ⟨q, rfl, HQ.out.2.2.1, (fun q h => by cases h; rfl), HE2.out.2.1.trans HQ.out.2.2.2⟩
        clear HQ
        go_wp2_with fail
        go_ret
        exact HF.out
end Go.Proofs.YtnddkmccagiclaaDoor

/-
  What the calls of (*walk).good and term.Good answer, at whatever term lies in memory.
-/
namespace Go.Proofs.YtnddkmccagiclaaDoor
open Go.RowKit

theorem bindL_map {α β : Type} (g : α → β) (f : β → Nat → Option Nat) : ∀ (l : List α) (r : Nat), bindL f (l.map g) r = bindL (fun y r' => f (g y) r') l r
  | [], r => rfl
  | x :: l, r => by
    simp only [List.map_cons, bindL]
    cases f (g x) r with
    | none => rfl
    | some q => exact bindL_map g f l q

theorem bindL_le {α : Type} (f : α → Nat → Option Nat) (hf : ∀ y q q', f y q = some q' → q' ≤ q) : ∀ (l : List α) (r r' : Nat), bindL f l r = some r' → r' ≤ r
  | [], r, r', h => by simp [bindL] at h; omega
  | x :: l, r, r', h => by
    simp only [bindL] at h
    cases hq : f x r with
    | none => rw [hq] at h; cases h
    | some q =>
      rw [hq] at h
      have := hf x r q hq
      have := bindL_le f hf l q r' h
      omega

theorem goodS_le (ar : Int) : ∀ (n : Nat) (ins : Int) (x : Tm) (r r' : Nat), goodS ar n ins x r = some r' → r' ≤ r
  | 0, _, _, _, _, h => by simp [goodS] at h
  | n + 1, ins, x, 0, _, h => by simp [goodS] at h
  | n + 1, ins, x, r + 1, r', h => by
    simp only [goodS] at h
    split at h
    · have := bindL_le _ (fun y q q' h => goodS_le ar n (insOf x.k ins) y q q' h) x.l r r' h
      omega
    · cases h

theorem parts_le (k : Int) : partsOf k ≤ 3 := by
  unfold partsOf
  repeat' split
  all_goals omega

theorem goodW_any (R : Nat) (ar : Int) (hR : 3 ≤ R) (n : Nat) : n ≤ 500 → ∀ (ins : Nat) (x : TT) (r : Nat) (w : World), r ≤ n → ins + n ≤ 1000 → Gp w → WS R ar r w → x.In w → x.Bl (· ≠ R) → x.nb →
    Calls Tryd.prog 50 #[.pointer (some ⟨R, 0, none⟩), .agg #[.int .i64 x.k, .int .i64 x.n, .int .i64 x.t.k, .slice x.t.a x.t.l.length x.t.c, .int .i64 x.f.k, .slice x.f.a x.f.l.length x.f.c, .slice x.a x.l.length x.c], .int .i64 (ins : Int)] w (GoodPost R ar (goodS ar n (ins : Int) x.tm r) w) := by
  induction n with
  | zero =>
    intro _ ins x r w hr _ _ hw _ _ _
    obtain rfl : r = 0 := by omega
    exact goodW_none R ar _ x w hw
  | succ n ih =>
    intro hn ins x r w hr hi hg hw hx hbl hnb
    cases r with
    | zero => exact goodW_none R ar _ x w hw
    | succ r =>
      have e : goodS ar (n + 1) (ins : Int) x.tm (r + 1) = if okTop ar (ins : Int) x.tm = true then bindL (fun (y : TT) r' => goodS ar n (insOf x.k (ins : Int)) y.tm r') x.l r else none := by
        rw [goodS, TT.tm_l, TT.tm_k, bindL_map]
      rw [e]
      have ho : okTop ar (ins : Int) x.tm = ((decide (1 ≤ x.k) && decide (x.k ≤ 9) && (x.l.length == partsOf x.k)) && (okTypes x.k x.t.ty x.f.ty && okNum ar (ins : Int) x.k x.n)) := by
        rw [okTop, TT.tm_l, TT.tm_k, TT.tm_n, TT.tm_t, TT.tm_f, List.length_map]
      rw [ho]
      by_cases h1 : (decide (1 ≤ x.k) && decide (x.k ≤ 9) && (x.l.length == partsOf x.k)) = true
      · have h1' := h1
        simp only [Bool.and_eq_true, decide_eq_true_eq, beq_iff_eq] at h1'
        obtain ⟨⟨hk1, hk2⟩, hlen⟩ := h1'
        have hp := parts_le x.k
        by_cases h2 : (okTypes x.k x.t.ty x.f.ty && okNum ar (ins : Int) x.k x.n) = true
        · rw [h1, h2, Bool.and_self, if_pos rfl]
          simp only [Bool.and_eq_true] at h2
          by_cases h7 : x.k = 7
          · refine goodW_top R ar n r (by omega) ins (by omega) x w hg hR hw (by omega) hx hbl hnb hk1 hk2 hlen h2.1 h2.2 true (by simp [h7]) (ins + 1) (by simp) ?_ ?_
            · intro j hj q W hq hgW hwW hxW
              have := ih (by omega) (ins + 1) x.l[j] q W (by omega) (by omega) hgW hwW hxW (hbl.mem (List.getElem_mem hj)) (hnb.mem (List.getElem_mem hj))
              have e : insOf x.k (ins : Int) = ((ins + 1 : Nat) : Int) := by rw [insOf, if_pos h7]; omega
              rw [e]
              exact this
            · intro y q q' _ h
              exact goodS_le _ _ _ _ _ _ h
          · refine goodW_top R ar n r (by omega) ins (by omega) x w hg hR hw (by omega) hx hbl hnb hk1 hk2 hlen h2.1 h2.2 false (by simp [h7]) ins (by simp) ?_ ?_
            · intro j hj q W hq hgW hwW hxW
              have := ih (by omega) ins x.l[j] q W (by omega) (by omega) hgW hwW hxW (hbl.mem (List.getElem_mem hj)) (hnb.mem (List.getElem_mem hj))
              have e : insOf x.k (ins : Int) = (ins : Int) := by rw [insOf, if_neg h7]
              rw [e]
              exact this
            · intro y q q' _ h
              exact goodS_le _ _ _ _ _ _ h
        · have h2' : (okTypes x.k x.t.ty x.f.ty && okNum ar (ins : Int) x.k x.n) = false := by simpa using h2
          rw [h2', Bool.and_false, if_neg (by simp)]
          exact goodW_bad2 R ar r (by omega) ins (by omega) x w hg hR hw hx hbl hnb hk1 hk2 hlen h2'
      · have h1' : (decide (1 ≤ x.k) && decide (x.k ≤ 9) && (x.l.length == partsOf x.k)) = false := by simpa using h1
        rw [h1', Bool.false_and, if_neg (by simp)]
        exact goodW_bad1 R ar r (by omega) _ x w hg hR hw h1'

/-- Is it good within so many functions? -/
def goodM (ar : Int) (x : Tm) : Bool := (goodS ar 40 0 x 40).isSome

set_option maxHeartbeats 400000 in
/-- term.Good. -/
theorem goodTm_any (x : TT) (ar : Int) (w : World) (hg : Gp w) (hx : x.In w) (hnb : x.nb) :
    Calls Tryd.prog 32 #[.agg #[.int .i64 x.k, .int .i64 x.n, .int .i64 x.t.k, .slice x.t.a x.t.l.length x.t.c, .int .i64 x.f.k, .slice x.f.a x.f.l.length x.f.c, .slice x.a x.l.length x.c], .int .i64 ar] w fun e w' => e = .returned (.bool (goodM ar x.tm)) ∧ Below w.heap.size w w' := by
  have hgs := hg.size
  have hb0 : ∀ o, Below w.heap.size w (w.alloc o) := fun o => (Below.refl _ _).alloc (Nat.le_refl _) _
  have hb1 : ∀ o o', Below w.heap.size w ((w.alloc o).alloc o') := fun o o' => (hb0 o).alloc (by simp) _
  have HC : Hid (∀ W, Below w.heap.size w W → WS (w.heap.size + 1) ar 40 W → Calls Tryd.prog 50 #[.pointer (some ⟨w.heap.size + 1, 0, none⟩), .agg #[.int .i64 x.k, .int .i64 x.n, .int .i64 x.t.k, .slice x.t.a x.t.l.length x.t.c, .int .i64 x.f.k, .slice x.f.a x.f.l.length x.f.c, .slice x.a x.l.length x.c], .int .i64 0] W (GoodPost (w.heap.size + 1) ar (goodS ar 40 0 x.tm 40) W)) := by
    intro W hW hws
    exact goodW_any (w.heap.size + 1) ar (by omega) 40 (by omega) 0 x 40 W (Nat.le_refl _) (by omega) (hg.below hW) hws (hx.below hW) (hx.bl.mono fun b h => by omega) hnb
  have HB : Hid (∀ o o', Below w.heap.size w ((w.alloc o).alloc o')) := hb1
  clear hb0 hb1 hg hx hnb
  go_enter Tryd.func32, Tryd.ntmps32
  go_wp2_with fail
  refine (HC.out _ (HB.out _ _) ⟨by simp [go_sem], by simp [go_sem], by simp [go_sem]⟩).mono ?_
  rintro e w1 ⟨r, rfl, _, _, hk⟩
  have HF : Hid (Below w.heap.size w w1) := by
    have hs : ((w.alloc (.cells #[.int .i64 x.k, .int .i64 x.n, .int .i64 x.t.k, .slice x.t.a x.t.l.length x.t.c, .int .i64 x.f.k, .slice x.f.a x.f.l.length x.f.c, .slice x.a x.l.length x.c] 27)).alloc (.cells #[.int .i64 ar, .int .i64 40] 82)).heap.size = w.heap.size + 2 := by simp
    have := hk.size
    rw [hs] at this
    refine (HB.out (.cells #[.int .i64 x.k, .int .i64 x.n, .int .i64 x.t.k, .slice x.t.a x.t.l.length x.t.c, .int .i64 x.f.k, .slice x.f.a x.f.l.length x.f.c, .slice x.a x.l.length x.c] 27) (.cells #[.int .i64 ar, .int .i64 40] 82)).trans ?_
    exact ⟨hk.os, hk.tape, hk.output, hk.size, fun k h => hk.block k (by rw [hs]; omega) (by omega) (by simp)⟩
  clear hk
  go_wp2_with fail
  go_ret
  exact ⟨rfl, HF.out⟩
end Go.Proofs.YtnddkmccagiclaaDoor

/-
  What the calls of (*reader).readTermInBrackets and (*reader).readTerm do, whatever words are left.
-/
namespace Go.Proofs.YtnddkmccagiclaaDoor
open Go.RowKit

theorem kindAt_range {y : ByteArray} {k : Nat} (h : kindAt y = some k) : 4 ≤ k ∧ k ≤ 9 := by
  simp only [kindAt, kindWs, atWord] at h
  repeat' split at h
  all_goals first
    | (cases h; omega)
    | cases h

set_option maxRecDepth 20000 in
set_option maxHeartbeats 8000000 in
/-- The word is one of the words. -/
theorem brack_good (R n : Nat) (y : ByteArray) (k : Nat) (hy : kindAt y = some k) (r1 : List ByteArray) (b : Bool) (w : World) (hg : Gl w) (hR : 10 ≤ R) (h : RS R (y :: r1) b w) (hn : r1.length < n) (hsm : SmW r1)
    (ih : Hid (∀ (ws : List ByteArray) (b : Bool) (w : World), ws.length < n → SmW ws → Gl w → RS R ws b w → Calls Tryd.prog 35 #[.pointer (some ⟨R, 0, none⟩)] w (TmPost R b (readTm n ws) w))) :
    Calls Tryd.prog 58 #[.pointer (some ⟨R, 0, none⟩)] w (TmPost R b (inTm n (y :: r1)) w) := by
  obtain ⟨i0, hi0, hz0, hz1, hz2⟩ := info_parts Tryd.info27
  have HN : Hid (Calls Tryd.prog 57 #[.pointer (some ⟨R, 0, none⟩)] (w7 w) fun e w' => e = .returned (.string y) ∧ RS R r1 b w' ∧ Kept R none (w7 w) w') := next_cons R y r1 b _ (h.below (w7_below w))
  have hRl := h.lt
  have HG : Hid (Gl (w7 w)) := hg.below (w7_below w)
  have hkr := kindAt_range hy
  have HY : Hid (kindAt y = some k) := hy
  have HL : Hid (r1.length < n ∧ SmW r1) := ⟨hn, hsm⟩
  have hpl := parts_le (k : Int)
  have HP3 : Hid (partsOf (k : Int) ≤ 3) := hpl
  clear hg h hn hsm
  obtain ⟨P, hP⟩ : ∃ P, partsOf (k : Int) = P := ⟨_, rfl⟩
  have HP : Hid (partsOf (k : Int) = P) := hP
  have hPl : (P : Int) ≤ 3 := by rw [← hP]; omega
  clear hP hpl
  go_enter Tryd.func58, Tryd.ntmps58
  go_wp2_with fail
  refine HN.out.mono ?_
  rintro e w1 ⟨rfl, hr, hk⟩
  have hne : w.heap.size ≠ R := by omega
  have HT : Hid (Calls Tryd.prog 84 #[.string y] w1 fun e w' => e = .returned (.tuple #[.int .i64 (k : Int), .bool true]) ∧ w' = w1) := by
    have := kindOf_any y w1 (HG.out.kept hR hk)
    rw [hy] at this
    exact this
  have hres1 : Box7 w1 w.heap.size (tleaf 0 0) := (box7_alloc w).kept hk hne
  have hs1 : w.heap.size < w1.heap.size := hres1.lt
  have HD : Hid (Kept R none w w1 ∧ Box7 w1 w.heap.size (tleaf 0 0) ∧ RS R r1 b w1 ∧ Gl w1) := ⟨(Kept.of_below (w7_below w)).trans hk, hres1, hr, HG.out.kept hR hk⟩
  clear hr hk HN HG hy hres1
  have HK : Hid (∀ w, Calls Tryd.prog 52 #[.int .i64 (k : Int)] w fun e w' => e = .returned (.bool (tells (k : Int))) ∧ w' = w) := tells_any (k : Int)
  -- the box of the term
  obtain ⟨O, hO⟩ : ∃ O, O = Obj.cells #[.int .i64 (k : Int), .int .i64 0, .int .i64 0, .slice none 0 0, .int .i64 0, .slice none 0 0, .slice none 0 0] 27 := ⟨_, rfl⟩
  have hb2 : Below w1.heap.size w1 (w1.alloc O) := (Below.refl _ _).alloc (Nat.le_refl _) _
  have hbx2 : Box7 (w1.alloc O) w1.heap.size ⟨(k : Int), 0, leaf 0, leaf 0, none, 0, []⟩ := by
    subst hO
    refine ⟨⟨?_, ?_, ?_, ?_, ?_, ?_, ?_⟩, fun i hi => ?_⟩
    · simp [go_sem]
    · simp [go_sem]
    · simp [go_sem, leaf]
    · simp [go_sem, leaf]
    · simp [go_sem, leaf]
    · simp [go_sem, leaf]
    · simp [go_sem]
    · simp [go_sem]
  have HE : Hid (Kept R none w (w1.alloc O) ∧ Box7 (w1.alloc O) w.heap.size (tleaf 0 0) ∧ RS R r1 b (w1.alloc O) ∧ Gl (w1.alloc O) ∧ Box7 (w1.alloc O) w1.heap.size ⟨(k : Int), 0, leaf 0, leaf 0, none, 0, []⟩) :=
    ⟨HD.out.1.trans (Kept.of_below hb2), HD.out.2.1.below hb2, HD.out.2.2.1.below hb2, HD.out.2.2.2.below hb2, hbx2⟩
  have hs2 : (w1.alloc O).heap.size = w1.heap.size + 1 := by simp
  obtain ⟨bt, hbt⟩ : ∃ bt, tells (k : Int) = bt := ⟨_, rfl⟩
  rw [hbt] at HK
  have HBT : Hid (tells (k : Int) = bt) := hbt
  clear hbt hbx2 hb2 HD
  cases bt
  rotate_left
  focus
    have HTY : Hid (Calls Tryd.prog 85 #[.pointer (some ⟨R, 0, none⟩)] (w1.alloc O) (TyPost R b (readTy n r1) (w1.alloc O))) := readType_any R hR n r1 b _ HL.out.1 HE.out.2.2.2.1 HE.out.2.2.1
    have HRT : Hid (readT n k r1 = readTy n r1) := by show _ = _; unfold readT; rw [HBT.out]; rfl
    have hpk : 0 < partsOf (k : Int) := by
      have := HBT.out
      simp only [tells, Bool.or_eq_true, beq_iff_eq] at this
      rcases this with e | e <;> rw [e] <;> decide
    have HPK : Hid (0 < partsOf (k : Int)) := hpk
    clear hpk
    have i1 : (0 : Int) ≤ (k : Int) := by omega
    have i2 : (k : Int) < 10 := by omega
    subst hO
    go_wp2_with fail
    refine HT.out.mono ?_
    rintro e w2 ⟨rfl, rfl⟩
    go_wp2_with fail
    refine (HK.out _).mono ?_
    rintro e w2 ⟨rfl, rfl⟩
    go_wp2_with fail
    refine HTY.out.mono ?_
    rintro e w3 ⟨t, rfl, hit, hblt, hk3, hA3, het⟩
    obtain ⟨ws1, b1, hr3, hs3⟩ := hA3.letters
    have hneJ : w2.heap.size ≠ R := by omega
    have hbx3 := HE.out.2.2.2.2.kept hk3 hneJ
    have hsz3 : w2.heap.size < w3.heap.size := hbx3.lt
    have hkJ : Kept w2.heap.size none w3 ((w3.setCell ⟨w2.heap.size, 2, none⟩ (.int .i64 t.k)).setCell ⟨w2.heap.size, 3, none⟩ (.slice t.a t.l.length t.c)) := set23_kept
    have hszW : ((w3.setCell ⟨w2.heap.size, 2, none⟩ (.int .i64 t.k)).setCell ⟨w2.heap.size, 3, none⟩ (.slice t.a t.l.length t.c)).heap.size = w3.heap.size := by simp [World.setCell]
    have hgl3 : Gl w3 := HE.out.2.2.2.1.kept hR hk3
    have HLB0 : Hid (LB R w.heap.size w2.heap.size w3.heap.size k n ws1 b1 t w 0 (.slice none 0 0) [] ws1 b1 ((w3.setCell ⟨w2.heap.size, 2, none⟩ (.int .i64 t.k)).setCell ⟨w2.heap.size, 3, none⟩ (.slice t.a t.l.length t.c))) := by
      have hst : StepR ((readTy n r1).map (·.2)) b ws1 b1 := hs3
      refine ⟨Row.nil _ _, rfl, ⟨none, 0, rfl, hbx3.set23⟩, (HE.out.2.1.kept hk3 hne).kept hkJ (by omega), hr3.new hkJ (by omega), (HE.out.1.trans hk3).new hkJ (by omega), InvN.start _ _ _ _, hit.keptR hkJ (hblt.mono fun b hb => by simp at hb; omega), (hit.bl.and hblt).mono (fun b hb => ⟨by have := hb.2; simp at this; omega, hb.1⟩), hgl3.kept (by omega) hkJ, HL.out.2.step hst (fun r hr => by obtain ⟨p, hp, rfl⟩ := Option.map_eq_some_iff.1 hr; exact readTy_suf n _ _ hp), ?_, by rw [hszW]; exact Nat.le_refl _⟩
      refine Nat.lt_of_le_of_lt (hst.len (N := r1.length) fun r hr => ?_) HL.out.1
      obtain ⟨p, hp, rfl⟩ := Option.map_eq_some_iff.1 hr
      exact Nat.le_of_lt (readTy_len n _ _ hp)
    have HS : Hid (StepR ((readT n k r1).map (·.2)) b ws1 b1 ∧ (∀ p, readT n k r1 = some p → t.ty = p.1) ∧ (readT n k r1 = none → 0 < partsOf (k : Int))) := by
      show _ ∧ _
      rw [HRT.out]
      exact ⟨hs3, het, fun _ => HPK.out⟩
    have hp : w3.cell? ⟨2, k, none⟩ = some (.int .i64 (P : Int)) := by
      rw [← HP.out]
      exact parts_cell hgl3.gp (k : Int) (by omega) (by omega)
    have h2J : (2 : Nat) ≠ w2.heap.size := by omega
    have q2 := hbx3.at7.c2
    have q3 := hbx3.at7.c3
    simp only [Nat.zero_add, leaf] at q2 q3
    have g2 := hbx3.fz 2 (by omega)
    have g3 := hbx3.fz 3 (by omega)
    obtain ⟨B, hB⟩ : ∃ B, w3.heap.size = B := ⟨_, rfl⟩
    have hJB : w2.heap.size < B := by omega
    rw [hB] at HLB0
    clear hB hs2 hit hblt hk3 hA3 het hr3 hs3 hbx3 hkJ hszW hgl3 HTY
    go_wp2_with fail
  rotate_left
  focus
    have HLB : Hid (∃ (t : Tr) (ws1 : List ByteArray) (b1 : Bool), LB R w.heap.size w1.heap.size (w1.alloc O).heap.size k n ws1 b1 t w 0 (.slice none 0 0) [] ws1 b1 (w1.alloc O) ∧ StepR ((readT n k r1).map (·.2)) b ws1 b1 ∧ (∀ p, readT n k r1 = some p → t.ty = p.1) ∧ (readT n k r1 = none → 0 < partsOf (k : Int))) := by
      have e : readT n k r1 = some (anyY, r1) := by unfold readT; rw [HBT.out]; rfl
      refine ⟨leaf 0, r1, b, ⟨Row.nil _ _, rfl, ⟨none, 0, rfl, HE.out.2.2.2.2⟩, HE.out.2.1, HE.out.2.2.1, HE.out.1, InvN.start _ _ _ _, leaf_in _ _, leaf_bl _ _, HE.out.2.2.2.1, HL.out.2, HL.out.1, Nat.le_refl _⟩, ?_, ?_, ?_⟩
      · rw [e]; exact .inl ⟨rfl, rfl⟩
      · intro p hp; rw [e] at hp; cases hp; exact leaf_ty 0
      · intro hp; rw [e] at hp; cases hp
    obtain ⟨t, ws1, b1, hlb, hst, het, hdd⟩ := HLB.out
    have HS : Hid (StepR ((readT n k r1).map (·.2)) b ws1 b1 ∧ (∀ p, readT n k r1 = some p → t.ty = p.1) ∧ (readT n k r1 = none → 0 < partsOf (k : Int))) := ⟨hst, het, hdd⟩
    have HLB0 : Hid (LB R w.heap.size w1.heap.size (w1.alloc O).heap.size k n ws1 b1 t w 0 (.slice none 0 0) [] ws1 b1 (w1.alloc O)) := hlb
    clear hst het hdd hlb HLB
    have hp : (w1.alloc O).cell? ⟨2, k, none⟩ = some (.int .i64 (P : Int)) := by
      rw [← HP.out]
      exact parts_cell HE.out.2.2.2.1.gp (k : Int) (by omega) (by omega)
    obtain ⟨B, hB⟩ : ∃ B, (w1.alloc O).heap.size = B := ⟨_, rfl⟩
    have hJB : w1.heap.size < B := by rw [← hB, hs2]; omega
    rw [hB] at HLB0
    clear hB hs2
    have i1 : (0 : Int) ≤ (k : Int) := by omega
    have i2 : (k : Int) < 10 := by omega
    subst hO
    go_wp2_with fail
    refine HT.out.mono ?_
    rintro e w2 ⟨rfl, rfl⟩
    go_wp2_with fail
    refine (HK.out _).mono ?_
    rintro e w2 ⟨rfl, rfl⟩
    go_wp2_with fail
  all_goals
    go_loopg [27] P (fun g i wr => ∃ (j : Nat) (v : Value) (cs : List TT) (ws' : List ByteArray) (b' : Bool), g + j = P ∧ i = .int .i64 (j : Int) ∧ Hid (LB R w.heap.size w2.heap.size B k n ws1 b1 t w j v cs ws' b' wr))
    case atStart => exact ⟨0, _, _, _, _, by omega, rfl, HLB0⟩
    case round =>
      obtain ⟨j, v, cs, ws', b', hj, rfl, HQ⟩ := hrel
      have hJR : w2.heap.size ≠ R := by omega
      have hclen : cs.length = j := HQ.out.len
      by_cases hlt : j < P
      · have hb1 : Below wr.heap.size wr wr.drew := (Below.refl _ _).drew
        have HI : Hid (Calls Tryd.prog 35 #[.pointer (some ⟨R, 0, none⟩)] wr.drew (TmPost R b' (readTm n ws') wr.drew)) := ih.out ws' b' _ HQ.out.small HQ.out.sm (HQ.out.gl.below hb1) (HQ.out.rs.below hb1)
        have HRW : Hid (Row B v cs wr.drew) := HQ.out.row.below hb1
        obtain ⟨a, c, hv, hbx⟩ := HQ.out.box
        have u1 : wr.drew.cell? ⟨w2.heap.size, 6, none⟩ = some v := by rw [hv]; exact hbx.at7.c6
        have uf : wr.drew.frozen? ⟨w2.heap.size, 6, none⟩ = false := hbx.fz 6 (by omega)
        have uo : wr.drew.ownsRow B 27 7 v cs.length (cells7 cs) := HRW.out.own
        have us : w2.heap.size < wr.drew.heap.size := World.block_lt_of_cell? _ _ u1
        have hnv : v.ownBlock ≠ some w2.heap.size := fun e => by have := (HQ.out.row.lt _ e).1; omega
        have hszB : B ≤ wr.heap.size := HQ.out.size
        have hcl3 : cs.length ≤ 3 := by omega
        have hRB : R < B := by omega
        clear hv hbx
        have hJP : j < partsOf (k : Int) := by rw [HP.out]; exact hlt
        have HJP : Hid (j < partsOf (k : Int)) := hJP
        have HJ : Hid (j + 1 ≤ P ∧ gk + j = P) := ⟨hlt, hj⟩
        clear hJP hj hp hclen
        go_wp2_with fail
        go_region_law
          (first
            | (go_simp; go_at_call 35; refine HI.out.mono ?_; rintro e w5 ⟨x, rfl, hin, hbl, hk5, hA5, he5⟩; replace u1 := hk5.cell u1 hJR; replace uf := hk5.fz uf us hJR; replace uo := (HRW.out.kept hk5 hRB).own; replace us : w2.heap.size < w5.heap.size := World.block_lt_of_cell? _ _ u1; have hnew := heap_alloc_new w5 (.cells #[.int .i64 x.k, .int .i64 x.n, .int .i64 x.t.k, .slice x.t.a x.t.l.length x.t.c, .int .i64 x.f.k, .slice x.f.a x.f.l.length x.f.c, .slice x.a x.l.length x.c] 27); have un : w2.heap.size ≠ w5.heap.size := Nat.ne_of_lt us; go_wp2_with fail)
            | (refine step_append_lies _ (by rfl) _ _ _ (by rfl) B 27 i0 _ 7 104 Tryd.underlying25 hi0 hz0 hz1 hz2 rfl (by omega) v cs.length (cells7 cs) (by rfl) (uo.alloc _)
                  ⟨w5.heap.size, 0, none⟩ 1 1 [.int .i64 x.k, .int .i64 x.n, .int .i64 x.t.k, .slice x.t.a x.t.l.length x.t.c, .int .i64 x.f.k, .slice x.f.a x.f.l.length x.f.c, .slice x.a x.l.length x.c] (by rfl) (by rfl) (World.news_of_block (cs := #[.int .i64 x.k, .int .i64 x.n, .int .i64 x.t.k, .slice x.t.a x.t.l.length x.t.c, .int .i64 x.f.k, .slice x.f.a x.f.l.length x.f.c, .slice x.a x.l.length x.c]) (t := 27) (fr := (0, 0)) hnew) (by simp [Value.oneCell'])
                  (by omega) (by unfold maxLen; omega) (by omega) (by have := hk5.size; simp at this ⊢; omega) (w5.heap.size + 1) (by simp) ?_; intro gg cap1 w6 hown1 hgrow hat hlt3; have hcr : w6.cell? ⟨w2.heap.size, 6, none⟩ = some v := (by rw [hgrow.cell_far _ (by simp; omega) (Ne.symm hnv)]; exact cell_later ((Below.refl _ _).alloc (Nat.le_refl _) _) u1); have hfr : w6.frozen? ⟨w2.heap.size, 6, none⟩ = false := (by rw [hgrow.frozen_far _ (by simp; omega) (Ne.symm hnv)]; exact (((Below.refl _ _).alloc (Nat.le_refl _) _).frozen (p := ⟨w2.heap.size, 6, none⟩) us).trans uf)))
        all_goals
          obtain ⟨ws'', b'', hr5, hs5⟩ := hA5.letters
          have HN : Hid (LB R w.heap.size w2.heap.size B k n ws1 b1 t w (j + 1) (.slice (some ⟨gg, 0, none⟩) (cs.length + 1) cap1) (cs ++ [x]) ws'' b'' (w6.setCell ⟨w2.heap.size, 6, none⟩ (.slice (some ⟨gg, 0, none⟩) (cs.length + 1) cap1))) :=
            HQ.out.step hRl hs1 hJB (Nat.le_refl _) hR HJP.out hin (hbl.mono fun b hb => by simpa using hb) ((Kept.of_below hb1).trans hk5) hr5 hs5 he5 hown1 hgrow hat
          clear hown1 hgrow hat hcr hfr hin hbl hk5 hA5 he5 hr5 hs5 uo uf u1 us HI HRW HQ hnew un hb1
          go_wp2_with fail
          go_roundg (P - (j + 1))
          case measure => have := HJ.out; omega
          case rel => exact ⟨j + 1, _, _, _, _, by have := HJ.out; omega, by go_num, HN⟩
      · have hjP : j = P := by omega
        have HW : Hid (Calls Tryd.prog 86 #[.pointer (some ⟨R, 0, none⟩), .string ⟨#[41]⟩] wr fun e w' => e = .returned (.tuple #[]) ∧ After R b' (behind clB ws') w' ∧ Kept R none wr w') := want_any R clB (by decide) ws' b' _ HQ.out.rs
        have HJP : Hid (j = P) := hjP
        clear hp hclen hj hjP
        go_wp2_with fail
        refine HW.out.mono ?_
        rintro e w5 ⟨rfl, hA5, hk5⟩
        obtain ⟨ws3, b3, hr5, hs5⟩ := hA5.letters
        obtain ⟨a, c, hv, hbx⟩ := HQ.out.box
        have hszB : B ≤ wr.heap.size := HQ.out.size
        obtain ⟨a', c', hv', htree⟩ := (HQ.out.row.kept hk5 (by omega)).tree
        rw [hv] at hv'
        obtain ⟨rfl, rfl⟩ : a = a' ∧ c = c' := by cases hv'; exact ⟨rfl, rfl⟩
        have hbx5 := hbx.kept hk5 hJR
        have hres5 := HQ.out.res.kept hk5 hne
        have hti := htree (k : Int) 0 t (leaf 0) (HQ.out.tin.keptR hk5 (HQ.out.tbl.mono fun b hb => by omega)) (leaf_in _ _)
        have hbl := hti.2 (fun b => w.heap.size < b) (fun b hb => by omega) (HQ.out.tbl.mono fun b hb => by omega) (leaf_bl _ _)
        have hfin := inTm_steps HY.out HS.out.1 HS.out.2.1 (by have := HQ.out.inv; rw [HJP.out, ← HP.out] at this; exact this) hs5 HS.out.2.2
        have htm : (TT.mk (k : Int) 0 t (leaf 0) a c cs).tm = ⟨(k : Int), 0, t.ty, anyY, cs.map TT.tm⟩ := by rw [TT.tm_mk, leaf_ty]; rfl
        have HE5 : Hid (TmPost R b (inTm n (y :: r1)) w (.returned (.agg #[.int .i64 (k : Int), .int .i64 0, .int .i64 t.k, .slice t.a t.l.length t.c, .int .i64 0, .slice none 0 0, .slice a cs.length c])) (put7 w5 w.heap.size (TT.mk (k : Int) 0 t (leaf 0) a c cs))) :=
          (tm_end (x := TT.mk (k : Int) 0 t (leaf 0) a c cs) hres5 (Nat.le_refl _) hRl hti.1 hbl (HQ.out.kept.trans hk5) hr5 hfin.1 (fun p hp => by rw [htm]; exact hfin.2 p hp)).1
        have HGT := put7_gets (x := TT.mk (k : Int) 0 t (leaf 0) a c cs) hres5
        have h7 := hbx5.at7
        have c0 := h7.c0
        have c1 := h7.c1
        have c2 := h7.c2
        have c3 := h7.c3
        have c4 := h7.c4
        have c5 := h7.c5
        have c6 := h7.c6
        simp only [Nat.zero_add, leaf] at c0 c1 c2 c3 c4 c5 c6
        have r7 := hres5.at7
        have e0 := r7.c0
        have e1 := r7.c1
        have e2 := r7.c2
        have e3 := r7.c3
        have e4 := r7.c4
        have e5 := r7.c5
        have e6 := r7.c6
        simp only [Nat.zero_add, tleaf] at e0 e1 e2 e3 e4 e5 e6
        have f0 := hres5.fz 0 (by omega)
        have f1 := hres5.fz 1 (by omega)
        have f2 := hres5.fz 2 (by omega)
        have f3 := hres5.fz 3 (by omega)
        have f4 := hres5.fz 4 (by omega)
        have f5 := hres5.fz 5 (by omega)
        have f6 := hres5.fz 6 (by omega)
        have HGT' : Hid _ := HGT
        clear h7 r7 hA5 hk5 hr5 hs5 hv hv' hbx htree hbx5 hres5 hti hbl hfin htm HQ HW HGT
        go_wp2_with fail
        refine bodyPost_ret (v := .agg #[.int .i64 (k : Int), .int .i64 0, .int .i64 t.k, .slice t.a t.l.length t.c, .int .i64 0, .slice none 0 0, .slice a cs.length c]) ?_ rfl HE5.out
        obtain ⟨d0, d1, d2, d3, d4, d5, d6⟩ := HGT'.out
        simp only [leaf, List.length_nil] at d0 d1 d2 d3 d4 d5 d6
        simp [results, Tryd.results58, go_sem, d0, d1, d2, d3, d4, d5, d6]

/-- (*reader).readTerm. -/
theorem readTerm_any (R : Nat) (hR : 10 ≤ R) (n : Nat) : ∀ (ws : List ByteArray) (b : Bool) (w : World), ws.length < n → SmW ws → Gl w → RS R ws b w →
    Calls Tryd.prog 35 #[.pointer (some ⟨R, 0, none⟩)] w (TmPost R b (readTm n ws) w) := by
  induction n with
  | zero => intro ws b w h; omega
  | succ n ih =>
    intro ws b w hn hsm hg h
    cases ws with
    | nil => exact readTerm_nil R (n + 1) b w hg hR h
    | cons x r =>
      by_cases hx : x = opB
      · subst hx
        rw [readTm_open]
        refine readTerm_open R n r b w hR hg h (fun w hg h => ?_)
        have hsr : SmW r := fun x hx => hsm x (by simp [hx])
        cases r with
        | nil =>
          exact brack_bad R ⟨#[]⟩ (by decide) [] b true w hg hR h.lt (next_nil R b _ (h.below (w7_below w)))
        | cons y r1 =>
          cases hy : kindAt y with
          | none =>
            have e : inTm n (y :: r1) = none := by simp [inTm, hy]
            rw [e]
            exact brack_bad R y hy r1 b b w hg hR h.lt (next_cons R y r1 b _ (h.below (w7_below w)))
          | some k => exact brack_good R n y k hy r1 b w hg hR h (by simp at hn; omega) (fun x hx => hsr x (by simp [hx])) ih
      · exact readTerm_word R n x (hsm x (by simp)) r hx b w hg hR h
end Go.Proofs.YtnddkmccagiclaaDoor

/-
  What the calls of term.isSpace and term.cut answer: the words of a text.
-/
namespace Go.Proofs.YtnddkmccagiclaaDoor
open Go.RowKit

theorem replaceK_skip (c b : UInt8) (new : List UInt8) (h : b ≠ c) : ∀ (n : Nat) (l : List UInt8), n ≤ Lib.count l [c] → Lib.replaceK [c] new n (b :: l) = b :: Lib.replaceK [c] new n l
  | 0, l, _ => rfl
  | n + 1, l, hn => by
    obtain ⟨j, hj⟩ := Lib.index_of_count (s := l) (old := [c]) (by omega)
    have hp : ([c] : List UInt8).isPrefixOf (b :: l) = false := by simp [List.isPrefixOf, Ne.symm h]
    have hj' : Lib.index (b :: l) [c] = ((j + 1 : Nat) : Int) := by
      rw [Lib.index, hp]
      simp only [Bool.false_eq_true, if_false]
      rw [if_neg (by rw [hj]; simp), hj]
      omega
    rw [Lib.replaceK_hit _ _ _ _ _ hj', Lib.replaceK_hit _ _ _ _ _ hj]
    have e : j + 1 + [c].length = (j + [c].length) + 1 := by omega
    rw [e, List.take_succ_cons, List.drop_succ_cons]
    rfl

theorem replaceK_around (c : UInt8) : ∀ s : List UInt8, Lib.replaceK [c] [32, c, 32] (Lib.count s [c]) s = around c s
  | [] => by rw [Lib.count_one]; rfl
  | b :: l => by
    by_cases h : b = c
    · subst h
      have hi : Lib.index (b :: l) [b] = ((0 : Nat) : Int) := by rw [Lib.index]; simp [List.isPrefixOf]
      rw [Lib.count_cons_eq, Nat.add_comm, Lib.replaceK_hit _ _ _ _ _ hi, around_cons, if_pos rfl]
      have e : 0 + [b].length = 0 + 1 := rfl
      rw [e, List.drop_succ_cons, List.drop_zero, replaceK_around b l]
      simp
    · rw [Lib.count_cons_ne b c l h, replaceK_skip c b _ h _ l (Nat.le_refl _), replaceK_around c l, around_cons, if_neg h]
      rfl

theorem replaceAll_around (c : UInt8) (s : List UInt8) : Lib.replaceAll s [c] [32, c, 32] = around c s := by
  have hne : ([c] == [32, c, 32]) = false := by simp
  have hn : Lib.replaceNum s [c] (-1) = Lib.count s [c] := by rw [Lib.replaceNum, if_pos (.inl (by omega))]
  rw [Lib.replaceAll, Lib.replace, hne, hn]
  exact replaceK_around c s

theorem around_len (c : UInt8) : ∀ s : List UInt8, (around c s).length ≤ 3 * s.length
  | [] => by simp [around]
  | x :: s => by
    rw [around_cons]
    have := around_len c s
    split <;> simp <;> omega

/-- The words of a text. -/
def wordsOf (s : List UInt8) : List ByteArray := (tokW [] s).map bw

theorem fields_words (s : List UInt8) : Lib.goFieldsP spR (bw (around 41 (around 40 s))) = wordsOf s := by
  have h := spans_split (bw (around 41 (around 40 s))) (bw (around 41 (around 40 s))).size 0 none [] (Nat.zero_le _) (by omega) (by intro a h; cases h)
  simp only [List.map_nil, List.nil_append, curOf, List.drop_zero, bw_data] at h
  rw [split_tok] at h
  rw [wordsOf, ← h, Lib.goFieldsP, Lib.spansOfP, List.map_map]
  refine List.map_congr_left fun x _ => ?_
  show _ = bw (bytesOf _ x)
  have e : ((bw (around 41 (around 40 s))).extract x.1 x.2).data.toList = bytesOf (bw (around 41 (around 40 s))) x := by
    rw [Lib.extract_data]
    rfl
  rw [← e]
  rfl

set_option maxHeartbeats 400000 in
/-- term.isSpace. -/
theorem isSpace_any (x : Nat) (w : World) : Calls Tryd.prog 56 #[.int .i32 (x : Int)] w fun e w' => e = .returned (.bool (spR x)) ∧ w' = w := by
  have e1 : ((x : Int) == 32) = (x == 32) := by rw [Bool.eq_iff_iff]; simp; omega
  have e2 : ((x : Int) == 10) = (x == 10) := by rw [Bool.eq_iff_iff]; simp; omega
  cases h : (x == 32) with
  | true =>
    rw [h] at e1
    have HO : Hid (spR x = true) := by show _ = _; simp [spR, h]
    clear e2 h
    go_enter Tryd.func56, Tryd.ntmps56
    go_wp2_with fail
    go_ret
    exact ⟨by rw [HO.out]; rfl, rfl⟩
  | false =>
    rw [h] at e1
    have HO : Hid (spR x = (x == 10)) := by show _ = _; simp [spR, h]
    have HE : Hid (((x : Int) == 10) = (x == 10)) := e2
    clear e2 h
    go_enter Tryd.func56, Tryd.ntmps56
    go_wp2_with fail
    go_ret
    exact ⟨by rw [HO.out, ← HE.out]; rfl, rfl⟩

theorem sp_open : (({ data := #[32] } ++ { data := #[40] } ++ { data := #[32] } : ByteArray)) = ⟨#[32, 40, 32]⟩ := by decide
theorem sp_close : (({ data := #[32] } ++ { data := #[41] } ++ { data := #[32] } : ByteArray)) = ⟨#[32, 41, 32]⟩ := by decide

theorem repl_any (c : UInt8) (s new : ByteArray) (hnew : new = ⟨#[32, c, 32]⟩) (hs : s.size ≤ 100000) (w : World) (hg : Gl w) :
    Calls Tryd.prog 54 #[.string s, .string ⟨#[c]⟩, .string new] w fun e w' => e = .returned (.string (bw (around c s.data.toList))) ∧ Below w.heap.size w w' := by
  obtain ⟨m, hm⟩ := hg.mx
  have hc := hm.cell 0
  have hcb := Lib.countB_le ⟨#[c]⟩ (by show 1 ≤ 1; omega) s.size s (Nat.le_refl _)
  have hns : new.size = 3 := by rw [hnew]; rfl
  have h := Tryd.strings_ReplaceAll s ⟨#[c]⟩ new m w (by omega) (by simpa using hc) (by show 1 ≤ 1; omega) (by rw [hns]; omega)
  have e : Lib.replaceAll s.data.toList (⟨#[c]⟩ : ByteArray).data.toList new.data.toList = around c s.data.toList := by rw [hnew]; exact replaceAll_around c _
  rw [e] at h
  exact h

set_option maxRecDepth 20000 in
set_option maxHeartbeats 1000000 in
/-- term.cut. -/
theorem cut_any (s : ByteArray) (hs : s.size ≤ 1000) (w : World) (hg : Gl w) :
    Calls Tryd.prog 34 #[.string s] w fun e w' => ∃ A, e = .returned (.slice (some ⟨A, 0, none⟩) (wordsOf s.data.toList).length (wordsOf s.data.toList).length) ∧ w.heap.size ≤ A ∧
      w'.ownsRow w.heap.size 9 1 (.slice (some ⟨A, 0, none⟩) (wordsOf s.data.toList).length (wordsOf s.data.toList).length) (wordsOf s.data.toList).length ((wordsOf s.data.toList).map Value.string) ∧ Below w.heap.size w w' := by
  have x0 := idx84_0 (.string ⟨#[40]⟩) (.string ⟨#[41]⟩)
  have x1 := idx84_1 (.string ⟨#[40]⟩) (.string ⟨#[41]⟩)
  go_enter Tryd.func34, Tryd.ntmps34
  go_wp2_with fail
  go_loopg [0, 6] 2 (fun k v i wr => ∃ j : Nat, k + j = 2 ∧ i = .int .i64 (j : Int) ∧ Below w.heap.size w wr ∧ ((j = 0 ∧ v = .string s ∧ wr = w) ∨ (j = 1 ∧ v = .string (bw (around 40 s.data.toList))) ∨ (j = 2 ∧ v = .string (bw (around 41 (around 40 s.data.toList))))))
  case atStart => exact ⟨0, rfl, rfl, Below.refl _ _, .inl ⟨rfl, rfl, rfl⟩⟩
  case round =>
    obtain ⟨j, hj, rfl, hb, ⟨rfl, rfl, rfl⟩ | ⟨rfl, rfl⟩ | ⟨rfl, rfl⟩⟩ := hrel
    · have HR : Hid (Calls Tryd.prog 54 #[.string s, .string ⟨#[40]⟩, .string (⟨#[32]⟩ ++ ⟨#[40]⟩ ++ ⟨#[32]⟩)] wr fun e w' => e = .returned (.string (bw (around 40 s.data.toList))) ∧ Below wr.heap.size wr w') := repl_any 40 s _ sp_open (by omega) wr hg
      clear hg
      go_wp2_with fail
      refine HR.out.mono ?_
      rintro e w1 ⟨rfl, hb1⟩
      go_wp2_with fail
      go_roundg 1
      case measure => omega
      case rel => exact ⟨1, rfl, rfl, hb1, .inr (.inl ⟨rfl, rfl⟩)⟩
    · have hl := around_len 40 s.data.toList
      have hsl : s.data.toList.length = s.size := Array.length_toList
      have hsz : (bw (around 40 s.data.toList)).size ≤ 3000 := by show (around 40 s.data.toList).toArray.size ≤ 3000; simp; omega
      have HR : Hid (Calls Tryd.prog 54 #[.string (bw (around 40 s.data.toList)), .string ⟨#[41]⟩, .string (⟨#[32]⟩ ++ ⟨#[41]⟩ ++ ⟨#[32]⟩)] wr fun e w' => e = .returned (.string (bw (around 41 (around 40 s.data.toList)))) ∧ Below wr.heap.size wr w') := repl_any 41 (bw (around 40 s.data.toList)) _ sp_close (by omega) wr (hg.below hb)
      clear hg hl hsl hsz
      go_wp2_with fail
      refine HR.out.mono ?_
      rintro e w1 ⟨rfl, hb1⟩
      have hb2 := hb.trans (hb1.mono hb.size)
      clear hb1 hb
      go_wp2_with fail
      go_roundg 0
      case measure => omega
      case rel => exact ⟨2, rfl, rfl, hb2, .inr (.inr ⟨rfl, rfl⟩)⟩
    · have hl := around_len 40 s.data.toList
      have hl2 := around_len 41 (around 40 s.data.toList)
      have hsl : s.data.toList.length = s.size := Array.length_toList
      have hsz : (bw (around 41 (around 40 s.data.toList))).size ≤ 9000 := by show (around 41 (around 40 s.data.toList)).toArray.size ≤ 9000; simp; omega
      have HF : Hid (Calls Tryd.prog 55 #[.string (bw (around 41 (around 40 s.data.toList))), .func (.func 56) #[] #[]] wr fun e w' => ∃ A, e = .returned (.slice (some ⟨A, 0, none⟩) (wordsOf s.data.toList).length (wordsOf s.data.toList).length) ∧ wr.heap.size ≤ A ∧
          w'.ownsRow wr.heap.size 9 1 (.slice (some ⟨A, 0, none⟩) (wordsOf s.data.toList).length (wordsOf s.data.toList).length) (wordsOf s.data.toList).length ((wordsOf s.data.toList).map Value.string) ∧ Below wr.heap.size wr w') := by
        have h := Tryd.strings_FieldsFunc_grows 56 #[] (enters_of Tryd.func56 (by kernel_rfl) rfl) spR (bw (around 41 (around 40 s.data.toList))) wr (by omega) (fun W x _ _ => (isSpace_any x W).mono (by rintro e w' ⟨rfl, rfl⟩; exact ⟨rfl, Below.refl _ _⟩))
        rw [fields_words] at h
        exact h
      clear hg hl hl2 hsl hsz
      go_wp2_with fail
      refine HF.out.mono ?_
      rintro e w1 ⟨A, rfl, hA, hown, hb1⟩
      have HE : Hid (w.heap.size ≤ A ∧ w1.ownsRow w.heap.size 9 1 (.slice (some ⟨A, 0, none⟩) (wordsOf s.data.toList).length (wordsOf s.data.toList).length) (wordsOf s.data.toList).length ((wordsOf s.data.toList).map Value.string) ∧ Below w.heap.size w w1) := by
        have hsz := hb.size
        refine ⟨by omega, ⟨hown.1, ?_⟩, hb.trans (hb1.mono hb.size)⟩
        rcases hown.2 with hn | ⟨g, cap, cur, hv, hbg, rest⟩
        · exact .inl hn
        · exact .inr ⟨g, cap, cur, hv, by omega, rest⟩
      clear hA hown hb1 hb HF
      go_wp2_with fail
      go_ret
      exact ⟨A, rfl, HE.out.1, HE.out.2.1, HE.out.2.2⟩
end Go.Proofs.YtnddkmccagiclaaDoor
