/-
  What the call of chaperonelaw.KindTells answers at two trees of not too many nodes.
-/
import Derived.Test.YtaaplpcpifdnfaaTellsTo
namespace Go.Proofs.Ytaaplpcpifdnfaa
open Go.RowKit

set_option maxRecDepth 20000 in
set_option maxHeartbeats 4000000 in
theorem tells_any (x y : Tr) (w : World) (hx : x.In w) (hy : y.In w) (zx : x.sz ≤ 10000000) (zy : y.sz ≤ 10000000) :
    Calls Try.prog 3 #[.agg #[.int .i64 x.k, .slice x.a x.l.length x.c], .agg #[.int .i64 y.k, .slice y.a y.l.length y.c]] w fun e w' => e = .returned (.bool true) ∧ Below w.heap.size w w' := by
  obtain ⟨W0, hW0⟩ : ∃ W0, W0 = (w.alloc (Obj.cells #[.int .i64 x.k, .slice x.a x.l.length x.c] 24)).alloc (Obj.cells #[.int .i64 y.k, .slice y.a y.l.length y.c] 24) := ⟨_, rfl⟩
  have hs0 : W0.heap.size = w.heap.size + 1 + 1 := by rw [hW0]; simp
  have hbw0 : Below w.heap.size w W0 := by rw [hW0]; exact ((Below.refl _ _).alloc (Nat.le_refl _) _).alloc (by simp) _
  have hx0 : x.In W0 := hx.below hbw0
  have hy0 : y.In W0 := hy.below hbw0
  have HK : Hid (∀ w' : World, Below W0.heap.size W0 w' → (w'.cell? ⟨w.heap.size, 0, none⟩ = some (.int .i64 x.k) ∧ w'.cell? ⟨w.heap.size, 1, none⟩ = some (.slice x.a x.l.length x.c) ∧ w'.cell? ⟨w.heap.size + 1, 0, none⟩ = some (.int .i64 y.k) ∧ w'.cell? ⟨w.heap.size + 1, 1, none⟩ = some (.slice y.a y.l.length y.c))) := by
    intro w' h
    refine ⟨cell_later h ?_, cell_later h ?_, cell_later h ?_, cell_later h ?_⟩ <;> (rw [hW0]; simp [go_sem])
  obtain ⟨g, hg⟩ : ∃ g, goodT 4 x = g := ⟨_, rfl⟩
  obtain ⟨s, hs⟩ : ∃ s, relY escSame x.ty y.ty = s := ⟨_, rfl⟩
  have mx := x.sm_sz (by omega)
  have lx := x.hgt_sz
  have K8x : Hid (∀ W, Below W0.heap.size W0 W → Calls Try.prog 8 #[.agg #[.int .i64 x.k, .slice x.a x.l.length x.c]] W (Tre W0 x.ty)) := fun W hb => Tre.of (copy_any 10000000 x W (hx0.below hb) (by omega) (by omega)) hb
  have K7 : Hid (∀ (c : Tr) W, Below W0.heap.size W0 W → c.ty = x.ty → c.In W → Calls Try.prog 7 #[.agg #[.int .i64 c.k, .slice c.a c.l.length c.c]] W (Ans W0 g)) := fun c W hb hc hi => by
    refine Ans.of ?_ hb
    have h := good_any c W hi
    rw [goodT_eq, hc, ← goodT_eq, hg] at h
    exact h
  have K9 : Hid (∀ W, Below W0.heap.size W0 W → Calls Try.prog 9 #[.agg #[.int .i64 x.k, .slice x.a x.l.length x.c]] W (Ans W0 g)) := fun W hb => Ans.of (hg ▸ isType_any 10000000 (by omega) x W (hx0.below hb) (by omega) mx) hb
  have K10 : Hid (∀ W, Below W0.heap.size W0 W → Calls Try.prog 10 #[.agg #[.int .i64 x.k, .slice x.a x.l.length x.c], .agg #[.int .i64 y.k, .slice y.a y.l.length y.c]] W (Ans W0 s)) := fun W hb => Ans.of (hs ▸ same_wholeG x y W (hx0.below hb) (hy0.below hb) (by omega)) hb
  have K11 : Hid (∀ W, Below W0.heap.size W0 W → Calls Try.prog 11 #[.agg #[.int .i64 x.k, .slice x.a x.l.length x.c], .agg #[.int .i64 y.k, .slice y.a y.l.length y.c]] W (Ans W0 s)) := fun W hb => Ans.of (hs ▸ sameType_any 10000000 x y W (hx0.below hb) (hy0.below hb) (by omega) mx) hb
  have K12 : Hid (∀ W, Below W0.heap.size W0 W → Calls Try.prog 12 #[] W (Ans W0 true)) := fun W hb => Ans.of (typesLaw_any W) hb
  have hbn : Below W0.heap.size W0 W0.drew := (Below.refl _ _).drew
  clear hg hs
  go_enter Try.func3, Try.ntmps3
  go_wp2_with fail
  rw [← hW0]
  clear hW0
  go_region_held3 (fun w' => w'.cell? ⟨w.heap.size, 0, none⟩ = some (.int .i64 x.k) ∧ w'.cell? ⟨w.heap.size, 1, none⟩ = some (.slice x.a x.l.length x.c) ∧ w'.cell? ⟨w.heap.size + 1, 0, none⟩ = some (.int .i64 y.k) ∧ w'.cell? ⟨w.heap.size + 1, 1, none⟩ = some (.slice y.a y.l.length y.c))
    (exact HK.out _ hbn)
    (first
      | (go_at_call 8; refine (K8x.out _ hbn).mono ?_; rintro e w1 ⟨c, rfl, hct, hci, hb1⟩; replace hbn := hb1; have HCT : Hid (c.ty = x.ty) := hct; clear hct)
      | (go_at_call 7; refine (K7.out c _ hbn HCT.out hci).mono ?_; rintro e w2 ⟨rfl, hb1⟩; replace hbn := hb1)
      | (go_at_call 9; refine (K9.out _ hbn).mono ?_; rintro e w3 ⟨rfl, hb1⟩; replace hbn := hb1)
      | (go_at_call 10; refine (K10.out _ hbn).mono ?_; rintro e w4 ⟨rfl, hb1⟩; replace hbn := hb1)
      | (go_at_call 11; refine (K11.out _ hbn).mono ?_; rintro e w5 ⟨rfl, hb1⟩; replace hbn := hb1)
      | (go_at_call 12; refine (K12.out _ hbn).mono ?_; rintro e w6 ⟨rfl, hb1⟩; replace hbn := hb1))
  clear K8x K7 K9 K10 K11 K12 hci HCT
  have R13x : Hid (∀ W, Below W0.heap.size W0 W → Calls Try.prog 13 #[.agg #[.int .i64 x.k, .slice x.a x.l.length x.c]] W (Ans W0 (rightY x.ty))) := fun W hb => Ans.of (isRight_any 10000000 x W (hx0.below hb) (by omega) mx) hb
  have R13y : Hid (∀ W, Below W0.heap.size W0 W → Calls Try.prog 13 #[.agg #[.int .i64 y.k, .slice y.a y.l.length y.c]] W (Ans W0 (rightY y.ty))) := fun W hb => Ans.of (isRight_any 10000000 y W (hy0.below hb) (by have := y.hgt_sz; omega) (y.sm_sz (by omega))) hb
  have HN6 : Hid (Below W0.heap.size W0 w6) := hbn
  obtain ⟨d0, d1, d2, d3⟩ := HK.out w6 hbn
  cases hrx : rightY x.ty with
  | false =>
    rw [hrx] at R13x
    clear hrx hbn
    go_wp2_with fail
    refine (R13x.out _ HN6.out).mono ?_
    rintro e w7 ⟨rfl, h7⟩
    clear R13x R13y HN6
    go_wp2_with fail
    go_ret
    exact ⟨rfl, hbw0.trans (h7.mono hbw0.size)⟩
  | true =>
    cases hry : rightY y.ty with
    | false =>
      rw [hrx] at R13x
      rw [hry] at R13y
      clear hrx hry hbn
      go_wp2_with fail
      refine (R13x.out _ HN6.out).mono ?_
      rintro e w7 ⟨rfl, h7⟩
      clear d0 d1 d2 d3
      obtain ⟨d0, d1, d2, d3⟩ := HK.out w7 h7
      go_wp2_with fail
      refine (R13y.out _ h7).mono ?_
      rintro e w8 ⟨rfl, h8⟩
      clear R13x R13y HN6 h7 d0 d1 d2 d3
      go_wp2_with fail
      go_ret
      exact ⟨rfl, hbw0.trans (h8.mono hbw0.size)⟩
    | true =>
      rw [hrx] at R13x
      rw [hry] at R13y
      have rx : Hid x.right := right_of x hrx
      have ry : Hid y.right := right_of y hry
      clear hrx hry hbn
      go_wp2_with fail
      refine (R13x.out _ HN6.out).mono ?_
      rintro e w7 ⟨rfl, h7⟩
      clear d0 d1 d2 d3
      obtain ⟨d0, d1, d2, d3⟩ := HK.out w7 h7
      go_wp2_with fail
      refine (R13y.out _ h7).mono ?_
      rintro e wa ⟨rfl, h8⟩
      clear R13x R13y HN6 h7 d0 d1 d2 d3
      go_wp2_with fail
      go_cut [5] (fun s5 wx => ∃ b c0 c1 g, s5 = .pointer (some ⟨b, 0, none⟩) ∧ Hid (ToBox W0 x.ty y.ty b c0 c1 g wx))
      case first =>
        have C8x : Hid (∀ V, Below W0.heap.size W0 V → Calls Try.prog 8 #[.agg #[.int .i64 x.k, .slice x.a x.l.length x.c]] V (Made x.ty V)) := fun V hb => copy_any 10000000 x V (hx0.below hb) (by omega) (by omega)
        have C8y : Hid (∀ V, Below W0.heap.size W0 V → Calls Try.prog 8 #[.agg #[.int .i64 y.k, .slice y.a y.l.length y.c]] V (Made y.ty V)) := fun V hb => copy_any 10000000 y V (hy0.below hb) (by have := y.hgt_sz; omega) (by omega)
        have hbn : Below W0.heap.size W0 wa.drew := h8.drew
        have ha : W0.heap.size ≤ wa.heap.size := h8.size
        go_region_held3 (fun w' => w'.cell? ⟨w.heap.size, 0, none⟩ = some (.int .i64 x.k) ∧ w'.cell? ⟨w.heap.size, 1, none⟩ = some (.slice x.a x.l.length x.c) ∧ w'.cell? ⟨w.heap.size + 1, 0, none⟩ = some (.int .i64 y.k) ∧ w'.cell? ⟨w.heap.size + 1, 1, none⟩ = some (.slice y.a y.l.length y.c))
          (first
            | exact HK.out _ hbn
            | exact HK.out _ (hbn.alloc hbn.size _)
            | exact HK.out _ ((hbn.setCell (by simp; omega) _).setCell (by simp; omega) _))
          (first
            | (go_at_call_of 8 (x.k); refine (C8x.out _ (by first | exact hbn | exact hbn.alloc hbn.size _)).mono ?_; rintro e w7 ⟨c0, rfl, ht0, hi0, hbl0, hb35⟩; (first | (have hz : ZB w7 wa.heap.size := ZB.later hb35 (ZB.new _)) | skip); replace hbn : Below W0.heap.size W0 w7 := (by first | exact hbn.trans (hb35.mono hbn.size) | exact (hbn.alloc hbn.size _).trans (hb35.mono (hbn.alloc hbn.size _).size)); have h7 : W0.heap.size ≤ w7.heap.size := hbn.size)
            | (go_at_call 8; refine (C8y.out _ (by first | exact hbn | exact hbn.alloc hbn.size _)).mono ?_; rintro e w8 ⟨c1, rfl, ht1, hi1, hbl1, hb37⟩; (first | (replace hz : ZB w8 wa.heap.size := ZB.later hb37 hz) | (have hz : ZB w8 w7.heap.size := ZB.later hb37 (ZB.new _)) | skip); replace hbn : Below W0.heap.size W0 w8 := (by first | exact hbn.trans (hb37.mono hbn.size) | exact (hbn.alloc hbn.size _).trans (hb37.mono (hbn.alloc hbn.size _).size)); have h9 : W0.heap.size ≤ w8.heap.size := hbn.size)
            | (go_at_call 14; refine (to_cells c0.k c1.k c0.a c1.a c0.l.length c1.l.length c0.c c1.c _).mono ?_; rintro e w9 ⟨g, hg, rfl, g0, g1, g2, g3, hb38⟩; (first | (replace hz : ZB w9 _ := ZB.later hb38 hz; obtain ⟨z0, z1, z2, z3⟩ := hz) | (have hz : ZB w9 w8.heap.size := ZB.later hb38 (ZB.new _); obtain ⟨z0, z1, z2, z3⟩ := hz) | skip); replace hbn : Below W0.heap.size W0 w9 := (by first | exact hbn.trans (hb38.mono hbn.size) | exact (hbn.alloc hbn.size _).trans (hb38.mono (hbn.alloc hbn.size _).size))))
        · have s7 := hb35.size
          have s8 := hb37.size
          have s9 := hb38.size
          have HF : Hid (ToBox W0 x.ty y.ty w9.heap.size c0 c1 g (w9.alloc (.cells #[.int .i64 3, .slice (some ⟨g, 0, none⟩) 2 2] 24))) := by
            exact ToBox.of (hbn.alloc hbn.size _) (by simp [go_sem]) (by simp [go_sem]) ht0 ht1 hi0 hbl0 hi1 hbl1 (Below.refl _ _) hb37 (Below.refl _ _) hb38 hg g0 g1 g2 g3 (fun q hq _ => ((Below.refl _ _).alloc (Nat.le_refl _) _).block q hq) (.inr (by omega)) (.inr (by omega)) (.inr (Nat.le_refl _))
          clear hb35 hb37 hb38 ht0 ht1 hi0 hbl0 hi1 hbl1 g0 g1 g2 g3 C8x C8y
          go_wp2_with fail
          go_meet
          case rel => exact ⟨_, c0, c1, g, rfl, HF⟩
        · have s7 := hb35.size
          have s8 := hb37.size
          have s9 := hb38.size
          have HF : Hid (ToBox W0 x.ty y.ty w8.heap.size c0 c1 g ((w9.setCell ⟨w8.heap.size, 0, none⟩ (.int .i64 3)).setCell ⟨w8.heap.size, 1, none⟩ (.slice (some ⟨g, 0, none⟩) 2 2))) := by
            simp only [World.size_alloc] at s9
            have hc := set_cells (io := 0) (u := .int .i64 3) (v := .slice (some ⟨g, 0, none⟩) 2 2) z0 z1
            exact ToBox.of ((hbn.setCell (by simp; omega) _).setCell (by simp; omega) _) hc.1 hc.2 ht0 ht1 hi0 hbl0 hi1 hbl1 (Below.refl _ _) hb37 ((Below.refl _ _).alloc (Nat.le_refl _) _) hb38 hg g0 g1 g2 g3 set_other (.inr (by omega)) (.inr (Nat.le_refl _)) (.inl (by simp))
          clear hb35 hb37 hb38 ht0 ht1 hi0 hbl0 hi1 hbl1 g0 g1 g2 g3 C8x C8y
          go_wp2_with fail
          go_meet
          case rel => exact ⟨_, c0, c1, g, rfl, HF⟩
        · have s7 := hb35.size
          have s8 := hb37.size
          have s9 := hb38.size
          have HF : Hid (ToBox W0 x.ty y.ty w7.heap.size c0 c1 g ((w9.setCell ⟨w7.heap.size, 0, none⟩ (.int .i64 3)).setCell ⟨w7.heap.size, 1, none⟩ (.slice (some ⟨g, 0, none⟩) 2 2))) := by
            simp only [World.size_alloc] at s8
            have hc := set_cells (io := 0) (u := .int .i64 3) (v := .slice (some ⟨g, 0, none⟩) 2 2) z0 z1
            exact ToBox.of ((hbn.setCell (by simp; omega) _).setCell (by simp; omega) _) hc.1 hc.2 ht0 ht1 hi0 hbl0 hi1 hbl1 ((Below.refl _ _).alloc (Nat.le_refl _) _) hb37 (Below.refl _ _) hb38 hg g0 g1 g2 g3 set_other (.inr (Nat.le_refl _)) (.inl (by simp)) (.inl (by omega))
          clear hb35 hb37 hb38 ht0 ht1 hi0 hbl0 hi1 hbl1 g0 g1 g2 g3 C8x C8y
          go_wp2_with fail
          go_meet
          case rel => exact ⟨_, c0, c1, g, rfl, HF⟩
        · have s7 := hb35.size
          have s8 := hb37.size
          have s9 := hb38.size
          have HF : Hid (ToBox W0 x.ty y.ty wa.heap.size c0 c1 g ((w9.setCell ⟨wa.heap.size, 0, none⟩ (.int .i64 3)).setCell ⟨wa.heap.size, 1, none⟩ (.slice (some ⟨g, 0, none⟩) 2 2))) := by
            simp at s7
            have hc := set_cells (io := 0) (u := .int .i64 3) (v := .slice (some ⟨g, 0, none⟩) 2 2) z0 z1
            exact ToBox.of ((hbn.setCell (by simp; omega) _).setCell (by simp; omega) _) hc.1 hc.2 ht0 ht1 hi0 hbl0 hi1 hbl1 (Below.refl _ _) hb37 (Below.refl _ _) hb38 hg g0 g1 g2 g3 set_other (.inl (by simp)) (.inl (by omega)) (.inl (by omega))
          clear hb35 hb37 hb38 ht0 ht1 hi0 hbl0 hi1 hbl1 g0 g1 g2 g3 C8x C8y
          go_wp2_with fail
          go_meet
          case rel => exact ⟨_, c0, c1, g, rfl, HF⟩
      case rest =>
        obtain ⟨b, c0, c1, g, h5, HT⟩ := hcut
        subst h5
        clear h8
        have zc0 : c0.sz ≤ 10000000 := by rw [sz_ty, HT.out.t0, ← sz_ty]; exact zx
        have zc1 : c1.sz ≤ 10000000 := by rw [sz_ty, HT.out.t1, ← sz_ty]; exact zy
        obtain ⟨g0, o0, ea0, e0, e1, i0⟩ := HT.out.i.at 0 (by simp)
        obtain ⟨g1, o1, ea1, e2, e3, i1⟩ := HT.out.i.at 1 (by simp)
        cases ea0
        cases ea1
        simp only [List.getElem_cons_zero, List.getElem_cons_succ, Nat.zero_mul, Nat.one_mul, Nat.zero_add, Nat.reduceAdd] at e0 e1 e2 e3 i0 i1
        obtain ⟨d0, d1, d2, d3⟩ := HK.out wc HT.out.low
        have HK6 : Hid (∀ w' : World, Below wc.heap.size wc w' → (w'.cell? ⟨w.heap.size, 0, none⟩ = some (.int .i64 x.k) ∧ w'.cell? ⟨w.heap.size, 1, none⟩ = some (.slice x.a x.l.length x.c) ∧ w'.cell? ⟨w.heap.size + 1, 0, none⟩ = some (.int .i64 y.k) ∧ w'.cell? ⟨w.heap.size + 1, 1, none⟩ = some (.slice y.a y.l.length y.c) ∧
            w'.cell? ⟨b, 0, none⟩ = some (.int .i64 3) ∧ w'.cell? ⟨b, 1, none⟩ = some (.slice (some ⟨g, 0, none⟩) 2 2) ∧ w'.cell? ⟨g, 0, none⟩ = some (.int .i64 c0.k) ∧ w'.cell? ⟨g, 1, none⟩ = some (.slice c0.a c0.l.length c0.c) ∧ w'.cell? ⟨g, 2, none⟩ = some (.int .i64 c1.k) ∧ w'.cell? ⟨g, 3, none⟩ = some (.slice c1.a c1.l.length c1.c))) := by
          intro w' h
          exact ⟨cell_later h d0, cell_later h d1, cell_later h d2, cell_later h d3, cell_later h HT.out.k, cell_later h HT.out.l, cell_later h e0, cell_later h e1, cell_later h e2, cell_later h e3⟩
        have K11a : Hid (∀ W, Below wc.heap.size wc W → Calls Try.prog 11 #[.agg #[.int .i64 c0.k, .slice c0.a c0.l.length c0.c], .agg #[.int .i64 x.k, .slice x.a x.l.length x.c]] W (Ans wc true)) := fun W hb => Ans.of (sameType_ty c0 x W (i0.below hb) ((hx0.below HT.out.low).below hb) HT.out.t0 zc0) hb
        have K11b : Hid (∀ W, Below wc.heap.size wc W → Calls Try.prog 11 #[.agg #[.int .i64 c1.k, .slice c1.a c1.l.length c1.c], .agg #[.int .i64 y.k, .slice y.a y.l.length y.c]] W (Ans wc true)) := fun W hb => Ans.of (sameType_ty c1 y W (i1.below hb) ((hy0.below HT.out.low).below hb) HT.out.t1 zc1) hb
        have hbn : Below wc.heap.size wc wc.drew := (Below.refl _ _).drew
        clear e0 e1 e2 e3 i0 i1 d0 d1 d2 d3 zc0 zc1
        go_wp2_with fail
        go_region_held3 (fun w' => w'.cell? ⟨w.heap.size, 0, none⟩ = some (.int .i64 x.k) ∧ w'.cell? ⟨w.heap.size, 1, none⟩ = some (.slice x.a x.l.length x.c) ∧ w'.cell? ⟨w.heap.size + 1, 0, none⟩ = some (.int .i64 y.k) ∧ w'.cell? ⟨w.heap.size + 1, 1, none⟩ = some (.slice y.a y.l.length y.c) ∧
            w'.cell? ⟨b, 0, none⟩ = some (.int .i64 3) ∧ w'.cell? ⟨b, 1, none⟩ = some (.slice (some ⟨g, 0, none⟩) 2 2) ∧ w'.cell? ⟨g, 0, none⟩ = some (.int .i64 c0.k) ∧ w'.cell? ⟨g, 1, none⟩ = some (.slice c0.a c0.l.length c0.c) ∧ w'.cell? ⟨g, 2, none⟩ = some (.int .i64 c1.k) ∧ w'.cell? ⟨g, 3, none⟩ = some (.slice c1.a c1.l.length c1.c))
          (exact HK6.out _ hbn)
          (first
            | (go_at_call_of 11 (c0.k); refine (K11a.out _ hbn).mono ?_; rintro e v1 ⟨rfl, hb1⟩; replace hbn := hb1)
            | (go_at_call 11; refine (K11b.out _ hbn).mono ?_; rintro e v2 ⟨rfl, hb1⟩; replace hbn := hb1))
        have HL : Hid (Below W0.heap.size W0 v2) := HT.out.low.trans (hbn.mono HT.out.low.size)
        clear K11a K11b HK6 HT hbn
        have hbn : Below W0.heap.size W0 v2.drew := HL.out.drew
        obtain ⟨fi, hfi⟩ : ∃ r, relY escFits x.ty y.ty = r := ⟨_, rfl⟩
        obtain ⟨fn, hfn⟩ : ∃ r, relY escFiner x.ty y.ty = r := ⟨_, rfl⟩
        obtain ⟨pl, hpl⟩ : ∃ r, plainT x = r := ⟨_, rfl⟩
        obtain ⟨su, hsu⟩ : ∃ r, sureY x.ty = r := ⟨_, rfl⟩
        have M15 : Hid (∀ W, Below W0.heap.size W0 W → Calls Try.prog 15 #[.agg #[.int .i64 x.k, .slice x.a x.l.length x.c]] W (Ans W0 pl)) := fun W hb => Ans.of (hpl ▸ plain_any x W (hx0.below hb)) hb
        have M16 : Hid (∀ W, Below W0.heap.size W0 W → Calls Try.prog 16 #[.agg #[.int .i64 x.k, .slice x.a x.l.length x.c]] W (Ans W0 pl)) := fun W hb => Ans.of (hpl ▸ plainOf_any x W (hx0.below hb)) hb
        have M17 : Hid (∀ W, Below W0.heap.size W0 W → Calls Try.prog 17 #[.agg #[.int .i64 x.k, .slice x.a x.l.length x.c], .agg #[.int .i64 y.k, .slice y.a y.l.length y.c]] W (Ans W0 fi)) := fun W hb => Ans.of (hfi ▸ fits_wholeG x y W (hx0.below hb) (hy0.below hb) (by omega)) hb
        have M18 : Hid (∀ W, Below W0.heap.size W0 W → Calls Try.prog 18 #[.agg #[.int .i64 x.k, .slice x.a x.l.length x.c], .agg #[.int .i64 y.k, .slice y.a y.l.length y.c]] W (Ans W0 fi)) := fun W hb => Ans.of (hfi ▸ fitsOf_any 10000000 x y W (hx0.below hb) (hy0.below hb) (by omega) mx rx.out ry.out) hb
        have M19 : Hid (∀ W, Below W0.heap.size W0 W → Calls Try.prog 19 #[.agg #[.int .i64 x.k, .slice x.a x.l.length x.c], .agg #[.int .i64 y.k, .slice y.a y.l.length y.c]] W (Ans W0 fn)) := fun W hb => Ans.of (hfn ▸ finer_wholeG x y W (hx0.below hb) (hy0.below hb) (by omega)) hb
        have M20 : Hid (∀ W, Below W0.heap.size W0 W → Calls Try.prog 20 #[.agg #[.int .i64 x.k, .slice x.a x.l.length x.c], .agg #[.int .i64 y.k, .slice y.a y.l.length y.c]] W (Ans W0 fn)) := fun W hb => Ans.of (hfn ▸ finerOf_any 10000000 x y W (hx0.below hb) (hy0.below hb) (by omega) mx) hb
        have M21 : Hid (∀ W, Below W0.heap.size W0 W → Calls Try.prog 21 #[.agg #[.int .i64 x.k, .slice x.a x.l.length x.c], .agg #[.int .i64 y.k, .slice y.a y.l.length y.c]] W fun e w' => ∃ t : Tr, e = .returned (.agg #[.int .i64 t.k, .slice t.a t.l.length t.c]) ∧ t.ty = joinY x.ty y.ty ∧ t.In w' ∧ Below W.heap.size W w') := fun W hb => join_wholeG x y W (hx0.below hb) (hy0.below hb) rx.out ry.out (by omega)
        have M22 : Hid (∀ W, Below W0.heap.size W0 W → Calls Try.prog 22 #[.agg #[.int .i64 x.k, .slice x.a x.l.length x.c], .agg #[.int .i64 y.k, .slice y.a y.l.length y.c]] W (Made (joinY x.ty y.ty) W)) := fun W hb => joinOf_any 10000000 x y W (hx0.below hb) (hy0.below hb) rx.out ry.out (by omega)
        have M11a : Hid (∀ (p q : Tr) W, p.In W → q.In W → p.ty = joinY x.ty y.ty → q.ty = joinY x.ty y.ty → Calls Try.prog 11 #[.agg #[.int .i64 p.k, .slice p.a p.l.length p.c], .agg #[.int .i64 q.k, .slice q.a q.l.length q.c]] W fun e w' => e = .returned (.bool true) ∧ Below W.heap.size W w') := fun p q W h1 h2 h3 h4 => sameType_ty p q W h1 h2 (h3.trans h4.symm) (by have := szY_join x.ty y.ty; rw [sz_ty, h3]; rw [← sz_ty] at this; omega)
        have M23 : Hid (∀ W, Calls Try.prog 23 #[.agg #[.int .i64 x.k, .slice x.a x.l.length x.c]] W fun e w' => ∃ g : Tr, e = .returned (.agg #[.int .i64 g.k, .slice g.a g.l.length g.c]) ∧ g.In w' ∧ g.ty = groundY x.ty ∧ Below W.heap.size W w') := fun W => ground_any x W
        have M24 : Hid (∀ W, Calls Try.prog 24 #[.agg #[.int .i64 x.k, .slice x.a x.l.length x.c]] W fun e w' => ∃ g : Tr, e = .returned (.agg #[.int .i64 g.k, .slice g.a g.l.length g.c]) ∧ g.In w' ∧ g.ty = groundY x.ty ∧ Below W.heap.size W w') := fun W => groundOf_any x W
        have M11b : Hid (∀ (p q : Tr) W, p.In W → q.In W → p.ty = groundY x.ty → q.ty = groundY x.ty → Calls Try.prog 11 #[.agg #[.int .i64 p.k, .slice p.a p.l.length p.c], .agg #[.int .i64 q.k, .slice q.a q.l.length q.c]] W fun e w' => e = .returned (.bool true) ∧ Below W.heap.size W w') := fun p q W h1 h2 h3 h4 => sameType_ty p q W h1 h2 (h3.trans h4.symm) (by have := szY_ground x.ty; rw [sz_ty, h3]; omega)
        have M25 : Hid (∀ W, Below W0.heap.size W0 W → Calls Try.prog 25 #[.agg #[.int .i64 x.k, .slice x.a x.l.length x.c]] W (Ans W0 su)) := fun W hb => Ans.of (hsu ▸ sure_any x W (hx0.below hb) rx.out (by omega)) hb
        have M26 : Hid (∀ W, Below W0.heap.size W0 W → Calls Try.prog 26 #[.agg #[.int .i64 x.k, .slice x.a x.l.length x.c]] W (Ans W0 su)) := fun W hb => Ans.of (hsu ▸ sureOf_any 10000000 x W (hx0.below hb) (by omega) mx) hb
        clear hfi hfn hpl hsu
        go_wp2_with fail
        go_region_held3 (fun w' => w'.cell? ⟨w.heap.size, 0, none⟩ = some (.int .i64 x.k) ∧ w'.cell? ⟨w.heap.size, 1, none⟩ = some (.slice x.a x.l.length x.c) ∧ w'.cell? ⟨w.heap.size + 1, 0, none⟩ = some (.int .i64 y.k) ∧ w'.cell? ⟨w.heap.size + 1, 1, none⟩ = some (.slice y.a y.l.length y.c))
          (exact HK.out _ hbn)
          (first
            | (go_at_call 15; refine (M15.out _ hbn).mono ?_; rintro e u15 ⟨rfl, hb1⟩; replace hbn := hb1)
            | (go_at_call 16; refine (M16.out _ hbn).mono ?_; rintro e u16 ⟨rfl, hb1⟩; replace hbn := hb1)
            | (go_at_call 17; refine (M17.out _ hbn).mono ?_; rintro e u17 ⟨rfl, hb1⟩; replace hbn := hb1)
            | (go_at_call 18; refine (M18.out _ hbn).mono ?_; rintro e u18 ⟨rfl, hb1⟩; replace hbn := hb1)
            | (go_at_call 19; refine (M19.out _ hbn).mono ?_; rintro e u19 ⟨rfl, hb1⟩; replace hbn := hb1)
            | (go_at_call 20; refine (M20.out _ hbn).mono ?_; rintro e u20 ⟨rfl, hb1⟩; replace hbn := hb1)
            | (go_at_call 21; refine (M21.out _ hbn).mono ?_; rintro e u21 ⟨j1, rfl, hj1, ij1, hb1⟩; replace hbn := hbn.trans (hb1.mono hbn.size); have HJ1 : Hid (j1.ty = joinY x.ty y.ty) := hj1; clear hj1)
            | (go_at_call 22; refine (M22.out _ hbn).mono ?_; rintro e u22 ⟨j2, rfl, hj2, ij2, _, hb1⟩; replace hbn := hbn.trans (hb1.mono hbn.size); replace ij1 := ij1.below hb1; have HJ2 : Hid (j2.ty = joinY x.ty y.ty) := hj2; clear hj2)
            | (go_at_call_of 11 (j1.k); refine (M11a.out j1 j2 _ ij1 ij2 HJ1.out HJ2.out).mono ?_; rintro e u11 ⟨rfl, hb1⟩; replace hbn := hbn.trans (hb1.mono hbn.size))
            | (go_at_call 23; refine (M23.out _).mono ?_; rintro e u23 ⟨q1, rfl, iq1, hq1, hb1⟩; replace hbn := hbn.trans (hb1.mono hbn.size); have HQ1 : Hid (q1.ty = groundY x.ty) := hq1; clear hq1)
            | (go_at_call 24; refine (M24.out _).mono ?_; rintro e u24 ⟨q2, rfl, iq2, hq2, hb1⟩; replace hbn := hbn.trans (hb1.mono hbn.size); replace iq1 := iq1.below hb1; have HQ2 : Hid (q2.ty = groundY x.ty) := hq2; clear hq2)
            | (go_at_call 11; refine (M11b.out q1 q2 _ iq1 iq2 HQ1.out HQ2.out).mono ?_; rintro e u12 ⟨rfl, hb1⟩; replace hbn := hbn.trans (hb1.mono hbn.size))
            | (go_at_call 25; refine (M25.out _ hbn).mono ?_; rintro e u25 ⟨rfl, hb1⟩; replace hbn := hb1)
            | (go_at_call 26; refine (M26.out _ hbn).mono ?_; rintro e u26 ⟨rfl, hb1⟩; replace hbn := hb1))
        have HE : Hid (Below w.heap.size w u26) := hbw0.trans (hbn.mono hbw0.size)
        clear hbn M15 M16 M17 M18 M19 M20 M21 M22 M23 M24 M25 M26 M11a M11b HL HK
        go_wp2_with fail
        go_ret
        exact ⟨rfl, HE.out⟩
end Go.Proofs.Ytaaplpcpifdnfaa
