/-
  What the call of ref's CheckTerm answers.
-/
import Derived.Test.YtnddkmccagiclaaDoorLot27257d5ab6
import Derived.Test.YtnddkmccagiclaaDoorLot03e384e275
import Derived.Test.YtnddkmccagiclaaDoorLot85abe7a429
namespace Go.Proofs.YtnddkmccagiclaaDoor
open Go.RowKit
set_option maxRecDepth 20000 in
set_option maxHeartbeats 8000000 in
/-- CheckTerm. -/
theorem checkTerm_any (x : TT) (w : World) (hx : x.In w) (hsz : x.sz ≤ 2000000) (hok : x.ok 100000000) : Calls Tryd.prog 14 #[.agg #[.int .i64 x.k, .int .i64 x.n, .int .i64 x.t.k, .slice x.t.a x.t.l.length x.t.c, .int .i64 x.f.k, .slice x.f.a x.f.l.length x.f.c, .slice x.a x.l.length x.c]] w (CkPost x w) := by
  have hst := CF.start x w
  obtain ⟨W1, hW1⟩ : ∃ W1, W1 = (((w.alloc (.cells #[.int .i64 x.k, .int .i64 x.n, .int .i64 x.t.k, .slice x.t.a x.t.l.length x.t.c, .int .i64 x.f.k, .slice x.f.a x.f.l.length x.f.c, .slice x.a x.l.length x.c] 27)).alloc (.cells #[.int .i64 0, .int .i64 0, .int .i64 0, .slice none 0 0, .int .i64 0, .slice none 0 0, .slice none 0 0] 27)).alloc (.cells #[.int .i64 0, .slice none 0 0] 24)) := ⟨_, rfl⟩
  have hb1 : Below w.heap.size w W1 := by rw [hW1]; exact (((Below.refl _ _).alloc (Nat.le_refl _) _).alloc (by simp) _).alloc (by simp; omega) _
  rw [← hW1] at hst
  obtain ⟨gd, hgd⟩ : ∃ gd, goodM 0 x.tm = gd := ⟨_, rfl⟩
  have HG : Hid (Calls Tryd.prog 18 #[.agg #[.int .i64 x.k, .int .i64 x.n, .int .i64 x.t.k, .slice x.t.a x.t.l.length x.t.c, .int .i64 x.f.k, .slice x.f.a x.f.l.length x.f.c, .slice x.a x.l.length x.c], .int .i64 0] W1 fun e w' => e = .returned (.bool gd) ∧ Below W1.heap.size W1 w') := by
    have := isTerm_any x 0 W1 (hx.below hb1) hsz hok
    rw [hgd] at this
    exact this
  have HX : Hid (x.In w ∧ goodM 0 x.tm = gd ∧ Below w.heap.size w W1 ∧ CF w.heap.size x W1) := ⟨hx, hgd, hb1, hst⟩
  obtain ⟨p0, p1, p2, p3, p4, p5, p6⟩ := hst.at7
  simp only [Nat.zero_add] at p0 p1 p2 p3 p4 p5 p6
  have lw1 : w.heap.size < W1.heap.size := World.block_lt_of_cell? _ _ p0
  clear hx hsz hok hst hgd hb1
  go_enter Tryd.func14, Tryd.ntmps14
  go_wp2_with fail
  rw [← hW1]
  refine HG.out.mono ?_
  rintro e w2 ⟨rfl, hb2⟩
  have hcf : CF w.heap.size x w2 := HX.out.2.2.2.below hb2
  have hbw : Below w.heap.size w w2 := HX.out.2.2.1.trans (hb2.mono HX.out.2.2.1.size)
  have HX2 : Hid (x.In w ∧ goodM 0 x.tm = gd) := ⟨HX.out.1, HX.out.2.1⟩
  clear p0 p1 p2 p3 p4 p5 p6 HG HX hb2 hW1 lw1
  cases gd
  · have HA0 : Hid (∀ W, CF w.heap.size x W → Below w.heap.size w W → Calls Tryd.prog 40 #[] W fun e w' => e = .returned (.agg #[.int .i64 0, .slice none 0 0]) ∧ CF w.heap.size x w' ∧ Below w.heap.size w w') := fun W h1 h2 => by
      refine (any0_any W).mono ?_
      rintro e w' ⟨rfl, rfl⟩
      have hb : Below W.heap.size W (W.alloc (.cells #[.int .i64 0, .slice none 0 0] 24)) := (Below.refl _ _).alloc (Nat.le_refl _) _
      exact ⟨rfl, h1.below hb, h2.trans (hb.mono h2.size)⟩
    go_wp2_with fail
    refine (HA0.out _ hcf hbw).mono ?_
    clear hcf hbw
    rintro e w3 ⟨rfl, hcf, hbw⟩
    have HN : Hid (CkPost x w (.returned (.tuple #[.agg #[.int .i64 0, .int .i64 0, .int .i64 0, .slice none 0 0, .int .i64 0, .slice none 0 0, .slice none 0 0], .agg #[.int .i64 0, .slice none 0 0], .int .i64 1])) (ckEnd w3 w.heap.size (tleaf 0 0) (leaf 0))) := ⟨hbw.trans ((ckEnd_below w3 w.heap.size (tleaf 0 0) (leaf 0) hcf.lt).mono (Nat.le_refl _)), .inl ⟨HX2.out.2, rfl⟩⟩
    obtain ⟨e0, e1, e2, e3, e4, e5, e6, e7, e8⟩ := hcf.ends (tleaf 0 0) (leaf 0)
    obtain ⟨_, ⟨⟨y0, y1, y2, y3, y4, y5, y6⟩, f0, f1, f2, f3, f4, f5, f6⟩, u0, u1, g0, g1⟩ := hcf
    clear hbw
    go_wp2_with fail
    refine bodyPost_ret (v := .tuple #[.agg #[.int .i64 0, .int .i64 0, .int .i64 0, .slice none 0 0, .int .i64 0, .slice none 0 0, .slice none 0 0], .agg #[.int .i64 0, .slice none 0 0], .int .i64 1]) ?_ rfl HN.out
    unfold ckEnd put7 at e0 e1 e2 e3 e4 e5 e6 e7 e8
    simp only [tleaf, leaf, List.length_nil] at e0 e1 e2 e3 e4 e5 e6 e7 e8
    simp [results, Tryd.results14, go_sem, e0, e1, e2, e3, e4, e5, e6, e7, e8]
  · obtain ⟨hok, hsz⟩ := goodM_ok HX2.out.2
    have hlt := hcf.lt
    have hxsz : x.sz ≤ 40 := by rw [x.sz_tm]; exact hsz
    have hx2 : x.In w2 := HX2.out.1.below hbw
    have HC : Hid (Calls Tryd.prog 41 #[.agg #[.int .i64 x.k, .int .i64 x.n, .int .i64 x.t.k, .slice x.t.a x.t.l.length x.t.c, .int .i64 x.f.k, .slice x.f.a x.f.l.length x.f.c, .slice x.a x.l.length x.c], .slice none 0 0] w2 (TyPost (fun b => b ≠ w.heap.size + 1 ∧ b ≠ w.heap.size + 1 + 1) (typeS x.tm []) w2)) :=
      type_any x.sz x (Nat.le_refl _) _ (leaf 0) w2 hx2 (leaf_in _ _) hok (fun u h => by cases h) (by simp [leaf]; omega) (HX2.out.1.bl.mono fun b hb => ⟨by omega, by omega⟩) (leaf_bl _ _) (fun b hb => ⟨by omega, by omega⟩)
    have HB : Hid (x.sz ≤ 40 ∧ okTm x.tm 0) := ⟨hxsz, hok⟩
    obtain ⟨p0, p1, p2, p3, p4, p5, p6⟩ := hcf.at7
    simp only [Nat.zero_add] at p0 p1 p2 p3 p4 p5 p6
    have lw2 : w.heap.size < w2.heap.size := World.block_lt_of_cell? _ _ p0
    clear hok hsz hxsz
    go_wp2_with fail
    refine HC.out.mono ?_
    rintro e w3 ⟨t, bb, rfl, hbb, hty, hti, htb, hb3⟩
    obtain ⟨KB, hKB⟩ : ∃ K, K = w3.heap.size := ⟨_, rfl⟩
    obtain ⟨W4, hW4⟩ : ∃ W, W = w3.alloc (.cells #[.int .i64 t.k, .slice t.a t.l.length t.c] 24) := ⟨_, rfl⟩
    have hb34 : Below w3.heap.size w3 W4 := by rw [hW4]; exact (Below.refl _ _).alloc (Nat.le_refl _) _
    have hb24 : Below w2.heap.size w2 W4 := hb3.trans (hb34.mono hb3.size)
    have hcf4 : CF w.heap.size x W4 := hcf.below hb24
    have hbw4 : Below w.heap.size w W4 := hbw.trans (hb24.mono hbw.size)
    have k0 : W4.cell? ⟨KB, 0, none⟩ = some (.int .i64 t.k) := by rw [hW4, hKB]; simp [go_sem]
    have k1 : W4.cell? ⟨KB, 1, none⟩ = some (.slice t.a t.l.length t.c) := by rw [hW4, hKB]; simp [go_sem]
    have hKl : w.heap.size + 1 + 1 < KB := by have := hb3.size; omega
    have ht4 : t.In W4 := hti.below hb34
    cases bb with
    | false =>
      have HNO : Hid (readS x.tm [] 0 = none) := by
        cases h : readS x.tm [] 0 with
        | none => rfl
        | some q =>
          have := read_type x.tm [] 0
          rw [h] at this
          rw [← this] at hbb
          cases hbb
      have HA0 : Hid (∀ W, CF w.heap.size x W → Below w.heap.size w W → Calls Tryd.prog 40 #[] W fun e w' => e = .returned (.agg #[.int .i64 0, .slice none 0 0]) ∧ CF w.heap.size x w' ∧ Below w.heap.size w w') := fun W h1 h2 => by
        refine (any0_any W).mono ?_
        rintro e w' ⟨rfl, rfl⟩
        have hb : Below W.heap.size W (W.alloc (.cells #[.int .i64 0, .slice none 0 0] 24)) := (Below.refl _ _).alloc (Nat.le_refl _) _
        exact ⟨rfl, h1.below hb, h2.trans (hb.mono h2.size)⟩
      clear HC hcf hbb hty hti htb hb3 hb34 hb24 hbw k0 k1 ht4 p0 p1 p2 p3 p4 p5 p6 lw2 hlt
      go_wp2_with fail
      rw [← hW4]
      refine (HA0.out _ hcf4 hbw4).mono ?_
      clear hcf4 hbw4
      rintro e w5 ⟨rfl, hcf, hbw⟩
      have HN : Hid (CkPost x w (.returned (.tuple #[.agg #[.int .i64 0, .int .i64 0, .int .i64 0, .slice none 0 0, .int .i64 0, .slice none 0 0, .slice none 0 0], .agg #[.int .i64 0, .slice none 0 0], .int .i64 2])) (ckEnd w5 w.heap.size (tleaf 0 0) (leaf 0))) := ⟨hbw.trans ((ckEnd_below w5 w.heap.size (tleaf 0 0) (leaf 0) hcf.lt).mono (Nat.le_refl _)), .inr (.inl ⟨HX2.out.2, HNO.out, rfl⟩)⟩
      obtain ⟨e0, e1, e2, e3, e4, e5, e6, e7, e8⟩ := hcf.ends (tleaf 0 0) (leaf 0)
      obtain ⟨_, ⟨⟨y0, y1, y2, y3, y4, y5, y6⟩, f0, f1, f2, f3, f4, f5, f6⟩, u0, u1, g0, g1⟩ := hcf
      clear hbw
      go_wp2_with fail
      refine bodyPost_ret (v := .tuple #[.agg #[.int .i64 0, .int .i64 0, .int .i64 0, .slice none 0 0, .int .i64 0, .slice none 0 0, .slice none 0 0], .agg #[.int .i64 0, .slice none 0 0], .int .i64 2]) ?_ rfl HN.out
      unfold ckEnd put7 at e0 e1 e2 e3 e4 e5 e6 e7 e8
      simp only [tleaf, leaf, List.length_nil] at e0 e1 e2 e3 e4 e5 e6 e7 e8
      simp [results, Tryd.results14, go_sem, e0, e1, e2, e3, e4, e5, e6, e7, e8]
    | true =>
      obtain ⟨y0, i0, HRS⟩ : ∃ (y0 : Tm) (i0 : Ty), Hid (readS x.tm [] 0 = some (y0, i0) ∧ t.ty = i0) := by
        cases h : readS x.tm [] 0 with
        | none =>
          have := read_type x.tm [] 0
          rw [h] at this
          rw [← this] at hbb
          cases hbb
        | some q =>
          have := read_type x.tm [] 0
          rw [h] at this
          exact ⟨q.1, q.2, rfl, hty _ this.symm⟩
      have HT : Hid (t.In W4 ∧ t.Bl (fun b => b ≠ w.heap.size + 1 ∧ b ≠ w.heap.size + 1 + 1)) := ⟨ht4, htb⟩
      have HWC : Hid (Calls Tryd.prog 42 #[.agg #[.int .i64 x.k, .int .i64 x.n, .int .i64 x.t.k, .slice x.t.a x.t.l.length x.t.c, .int .i64 x.f.k, .slice x.f.a x.f.l.length x.f.c, .slice x.a x.l.length x.c], .slice none 0 0, .int .i64 0] W4.drew (WcPost (fun b => b ≠ w.heap.size + 1 ∧ b ≠ w.heap.size + 1 + 1) y0 W4.drew)) := by
        have := withCasts_any x.sz x (Nat.le_refl _) (fun b => b ≠ w.heap.size + 1 ∧ b ≠ w.heap.size + 1 + 1) (leaf 0) 0 W4.drew (HX2.out.1.below hbw4.drew) (leaf_in _ _) HB.out.2 (fun u h => by cases h) (by have := HB.out.1; simp [leaf]; omega) (by have := HB.out.1; omega) (HX2.out.1.bl.mono fun b hb => ⟨by omega, by omega⟩) (leaf_bl _ _) (fun b hb => by have h := hcf4.lt; have h2 : W4.drew.heap.size = W4.heap.size := rfl; exact ⟨by omega, by omega⟩) y0 i0 HRS.out.1
        exact this
      have HS : Hid (∀ W : World, (∀ k, k = w.heap.size ∨ k = KB → W.heap[k]? = W4.heap[k]?) → (fun W : World => W.cell? ⟨w.heap.size, 0, none⟩ = some (.int .i64 x.k) ∧ W.cell? ⟨w.heap.size, 1, none⟩ = some (.int .i64 x.n) ∧ W.cell? ⟨w.heap.size, 2, none⟩ = some (.int .i64 x.t.k) ∧ W.cell? ⟨w.heap.size, 3, none⟩ = some (.slice x.t.a x.t.l.length x.t.c) ∧ W.cell? ⟨w.heap.size, 4, none⟩ = some (.int .i64 x.f.k) ∧ W.cell? ⟨w.heap.size, 5, none⟩ = some (.slice x.f.a x.f.l.length x.f.c) ∧ W.cell? ⟨w.heap.size, 6, none⟩ = some (.slice x.a x.l.length x.c) ∧ W.cell? ⟨KB, 0, none⟩ = some (.int .i64 t.k) ∧ W.cell? ⟨KB, 1, none⟩ = some (.slice t.a t.l.length t.c)) W) := by
        intro W h
        have h7 := hcf4.at7
        obtain ⟨c0, c1, c2, c3, c4, c5, c6⟩ := h7.of (w' := W) fun i => World.cell?_of_block (a := ⟨w.heap.size, i, none⟩) (h _ (.inl rfl))
        simp only [Nat.zero_add] at c0 c1 c2 c3 c4 c5 c6
        exact ⟨c0, c1, c2, c3, c4, c5, c6, (World.cell?_of_block (a := ⟨KB, 0, none⟩) (h _ (.inr rfl))).trans k0, (World.cell?_of_block (a := ⟨KB, 1, none⟩) (h _ (.inr rfl))).trans k1⟩
      have lK : KB < W4.heap.size := World.block_lt_of_cell? _ _ k0
      have HC4 : Hid (CF w.heap.size x W4 ∧ Below w.heap.size w W4) := ⟨hcf4, hbw4⟩
      clear HC hcf hbb hty hti htb hb3 hb34 hb24 hbw ht4 p0 p1 p2 p3 p4 p5 p6 lw2 hlt hcf4 hbw4 k0 k1
      go_upto_region 6 with fail
      rw [← hW4, ← hKB]
      clear hW4 hKB
      refine wp_region_held_drew (S := fun W : World => W.cell? ⟨w.heap.size, 0, none⟩ = some (.int .i64 x.k) ∧ W.cell? ⟨w.heap.size, 1, none⟩ = some (.int .i64 x.n) ∧ W.cell? ⟨w.heap.size, 2, none⟩ = some (.int .i64 x.t.k) ∧ W.cell? ⟨w.heap.size, 3, none⟩ = some (.slice x.t.a x.t.l.length x.t.c) ∧ W.cell? ⟨w.heap.size, 4, none⟩ = some (.int .i64 x.f.k) ∧ W.cell? ⟨w.heap.size, 5, none⟩ = some (.slice x.f.a x.f.l.length x.f.c) ∧ W.cell? ⟨w.heap.size, 6, none⟩ = some (.slice x.a x.l.length x.c) ∧ W.cell? ⟨KB, 0, none⟩ = some (.int .i64 t.k) ∧ W.cell? ⟨KB, 1, none⟩ = some (.slice t.a t.l.length t.c)) (by kernel_rfl) (HS.out _ (fun k _ => rfl)) (fun hHeld => ?_)
      refine takeH (i := 0) (v := ?_) rfl (by kernel_rfl) (by kernel_rfl) (by kernel_rfl) (fun _ _ _ h => h) (Or.inl ⟨by rfl, ?_⟩) hHeld ?_; rotate_left; (focus (intro w' hSw; (try dsimp only at hSw); go_split_ands; first | (go_simp; done) | (go_simp; with_reducible rfl))); simp only [Act.put, List.setIfInBounds_toArray, List.set_cons_zero, List.set_cons_succ]
      refine takeH (i := 2) (v := ?_) rfl (by kernel_rfl) (by kernel_rfl) (by kernel_rfl) (fun _ _ _ h => h) (Or.inl ⟨by rfl, ?_⟩) hHeld ?_; rotate_left; (focus (intro w' hSw; (try dsimp only at hSw); go_split_ands; first | (go_simp; done) | (go_simp; with_reducible rfl))); simp only [Act.put, List.setIfInBounds_toArray, List.set_cons_zero, List.set_cons_succ]
      refine oneH (i := 1) rfl (by kernel_rfl) (fun K hK => ?_)
      go_simp
      go_at_call 42
      refine HWC.out.mono ?_
      rintro e w5 ⟨y, rfl, hyt, hyi, hyb, hb5⟩
      have hb45 : Below W4.heap.size W4 w5 := ((Below.refl _ _).drew).trans (hb5.mono (Nat.le_refl _))
      have hcf := HC4.out.1.below hb45
      have hbw := HC4.out.2.trans (hb45.mono HC4.out.2.size)
      have hk5 : ∀ k, k = w.heap.size ∨ k = KB → w5.heap[k]? = W4.heap[k]? := fun k hk => hb45.block k (by rcases hk with rfl | rfl <;> omega)
      refine hK.out _ _ (HS.out _ hk5) (fun hHeld => ?_)
      clear hK K
      have HN : Hid (CkPost x w (.returned (.tuple #[.agg #[.int .i64 y.k, .int .i64 y.n, .int .i64 y.t.k, .slice y.t.a y.t.l.length y.t.c, .int .i64 y.f.k, .slice y.f.a y.f.l.length y.f.c, .slice y.a y.l.length y.c], .agg #[.int .i64 t.k, .slice t.a t.l.length t.c], .int .i64 0])) (ckEnd w5 w.heap.size y t)) := by
        have h1 := put7_kept (w := w5) (J := w.heap.size + 1) (x := y)
        have h2 : Kept (w.heap.size + 1 + 1) none (put7 w5 (w.heap.size + 1) y) (ckEnd w5 w.heap.size y t) := setR_kept.trans setR_kept
        refine ⟨hbw.trans ((ckEnd_below w5 w.heap.size y t hcf.lt).mono (Nat.le_refl _)), .inr (.inr ⟨HX2.out.2, y, t, ?_, rfl, ?_, ?_, ?_⟩)⟩
        · rw [HRS.out.1, hyt, HRS.out.2]
        · exact (hyi.keptR h1 (hyb.mono fun b hb => hb.1)).keptR h2 (hyb.mono fun b hb => hb.2)
        · exact ((HT.out.1.below hb45).keptR h1 (HT.out.2.mono fun b hb => hb.1)).keptR h2 (HT.out.2.mono fun b hb => hb.2)
        · rw [goodT_eq]
          have := read_good x.tm [] 0 y0 t.ty HB.out.2 (fun u h => by cases h) (by rw [HRS.out.1, HRS.out.2])
          have h40 := HB.out.1
          rw [x.sz_tm] at h40
          exact goodY_more _ 44 _ (by omega) this
      obtain ⟨e0, e1, e2, e3, e4, e5, e6, e7, e8⟩ := hcf.ends y t
      have HSP : Hid ((fun W : World => W.cell? ⟨w.heap.size, 0, none⟩ = some (.int .i64 x.k) ∧ W.cell? ⟨w.heap.size, 1, none⟩ = some (.int .i64 x.n) ∧ W.cell? ⟨w.heap.size, 2, none⟩ = some (.int .i64 x.t.k) ∧ W.cell? ⟨w.heap.size, 3, none⟩ = some (.slice x.t.a x.t.l.length x.t.c) ∧ W.cell? ⟨w.heap.size, 4, none⟩ = some (.int .i64 x.f.k) ∧ W.cell? ⟨w.heap.size, 5, none⟩ = some (.slice x.f.a x.f.l.length x.f.c) ∧ W.cell? ⟨w.heap.size, 6, none⟩ = some (.slice x.a x.l.length x.c) ∧ W.cell? ⟨KB, 0, none⟩ = some (.int .i64 t.k) ∧ W.cell? ⟨KB, 1, none⟩ = some (.slice t.a t.l.length t.c)) (put7 w5 (w.heap.size + 1) y)) := HS.out _ fun k hk => (put7_kept.block k (by have := hb45.size; rcases hk with rfl | rfl <;> omega) (by rcases hk with rfl | rfl <;> omega) (by simp)).trans (hk5 k hk)
      have HSQ : Hid ((fun W : World => W.cell? ⟨w.heap.size, 0, none⟩ = some (.int .i64 x.k) ∧ W.cell? ⟨w.heap.size, 1, none⟩ = some (.int .i64 x.n) ∧ W.cell? ⟨w.heap.size, 2, none⟩ = some (.int .i64 x.t.k) ∧ W.cell? ⟨w.heap.size, 3, none⟩ = some (.slice x.t.a x.t.l.length x.t.c) ∧ W.cell? ⟨w.heap.size, 4, none⟩ = some (.int .i64 x.f.k) ∧ W.cell? ⟨w.heap.size, 5, none⟩ = some (.slice x.f.a x.f.l.length x.f.c) ∧ W.cell? ⟨w.heap.size, 6, none⟩ = some (.slice x.a x.l.length x.c) ∧ W.cell? ⟨KB, 0, none⟩ = some (.int .i64 t.k) ∧ W.cell? ⟨KB, 1, none⟩ = some (.slice t.a t.l.length t.c)) (ckEnd w5 w.heap.size y t)) := HS.out _ fun k hk => by
        have h2 : Kept (w.heap.size + 1 + 1) none (put7 w5 (w.heap.size + 1) y) (ckEnd w5 w.heap.size y t) := setR_kept.trans setR_kept
        have hsz : (put7 w5 (w.heap.size + 1) y).heap.size = w5.heap.size := by simp [put7, World.setCell]
        exact (h2.block k (by have := hb45.size; rcases hk with rfl | rfl <;> omega) (by rcases hk with rfl | rfl <;> omega) (by simp)).trans ((put7_kept.block k (by have := hb45.size; rcases hk with rfl | rfl <;> omega) (by rcases hk with rfl | rfl <;> omega) (by simp)).trans (hk5 k hk))
      obtain ⟨_, ⟨⟨y0', y1, y2, y3, y4, y5, y6⟩, f0, f1, f2, f3, f4, f5, f6⟩, u0, u1, g0, g1⟩ := hcf
      unfold ckEnd at HSQ
      unfold put7 at HSP HSQ
      unfold ckEnd put7 at e0 e1 e2 e3 e4 e5 e6 e7 e8
      clear hyi hyb hb5 hb45 hbw hk5 HS HC4 HWC HT
      refine oneH (i := 3) rfl (by kernel_rfl) (fun K hK => ?_)
      go_simp
      refine hK.out _ _ HSP.out (fun hHeld => ?_)
      clear hK K
      refine oneH (i := 4) rfl (by kernel_rfl) (fun K hK => ?_)
      go_simp
      refine hK.out _ _ HSQ.out (fun hHeld => ?_)
      clear hK K
      refine takeH (i := 5) (v := ?_) rfl (by kernel_rfl) (by kernel_rfl) (by kernel_rfl) (fun _ _ _ h => h) (Or.inl ⟨by rfl, ?_⟩) hHeld ?_; rotate_left; (focus (intro w' hSw; (try dsimp only at hSw); go_split_ands; first | (go_simp; done) | (go_simp; with_reducible rfl))); simp only [Act.put, List.setIfInBounds_toArray, List.set_cons_zero, List.set_cons_succ]
      refine wpAnyH_done (by kernel_rfl) ?_ _
      go_wp2_with fail
      refine bodyPost_ret (v := .tuple #[.agg #[.int .i64 y.k, .int .i64 y.n, .int .i64 y.t.k, .slice y.t.a y.t.l.length y.t.c, .int .i64 y.f.k, .slice y.f.a y.f.l.length y.f.c, .slice y.a y.l.length y.c], .agg #[.int .i64 t.k, .slice t.a t.l.length t.c], .int .i64 0]) ?_ rfl HN.out
      simp [results, Tryd.results14, go_sem, e0, e1, e2, e3, e4, e5, e6, e7, e8]
end Go.Proofs.YtnddkmccagiclaaDoor

/-
  Plain mathematics of check: each term is cast once at most, between types that fit and are not alike; without casts it is the term; no program in it.
-/
namespace Go.Proofs.YtnddkmccagiclaaDoor
/-- A term without casts, As and types. -/
def eraseM : Tm → Tm
  | ⟨k, n, _, _, l⟩ => match l.map fun x => eraseM x with
    | [x] => if k = 9 ∨ k = 10 then x else ⟨k, n, anyY, anyY, [x]⟩
    | m => ⟨k, n, anyY, anyY, m⟩
/-- Of a term whose parts are erased. -/
def eraseT (k n : Int) : List Tm → Tm
  | [x] => if k = 9 ∨ k = 10 then x else ⟨k, n, anyY, anyY, [x]⟩
  | m => ⟨k, n, anyY, anyY, m⟩
theorem eraseM_mk (k n : Int) (t f : Ty) (l : List Tm) : eraseM ⟨k, n, t, f, l⟩ = eraseT k n (l.map eraseM) := by
  rw [eraseM]
  rfl
theorem erase_cast (n : Int) (x : Tm) (i u : Ty) : eraseM (castY n x i u) = eraseM x := by
  unfold castY
  split
  · rfl
  · rw [eraseM_mk]; simp [eraseT]
/-- A cast, as it should be. -/
def siteOk (m : Nat) (s : Int × Ty × Ty) : Prop := goodY m s.2.1 = true ∧ goodY m s.2.2 = true ∧ relY escFits s.2.1 s.2.2 = true ∧ relY escSame s.2.1 s.2.2 = false
theorem siteOk.more {m m' : Nat} {s : Int × Ty × Ty} (h : siteOk m s) (hm : m ≤ m') : siteOk m' s := ⟨goodY_more _ _ _ hm h.1, goodY_more _ _ _ hm h.2.1, h.2.2⟩
/-- The casts of what came of a term: between its number and the number behind it; growing; as they should be; how many nodes; what is left without them. -/
structure SitesOk (m : Nat) (x y : Tm) (lo hi : Nat) : Prop where
  inn : ∀ s, s ∈ sitesM y → (lo : Int) ≤ s.1 ∧ s.1 < (hi : Int) ∧ siteOk m s
  grow : ((sitesM y).map fun s => s.1).Pairwise (· < ·)
  sz : y.sz = x.sz + (sitesM y).length
  er : eraseM y = eraseM x
theorem castY_sites (m : Nat) {x y : Tm} {n : Nat} {i u : Ty} (h : SitesOk m x y (n + 1) (n + x.sz)) (hi : goodY m i = true) (hu : goodY m u = true) (hf : relY escFits i u = true) : SitesOk m x (castY (n : Int) y i u) n (n + x.sz) := by
  have hp := x.sz_pos
  by_cases hs : relY escSame i u = true
  · have e : castY (n : Int) y i u = y := by simp [castY, hs]
    rw [e]
    exact ⟨fun s hsm => ⟨by have := (h.inn s hsm).1; omega, (h.inn s hsm).2⟩, h.grow, h.sz, h.er⟩
  · have hs' : relY escSame i u = false := by simpa using hs
    have e : castY (n : Int) y i u = ⟨10, n, u, i, [y]⟩ := by simp [castY, hs']
    have e2 : sitesM (castY (n : Int) y i u) = ((n : Int), i, u) :: sitesM y := by rw [e, sitesM_mk]; simp
    refine ⟨fun s hsm => ?_, ?_, ?_, by rw [erase_cast, h.er]⟩
    · rw [e2] at hsm
      rcases List.mem_cons.1 hsm with rfl | hsm
      · exact ⟨Int.le_refl _, by simp; omega, hi, hu, hf, hs'⟩
      · exact ⟨by have := (h.inn s hsm).1; omega, (h.inn s hsm).2⟩
    · rw [e2, List.map_cons, List.pairwise_cons]
      refine ⟨fun a ha => ?_, h.grow⟩
      obtain ⟨s, hsm, rfl⟩ := List.mem_map.1 ha
      have := (h.inn s hsm).1
      simp only
      omega
    · rw [e2, e, Tm.sz_mk]
      simp [h.sz]
      omega
theorem castL_sites (m : Nat) {takes : List Ty} : ∀ (l : List Tm) (c : Nat) (ps : List (Nat × Tm × Ty)) (us : List Ty), readL l takes c = some ps → us.length = ps.length → fitL (ps.map fun p => p.2.2) us = true → (∀ u, u ∈ us → goodY m u = true) →
    (∀ x, x ∈ l → ∀ c y i, readS x takes c = some (y, i) → goodY m i = true ∧ SitesOk m x y (c + 1) (c + x.sz)) →
    (∀ s, s ∈ (castL ps us).flatMap sitesM → (c : Int) ≤ s.1 ∧ s.1 < ((c + (l.map Tm.sz).sum : Nat) : Int) ∧ siteOk m s) ∧ (((castL ps us).flatMap sitesM).map fun s => s.1).Pairwise (· < ·) ∧
      ((castL ps us).map Tm.sz).sum = (l.map Tm.sz).sum + ((castL ps us).flatMap sitesM).length ∧ (castL ps us).map eraseM = l.map eraseM
  | [], c, ps, us, h, _, _, _, _ => by rw [readL] at h; cases h; simp [castL]
  | x :: r, c, ps, us, h, hl, hf, hu, hQ => by
    obtain ⟨y, i, q, h1, h2, rfl⟩ := readL_cons h
    match us, hl, hf, hu with
    | [], hl, _, _ => simp at hl
    | u :: vs, hl, hf, hu =>
      simp only [List.map_cons, fitL, Bool.and_eq_true] at hf
      obtain ⟨gi, so⟩ := hQ x (by simp) c y i h1
      have S := castY_sites m so gi (hu u (by simp)) hf.1
      obtain ⟨r1, r2, r3, r4⟩ := castL_sites m r (c + x.sz) q vs h2 (by simpa using hl) hf.2 (fun v hv => hu v (by simp [hv])) fun z hz => hQ z (by simp [hz])
      have e : castL ((c, y, i) :: q) (u :: vs) = castY (c : Int) y i u :: castL q vs := rfl
      rw [e]
      refine ⟨fun s hs => ?_, ?_, ?_, ?_⟩
      · rw [List.flatMap_cons, List.mem_append] at hs
        rcases hs with hs | hs
        · obtain ⟨a, b, d⟩ := S.inn s hs
          refine ⟨a, ?_, d⟩
          simp only [List.map_cons, List.sum_cons]
          omega
        · obtain ⟨a, b, d⟩ := r1 s hs
          refine ⟨by omega, ?_, d⟩
          simp only [List.map_cons, List.sum_cons]
          omega
      · rw [List.flatMap_cons, List.map_append, List.pairwise_append]
        refine ⟨S.grow, r2, fun a ha b hb => ?_⟩
        obtain ⟨s, hs, rfl⟩ := List.mem_map.1 ha
        obtain ⟨s', hs', rfl⟩ := List.mem_map.1 hb
        have := (S.inn s hs).2.1
        have := (r1 s' hs').1
        omega
      · rw [List.flatMap_cons, List.length_append, List.map_cons, List.sum_cons, List.map_cons, List.sum_cons, S.sz, r3]
        omega
      · rw [List.map_cons, List.map_cons, S.er, r4]
theorem read_sites : ∀ (x : Tm) (takes : List Ty) (c : Nat) (y : Tm) (i : Ty), okTm x takes.length → (∀ u, u ∈ takes → goodY 4 u = true) → readS x takes c = some (y, i) → SitesOk (x.sz + 4) x y (c + 1) (c + x.sz) := by
  intro x
  induction x using Tm.ind with
  | h k n t f l ih =>
    intro takes c y i hok hT h
    obtain ⟨h0, h1⟩ := okTm_mk.1 hok
    obtain ⟨k1, k9, hl, _, ht, _, _⟩ := okTop_all h0
    obtain ⟨ps, us, e1, e2, e3, rfl⟩ := readS_some h
    have hlen := readL_length _ _ _ _ e1
    have hp : ∀ x, x ∈ l → ∀ c y i, readS x (takesIn k t takes) c = some (y, i) → goodY ((l.map Tm.sz).sum + 4) i = true ∧ SitesOk ((l.map Tm.sz).sum + 4) x y (c + 1) (c + x.sz) := by
      intro x hx c y i hr
      have hs := sz_mem l x hx
      have ho : okTm x (takesIn k t takes).length := by rw [takesIn_length]; exact h1 x hx
      have S := ih x hx _ c y i ho (takesIn_good ht hT) hr
      exact ⟨goodY_more _ _ _ (by omega) (read_good x _ c y i ho (takesIn_good ht hT) hr), fun s hsm => ⟨(S.inn s hsm).1, (S.inn s hsm).2.1, (S.inn s hsm).2.2.more (by omega)⟩, S.grow, S.sz, S.er⟩
    have hg : ∀ u, u ∈ ps.map (fun p => p.2.2) → goodY ((l.map Tm.sz).sum + 4) u = true := by
      intro u hu
      obtain ⟨j, hj, rfl⟩ := List.getElem_of_mem hu
      have hj' : j < ps.length := by simpa using hj
      have := readL_all (Q := fun _ _ _ i => goodY ((l.map Tm.sz).sum + 4) i = true) l _ ps e1 (fun x hx c y i hr => (hp x hx c y i hr).1) j hj' (by omega)
      simpa using this
    obtain ⟨r1, _, r3⟩ := rule_good ((l.map Tm.sz).sum + 4) (by omega) k1 k9 (by simpa using hlen.trans hl) ht (takesIn_good ht hT) hg e2
    have up : ∀ x, x ∈ l → ∀ c y i, readS x (takesIn k t takes) c = some (y, i) → goodY ((l.map Tm.sz).sum + 4 + 1) i = true ∧ SitesOk ((l.map Tm.sz).sum + 4 + 1) x y (c + 1) (c + x.sz) := by
      intro x hx c y i hr
      obtain ⟨g, S⟩ := hp x hx c y i hr
      exact ⟨goodY_more _ _ _ (by omega) g, fun s hsm => ⟨(S.inn s hsm).1, (S.inn s hsm).2.1, (S.inn s hsm).2.2.more (by omega)⟩, S.grow, S.sz, S.er⟩
    obtain ⟨s1, s2, s3, s4⟩ := castL_sites ((l.map Tm.sz).sum + 4 + 1) l (c + 1) ps us e1 (by simpa using r1) e3 r3 up
    have e : sitesM ⟨k, n, t, anyY, castL ps us⟩ = (castL ps us).flatMap sitesM := by rw [sitesM_mk, if_neg (by omega), List.nil_append]
    refine ⟨fun s hs => ?_, by rw [e]; exact s2, ?_, ?_⟩
    · rw [e] at hs
      obtain ⟨a, b, d⟩ := s1 s hs
      rw [Tm.sz_mk]
      exact ⟨a, by omega, d.more (by omega)⟩
    · rw [e, Tm.sz_mk, Tm.sz_mk, s3]
      omega
    · rw [eraseM_mk, eraseM_mk, s4]
end Go.Proofs.YtnddkmccagiclaaDoor

/-
  Casts of a term in a row of their own, and a row of terms that are still to be looked at, side by side; no program's run in it.
-/
namespace Go.Proofs.YtnddkmccagiclaaDoor
open Go.RowKit
structure St where
  n : Int
  f : Tr
  t : Tr
def St.m (s : St) : Int × Ty × Ty := (s.n, s.f.ty, s.t.ty)
def cell5 (s : St) : List Value := [.int .i64 s.n, .int .i64 s.f.k, .slice s.f.a s.f.l.length s.f.c, .int .i64 s.t.k, .slice s.t.a s.t.l.length s.t.c]
def cells5 (ss : List St) : List Value := ss.flatMap cell5
theorem cells5_append (a b : List St) : cells5 (a ++ b) = cells5 a ++ cells5 b := by simp [cells5]
theorem cells5_one (s : St) : cells5 [s] = cell5 s := by simp [cells5]
theorem cells5_at : ∀ (l : List St) (j : Nat) (h : j < l.length) (i : Nat), i < 5 → (cells5 l)[j * 5 + i]? = (cell5 l[j])[i]?
  | [], j, h, _, _ => by simp at h
  | x :: r, 0, _, i, hi => by
    have : cells5 (x :: r) = cell5 x ++ cells5 r := by simp [cells5]
    rw [this, List.getElem?_append_left (by simp [cell5]; omega)]
    simp
  | x :: r, j + 1, h, i, hi => by
    have ih := cells5_at r j (by simpa using h) i hi
    have e : cells5 (x :: r) = cell5 x ++ cells5 r := by simp [cells5]
    rw [e, List.getElem?_append_right (by simp [cell5]; omega)]
    have : (j + 1) * 5 + i - (cell5 x).length = j * 5 + i := by simp [cell5]; omega
    rw [this]
    simpa using ih
/-- The casts' types are not too deep. -/
def TT.cok : TT → Prop
  | ⟨k, _, t, f, _, _, l⟩ => (k = 10 → (t.right ∧ t.hgt ≤ 1000) ∧ f.right ∧ f.hgt ≤ 1000) ∧ ∀ y, y ∈ l → y.cok
theorem TT.cok_mk {k n : Int} {t f : Tr} {a : Option Addr} {c : Nat} {l : List TT} : (TT.mk k n t f a c l).cok ↔ (k = 10 → (t.right ∧ t.hgt ≤ 1000) ∧ f.right ∧ f.hgt ≤ 1000) ∧ ∀ y, y ∈ l → y.cok := by
  rw [TT.cok]
theorem TT.cok.top {x : TT} (h : x.cok) : x.k = 10 → (x.t.right ∧ x.t.hgt ≤ 1000) ∧ x.f.right ∧ x.f.hgt ≤ 1000 := by cases x; exact (TT.cok_mk.1 h).1
theorem TT.cok.mem {x y : TT} (h : x.cok) (hy : y ∈ x.l) : y.cok := by
  obtain ⟨k, n, t, f, a, c, l⟩ := x
  exact (TT.cok_mk.1 h).2 y hy
theorem cok_of (m : Nat) (hm : m ≤ 1000) : ∀ x : TT, (∀ s, s ∈ sitesM x.tm → goodY m s.2.1 = true ∧ goodY m s.2.2 = true) → x.cok := by
  intro x
  induction x using TT.ind with
  | h k n t f a c l ih =>
    intro h
    rw [TT.tm_mk, sitesM_mk] at h
    refine TT.cok_mk.2 ⟨fun hk => ?_, fun y hy => ih y hy fun s hs => h s ?_⟩
    · have := h (n, f.ty, t.ty) (by simp [hk])
      have h1 := good_facts hm (t := f) (by rw [goodT_eq]; exact this.1)
      have h2 := good_facts hm (t := t) (by rw [goodT_eq]; exact this.2)
      exact ⟨⟨h2.1, h2.2.1⟩, h1.1, h1.2.1⟩
    · exact List.mem_append.2 (.inr (List.mem_flatMap.2 ⟨y.tm, List.mem_map.2 ⟨y, hy, rfl⟩, hs⟩))
/-- The two rows. -/
structure SI (B : Nat) (v u : Value) (ps : List TT) (ss : List St) (w : World) : Prop where
  ov : w.ownsRow B 27 7 v ps.length (cells7 ps)
  ou : w.ownsRow B 46 5 u ss.length (cells5 ss)
  ne : ∀ g, v.ownBlock = some g → u.ownBlock ≠ some g
  pi : ∀ p, p ∈ ps → Pr1 B w p ∧ p.cok
  si : ∀ s, s ∈ ss → s.f.In w ∧ s.t.In w ∧ s.f.Bl (fun b => B ≤ b ∧ some b ≠ v.ownBlock ∧ some b ≠ u.ownBlock) ∧ s.t.Bl (fun b => B ≤ b ∧ some b ≠ v.ownBlock ∧ some b ≠ u.ownBlock)
theorem SI.below {B : Nat} {v u : Value} {ps : List TT} {ss : List St} {w w' : World} (h : SI B v u ps ss w) (hb : Below w.heap.size w w') (hB : B ≤ w.heap.size) : SI B v u ps ss w' :=
  ⟨ownsRow_low h.ov hb, ownsRow_low h.ou hb, h.ne, fun p hp => ⟨(h.pi p hp).1.low (hb.mono hB), (h.pi p hp).2⟩, fun s hs => ⟨(h.si s hs).1.below hb, (h.si s hs).2.1.below hb, (h.si s hs).2.2⟩⟩
/-- A row that other blocks' growing leaves alone. -/
theorem ownsRow_far {w2 w3 : World} {B e size n : Nat} {v u : Value} {xs : List Value} (h : w2.ownsRow B e size u n xs) (hblk : ∀ k, k < w2.heap.size → some k ≠ v.ownBlock → w3.heap[k]? = w2.heap[k]?) (hne : ∀ g, v.ownBlock = some g → u.ownBlock ≠ some g) : w3.ownsRow B e size u n xs := by
  refine ⟨h.1, ?_⟩
  rcases h.2 with hn | ⟨g, cap, cur, hv, hb, hg, rest⟩
  · exact .inl hn
  · refine .inr ⟨g, cap, cur, hv, hb, (hblk g (Array.getElem?_eq_some_iff.1 hg).1 fun e => hne g e.symm ?_).trans hg, rest⟩
    rw [hv]; rfl
theorem SI.grow {B : Nat} {v u : Value} {ps : List TT} {ss : List St} {w2 w3 : World} {x : Value} {gg : Nat} (h : SI B v u ps ss w2) (hB : B ≤ w2.heap.size) (hx : x = v ∨ x = u) (hblk : ∀ k, k < w2.heap.size → some k ≠ x.ownBlock → w3.heap[k]? = w2.heap[k]?) (hat : x.ownBlock = some gg ∨ w2.heap.size ≤ gg) :
    (∀ p, p ∈ ps → Pr1 B w3 p ∧ p.cok) ∧ ∀ s, s ∈ ss → s.f.In w3 ∧ s.t.In w3 ∧ s.f.Bl (fun b => (B ≤ b ∧ some b ≠ v.ownBlock ∧ some b ≠ u.ownBlock) ∧ b ≠ gg) ∧ s.t.Bl (fun b => (B ≤ b ∧ some b ≠ v.ownBlock ∧ some b ≠ u.ownBlock) ∧ b ≠ gg) := by
  have hxo : ∀ k, x.ownBlock = some k → B ≤ k := fun k hk => by
    rcases hx with rfl | rfl
    · exact (h.ov.lt k hk).1
    · exact (h.ou.lt k hk).1
  refine ⟨fun p hp => ⟨⟨(h.pi p hp).1.1.congr (P := (· < B)) (fun b hb o => ?_) (h.pi p hp).1.2, (h.pi p hp).1.2⟩, (h.pi p hp).2⟩, fun s hs => ?_⟩
  · exact World.cell?_of_block (a := ⟨b, o, none⟩) (hblk b (by omega) fun e => by have := hxo b e.symm; omega)
  · obtain ⟨h1, h2, h3, h4⟩ := h.si s hs
    have key : ∀ b, b < w2.heap.size ∧ (B ≤ b ∧ some b ≠ v.ownBlock ∧ some b ≠ u.ownBlock) → some b ≠ x.ownBlock := by
      intro b hb
      rcases hx with rfl | rfl
      · exact hb.2.2.1
      · exact hb.2.2.2
    have hc : ∀ b, b < w2.heap.size ∧ (B ≤ b ∧ some b ≠ v.ownBlock ∧ some b ≠ u.ownBlock) → ∀ o, w3.cell? ⟨b, o, none⟩ = w2.cell? ⟨b, o, none⟩ := fun b hb o =>
      World.cell?_of_block (a := ⟨b, o, none⟩) (hblk b hb.1 (key b hb))
    have hg : ∀ b, b < w2.heap.size ∧ (B ≤ b ∧ some b ≠ v.ownBlock ∧ some b ≠ u.ownBlock) → (B ≤ b ∧ some b ≠ v.ownBlock ∧ some b ≠ u.ownBlock) ∧ b ≠ gg := by
      intro b hb
      refine ⟨hb.2, fun e => ?_⟩
      subst e
      rcases hat with e | e
      · exact key b hb e.symm
      · omega
    exact ⟨h1.congr (P := fun b => b < w2.heap.size ∧ (B ≤ b ∧ some b ≠ v.ownBlock ∧ some b ≠ u.ownBlock)) hc (h1.bl.and h3), h2.congr (P := fun b => b < w2.heap.size ∧ (B ≤ b ∧ some b ≠ v.ownBlock ∧ some b ≠ u.ownBlock)) hc (h2.bl.and h4), (h1.bl.and h3).mono hg, (h2.bl.and h4).mono hg⟩
/-- One more term. -/
theorem SI.pushT {B : Nat} {v u : Value} {ps : List TT} {ss : List St} {w2 w3 : World} {c : TT} {gg cap1 : Nat} {X : Obj} (h : SI B v u ps ss w2) (hB : B ≤ w2.heap.size) (hc : Pr1 B w2 c ∧ c.cok)
    (hown : w3.ownsRow B 27 7 (.slice (some ⟨gg, 0, none⟩) (ps.length + 1) cap1) (ps.length + 1) (cells7 ps ++ cells7 [c])) (hgrow : (w2.alloc X).grownBy w3 v.ownBlock) (hat : v.ownBlock = some gg ∨ gg = w2.heap.size + 1) :
    SI B (.slice (some ⟨gg, 0, none⟩) (ps.length + 1) cap1) u (ps ++ [c]) ss w3 ∧ ∀ k, k < w2.heap.size → some k ≠ v.ownBlock → w3.heap[k]? = w2.heap[k]? := by
  have hblk : ∀ k, k < w2.heap.size → some k ≠ v.ownBlock → w3.heap[k]? = w2.heap[k]? := fun k hk hn => by
    rw [hgrow.block k (by simp; omega) hn]
    exact ((Below.refl _ w2).alloc (Nat.le_refl _) X).block k hk
  have hat' : v.ownBlock = some gg ∨ w2.heap.size ≤ gg := by
    rcases hat with e | e
    · exact .inl e
    · exact .inr (by omega)
  obtain ⟨g1, g2⟩ := h.grow hB (.inl rfl) hblk hat'
  have hcw : Pr1 B w3 c := ⟨hc.1.1.congr (P := (· < B)) (fun b hb o => World.cell?_of_block (a := ⟨b, o, none⟩) (hblk b (by omega) fun e => by have := (h.ov.lt b e.symm).1; omega)) hc.1.2, hc.1.2⟩
  refine ⟨⟨by rw [cells7_append, List.length_append, List.length_singleton]; exact hown, ownsRow_far h.ou hblk h.ne, fun g e => ?_, fun p hp => ?_, fun s hs => ?_⟩, hblk⟩
  · have : gg = g := Option.some.inj e
    subst this
    rcases hat with e | e
    · exact h.ne _ e
    · intro e2
      have := (h.ou.lt _ e2).2
      omega
  · rcases List.mem_append.1 hp with hp | hp
    · exact g1 p hp
    · rcases List.mem_singleton.1 hp with rfl
      exact ⟨hcw, hc.2⟩
  · obtain ⟨h1, h2, h3, h4⟩ := g2 s hs
    exact ⟨h1, h2, h3.mono fun b hb => ⟨hb.1.1, fun e => hb.2 (Option.some.inj e), hb.1.2.2⟩, h4.mono fun b hb => ⟨hb.1.1, fun e => hb.2 (Option.some.inj e), hb.1.2.2⟩⟩
/-- One more cast. -/
theorem SI.pushS {B : Nat} {v u : Value} {ps : List TT} {ss : List St} {w2 w3 : World} {s : St} {gg cap1 : Nat} {X : Obj} (h : SI B v u ps ss w2) (hB : B ≤ w2.heap.size) (hf : s.f.In w2) (ht : s.t.In w2) (bf : s.f.Bl (fun b => B ≤ b ∧ some b ≠ v.ownBlock ∧ some b ≠ u.ownBlock)) (bt : s.t.Bl (fun b => B ≤ b ∧ some b ≠ v.ownBlock ∧ some b ≠ u.ownBlock))
    (hown : w3.ownsRow B 46 5 (.slice (some ⟨gg, 0, none⟩) (ss.length + 1) cap1) (ss.length + 1) (cells5 ss ++ cells5 [s])) (hgrow : (w2.alloc X).grownBy w3 u.ownBlock) (hat : u.ownBlock = some gg ∨ gg = w2.heap.size + 1) :
    SI B v (.slice (some ⟨gg, 0, none⟩) (ss.length + 1) cap1) ps (ss ++ [s]) w3 ∧ ∀ k, k < w2.heap.size → some k ≠ u.ownBlock → w3.heap[k]? = w2.heap[k]? := by
  have hblk : ∀ k, k < w2.heap.size → some k ≠ u.ownBlock → w3.heap[k]? = w2.heap[k]? := fun k hk hn => by
    rw [hgrow.block k (by simp; omega) hn]
    exact ((Below.refl _ w2).alloc (Nat.le_refl _) X).block k hk
  have hat' : u.ownBlock = some gg ∨ w2.heap.size ≤ gg := by
    rcases hat with e | e
    · exact .inl e
    · exact .inr (by omega)
  have h' : SI B v u ps (ss ++ [s]) w2 → True := fun _ => trivial
  obtain ⟨g1, g2⟩ := h.grow hB (.inr rfl) hblk hat'
  have hne2 : ∀ g, u.ownBlock = some g → v.ownBlock ≠ some g := fun g e e2 => h.ne g e2 e
  have hs3 : s.f.In w3 ∧ s.t.In w3 ∧ s.f.Bl (fun b => (B ≤ b ∧ some b ≠ v.ownBlock ∧ some b ≠ u.ownBlock) ∧ b ≠ gg) ∧ s.t.Bl (fun b => (B ≤ b ∧ some b ≠ v.ownBlock ∧ some b ≠ u.ownBlock) ∧ b ≠ gg) := by
    have hc : ∀ b, b < w2.heap.size ∧ (B ≤ b ∧ some b ≠ v.ownBlock ∧ some b ≠ u.ownBlock) → ∀ o, w3.cell? ⟨b, o, none⟩ = w2.cell? ⟨b, o, none⟩ := fun b hb o =>
      World.cell?_of_block (a := ⟨b, o, none⟩) (hblk b hb.1 hb.2.2.2)
    have hg : ∀ b, b < w2.heap.size ∧ (B ≤ b ∧ some b ≠ v.ownBlock ∧ some b ≠ u.ownBlock) → (B ≤ b ∧ some b ≠ v.ownBlock ∧ some b ≠ u.ownBlock) ∧ b ≠ gg := by
      intro b hb
      refine ⟨hb.2, fun e => ?_⟩
      subst e
      rcases hat with e | e
      · exact hb.2.2.2 e.symm
      · omega
    exact ⟨hf.congr (P := fun b => b < w2.heap.size ∧ (B ≤ b ∧ some b ≠ v.ownBlock ∧ some b ≠ u.ownBlock)) hc (hf.bl.and bf), ht.congr (P := fun b => b < w2.heap.size ∧ (B ≤ b ∧ some b ≠ v.ownBlock ∧ some b ≠ u.ownBlock)) hc (ht.bl.and bt), (hf.bl.and bf).mono hg, (ht.bl.and bt).mono hg⟩
  refine ⟨⟨ownsRow_far h.ov hblk hne2, by rw [cells5_append, List.length_append, List.length_singleton]; exact hown, fun g e => ?_, g1, fun q hq => ?_⟩, hblk⟩
  · intro e2
    have : gg = g := Option.some.inj e2
    subst this
    rcases hat with e3 | e3
    · exact h.ne _ e e3
    · have := (h.ov.lt _ e).2
      omega
  · have key : q.f.In w3 ∧ q.t.In w3 ∧ q.f.Bl (fun b => (B ≤ b ∧ some b ≠ v.ownBlock ∧ some b ≠ u.ownBlock) ∧ b ≠ gg) ∧ q.t.Bl (fun b => (B ≤ b ∧ some b ≠ v.ownBlock ∧ some b ≠ u.ownBlock) ∧ b ≠ gg) := by
      rcases List.mem_append.1 hq with hq | hq
      · exact g2 q hq
      · rcases List.mem_singleton.1 hq with rfl
        exact hs3
    obtain ⟨h1, h2, h3, h4⟩ := key
    exact ⟨h1, h2, h3.mono fun b hb => ⟨hb.1.1, hb.1.2.1, fun e => hb.2 (Option.some.inj e)⟩, h4.mono fun b hb => ⟨hb.1.1, hb.1.2.1, fun e => hb.2 (Option.some.inj e)⟩⟩
/-- A row of casts lies in the world. -/
def SL (w : World) (a : Option Addr) (ss : List St) : Prop :=
  ∀ j (h : j < ss.length), ∃ b o, a = some ⟨b, o, none⟩ ∧ w.cell? ⟨b, o + j * 5, none⟩ = some (.int .i64 ss[j].n) ∧ w.cell? ⟨b, o + j * 5 + 1, none⟩ = some (.int .i64 ss[j].f.k) ∧ w.cell? ⟨b, o + j * 5 + 2, none⟩ = some (.slice ss[j].f.a ss[j].f.l.length ss[j].f.c) ∧ w.cell? ⟨b, o + j * 5 + 3, none⟩ = some (.int .i64 ss[j].t.k) ∧ w.cell? ⟨b, o + j * 5 + 4, none⟩ = some (.slice ss[j].t.a ss[j].t.l.length ss[j].t.c) ∧ ss[j].f.In w ∧ ss[j].t.In w
theorem SI.list {B : Nat} {v u : Value} {ps : List TT} {ss : List St} {w : World} (h : SI B v u ps ss w) : ∃ a c, u = .slice a ss.length c ∧ (SL w a ss ∧ ss.length ≤ c) := by
  rcases h.ou.2 with ⟨rfl, h0⟩ | ⟨g, cap, cur, rfl, hg, _, hcl, _⟩
  · have : ss = [] := List.length_eq_zero_iff.1 h0
    subst this
    exact ⟨none, 0, rfl, fun j hj => absurd hj (by simp), by simp⟩
  · refine ⟨_, _, rfl, fun j hj => ⟨g, 0, rfl, ?_⟩, hcl⟩
    have hc : ∀ i, i < 5 → w.cell? ⟨g, 0 + j * 5 + i, none⟩ = _ := fun i hi => by rw [Nat.zero_add, h.ou.cellAt (j * 5 + i) (by omega), cells5_at ss j hj i hi]
    exact ⟨hc 0 (by omega), hc 1 (by omega), hc 2 (by omega), hc 3 (by omega), hc 4 (by omega), (h.si _ (List.getElem_mem hj)).1, (h.si _ (List.getElem_mem hj)).2.1⟩
/-- What is still to come. -/
def todo (ps : List TT) : List (Int × Ty × Ty) := ps.reverse.flatMap fun p => sitesM p.tm
theorem todo_snoc (us : List TT) (p : TT) : todo (us ++ [p]) = sitesM p.tm ++ todo us := by simp [todo]
theorem sitesM_tt (p : TT) : sitesM p.tm = (if p.k = 10 then [(p.n, p.f.ty, p.t.ty)] else []) ++ todo (p.l.reverse) := by
  obtain ⟨k, n, t, f, a, c, l⟩ := p
  rw [TT.tm_mk, sitesM_mk]
  simp [todo, List.flatMap_map]
theorem todo_append (us vs : List TT) : todo (us ++ vs) = todo vs ++ todo us := by simp [todo]
end Go.Proofs.YtnddkmccagiclaaDoor
