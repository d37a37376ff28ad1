/-
  What a call of ref's function that casts comes to, where its argument passes.
-/
import Derived.Test.YtnddkmccagiclabGreatDoorLotd0b6ed7d0d
namespace Go.Proofs.YtnddkmccagiclabGreatDoor
open Go.RowKit
set_option maxRecDepth 20000 in
set_option maxHeartbeats 4000000 in
theorem pro_on (M R F c : Nat) (Q : Nat → Prop) (h v X : Th) (w : World) (hp : Pro R Q w h v) (hvi : v.In true M R Q w) (hX : X.In true M R Q w) (hXo : okTh true (h.t.ty.l.getD 0 anyY) X) (hw : Wl R (F - c) out0 w) (hQ : ¬ Q R) (nw : ∀ b, w.heap.size ≤ b → Q b) (hwy : h.wy = 2) (hg : (chg (castOf (h.t.ty.l.getD 0 anyY) (h.f.ty.l.getD 0 anyY) ⟨4, h.no, !h.back⟩) X.val).1.k = 0)
    (j : Nat) (hj : j = 95 ∨ j = 131) (caps : Array Value) (hfn : v.fn = .func (.func j) #[] caps)
    (ih : Hid (∀ (Q' : Nat → Prop) (Y : Th) (W : World), v.In true M R Q' W → Y.In true M R Q' W → okTh true (h.f.ty.l.getD 0 anyY) Y → Wl R (F - c) out0 W → ¬ Q' R → (∀ b, W.heap.size ≤ b → Q' b) → Calls Tryz.prog j (#[.agg #[.int .i64 Y.k, .int .i64 Y.n, Y.fn, .int .i64 Y.tag]] ++ caps) W (ThPost true M R F c Q' W (h.f.ty.l.getD 1 anyY) (fun r V c' => DoS true F v.cv Y.val (h.f.ty.l.getD 1 anyY) c r V c')))) :
    Calls Tryz.prog 131 #[.agg #[.int .i64 X.k, .int .i64 X.n, X.fn, .int .i64 X.tag], .pointer (some ⟨h.b1, 0, none⟩), .pointer (some ⟨h.b2, 0, none⟩), .pointer (some ⟨h.b3, 0, none⟩), .pointer (some ⟨h.b4, 0, none⟩), .pointer (some ⟨h.b5, 0, none⟩), .pointer (some ⟨h.b6, 0, none⟩)] w (ThPost true M R F c Q w (h.t.ty.l.getD 1 anyY) (fun r V c' => DoS true F h.cv X.val (h.t.ty.l.getD 1 anyY) c r V c')) := by
  have hXt : tyV X.val (h.t.ty.l.getD 0 anyY) := (hXo rfl).2 ▸ (hX.cty (hXo rfl).1).2
  obtain ⟨t0, t1, bt, ot, htl, hta, htn, a0, a1, a2, a3, ti0, ti1, htt, tg0, tg1, htB⟩ := fun_parts hp.ti hp.tg hp.tk
  obtain ⟨f0, f1, bf, of, hfl, hfa, hfn2, d0, d1, d2, d3, fi0, fi1, hft, fg0, fg1, hfB⟩ := fun_parts hp.fi hp.fg hp.fk
  obtain ⟨qbt, tb0, tb1⟩ := htB Q hp.tb
  obtain ⟨qbf, fb0, fb1⟩ := hfB Q hp.fb
  have hlr := hw.lt
  have e0 : h.t.ty.l.getD 0 anyY = t0.ty := by rw [htt]; rfl
  have e1 : h.t.ty.l.getD 1 anyY = t1.ty := by rw [htt]; rfl
  have e2 : h.f.ty.l.getD 0 anyY = f0.ty := by rw [hft]; rfl
  have e3 : h.f.ty.l.getD 1 anyY = f1.ty := by rw [hft]; rfl
  rw [e0] at hXt hXo
  have hfit := hp.fits
  rw [hft, htt, funY, funY, two _ _ _ _ _ rfl] at hfit
  obtain ⟨hfit0, hfit1⟩ : relY escFits f0.ty t0.ty = true ∧ relY escFits f1.ty t1.ty = true := by simpa using hfit
  have hfit0' : relY escFits t0.ty f0.ty = true := by rw [fits_sym 45 _ _ tg0 fg0]; exact hfit0
  replace tg0 := goodY_more 45 46 _ (by omega) tg0
  replace tg1 := goodY_more 45 46 _ (by omega) tg1
  replace fg0 := goodY_more 45 46 _ (by omega) fg0
  replace fg1 := goodY_more 45 46 _ (by omega) fg1
  have hcv : h.cv = withV v.cv (castOf t0.ty f0.ty ⟨4, h.no, !h.back⟩) (castOf f1.ty t1.ty ⟨4, h.no, h.back⟩) := by
    rw [Th.cv_eq, hwy, if_neg (by decide), if_pos rfl, hp.inn, e0, e1, e2, e3]
    rfl
  have hG : tyC (castOf t0.ty f0.ty ⟨4, h.no, !h.back⟩) t0.ty f0.ty := castOf_ty tg0 fg0 hfit0' rfl
  have hA : tyC (castOf f1.ty t1.ty ⟨4, h.no, h.back⟩) f1.ty t1.ty := castOf_ty fg1 tg1 hfit1 rfl
  have hU : tyV v.cv (funY f0.ty f1.ty) := hft ▸ hp.ty
  rw [e2, e3] at ih
  rw [e1, hcv]
  obtain ⟨W1, hW1⟩ : ∃ W, W = (w.alloc (.cells #[.int .i64 X.k, .int .i64 X.n, X.fn, .int .i64 X.tag] 103)).alloc (.cells #[.int .i64 0, .int .i64 0, .nilFunc, .int .i64 0] 103) := ⟨_, rfl⟩
  have hB : PB X w W1 := by rw [hW1]; exact pb_start X w
  have hl1 : Below w.heap.size w W1 := by rw [hW1]; exact pb_low X w
  have hs1 : W1.heap.size = w.heap.size + 1 + 1 := by rw [hW1]; simp
  have HB : Hid (PB X w W1 ∧ Below w.heap.size w W1 ∧ Wl R (F - c) out0 W1) := ⟨hB, hl1, hw.below hl1⟩
  have hone := hX.one
  have hst : ∀ (a : Addr) (m : Mode) (W : World), (store a X.fn m).run Tryz.prog W = stored Tryz.prog W a X.fn m := fun a m W => run_storeOne hone
  have hne : ∀ b, Q b → b ≠ R := fun b hb e => hQ (e ▸ hb)
  have hcell : ∀ W, Kept R none W1 W → ∀ b i u, w.cell? ⟨b, i, none⟩ = some u → Q b → W.cell? ⟨b, i, none⟩ = some u := fun W hk b i u e hb => hk.cell ((hl1.cell (p := ⟨b, i, none⟩) (World.block_lt_of_cell? _ _ e)).trans e) (hne b hb)
  have ht1 := hp.t1
  rw [hta, htn] at ht1
  have hf1 := hp.f1
  rw [hfa, hfn2] at hf1
  have HK : Hid (∀ W, Kept R none W1 W → W.cell? ⟨h.b1, 0, none⟩ = some (.pointer (some ⟨R, 0, none⟩)) ∧ W.cell? ⟨w.heap.size, 0, none⟩ = some (.int .i64 X.k) ∧ W.cell? ⟨w.heap.size, 1, none⟩ = some (.int .i64 X.n) ∧ W.cell? ⟨w.heap.size, 2, none⟩ = some X.fn ∧ W.cell? ⟨w.heap.size, 3, none⟩ = some (.int .i64 X.tag) ∧ W.cell? ⟨h.b2, 1, none⟩ = some (.slice (some ⟨bt, ot, none⟩) 2 h.t.c) ∧ W.cell? ⟨bt, ot, none⟩ = some (.int .i64 t0.k) ∧ W.cell? ⟨bt, ot + 1, none⟩ = some (.slice t0.a t0.l.length t0.c) ∧ W.cell? ⟨h.b3, 1, none⟩ = some (.slice (some ⟨bf, of, none⟩) 2 h.f.c) ∧ W.cell? ⟨bf, of, none⟩ = some (.int .i64 f0.k) ∧ W.cell? ⟨bf, of + 1, none⟩ = some (.slice f0.a f0.l.length f0.c) ∧ W.cell? ⟨h.b4, 0, none⟩ = some (.int .i64 h.no) ∧ W.cell? ⟨h.b5, 0, none⟩ = some (.bool h.back)) := fun W hk =>
    ⟨hcell W hk _ _ _ hp.w1 hp.b1, hk.cell hB.x4.c0 (by omega), hk.cell hB.x4.c1 (by omega), hk.cell hB.x4.c2 (by omega), hk.cell hB.x4.c3 (by omega), hcell W hk _ _ _ ht1 hp.b2, hcell W hk _ _ _ a0 qbt, hcell W hk _ _ _ a1 qbt, hcell W hk _ _ _ hf1 hp.b3, hcell W hk _ _ _ d0 qbf, hcell W hk _ _ _ d1 qbf, hcell W hk _ _ _ hp.n4 hp.b4, hcell W hk _ _ _ hp.k5 hp.b5⟩
  have hsm : ∀ W, Kept R none W1 W → Same Q w W := fun W hk b hb hq => by
    rw [hk.block b (by have := hl1.size; omega) (hne b hq) (by simp)]
    exact hl1.block b hb
  have hsQ : ∀ W, Kept R none W1 W → ∀ Z : Th, Z.In true M R Q w → Z.In true M R (fun x => Q x ∧ x ≠ w.heap.size + 1) W := fun W hk Z hZ => (hZ.mono (Q' := fun x => Q x ∧ x ≠ w.heap.size + 1) fun x h1 h2 => ⟨h2, by omega⟩).same fun b h1 h2 => hsm W hk b h1 h2.1
  rw [e0, e2] at hg
  have HC1 : Hid (∀ (z : Nat) (W : World), Kept R none W1 W → Wl R (F - c) out0 W → w.heap.size ≤ z → z < W.heap.size → Calls Tryz.prog 97 #[.pointer (some ⟨R, 0, none⟩), .agg #[.int .i64 X.k, .int .i64 X.n, X.fn, .int .i64 X.tag], .agg #[.int .i64 t0.k, .slice t0.a t0.l.length t0.c], .agg #[.int .i64 f0.k, .slice f0.a f0.l.length f0.c], .int .i64 h.no, .bool (!h.back)] W fun e w' => Kept R none W w' ∧ Wl R (F - c) out0 w' ∧ ∃ y : Th, e = .returned (.agg #[.int .i64 y.k, .int .i64 y.n, y.fn, .int .i64 y.tag]) ∧ y.In true M R (fun x => Q x ∧ x ≠ w.heap.size + 1 ∧ x ≠ z) w' ∧ (y.val = (chg (castOf t0.ty f0.ty ⟨4, h.no, !h.back⟩) X.val).2 ∧ okTh true f0.ty y)) := fun z W hk hwl hz1 hz2 =>
    (rcast_any M R (F - c) (fun x => Q x ∧ x ≠ w.heap.size + 1 ∧ x ≠ z) X t0 f0 h.no (!h.back) W ((hX.mono (Q' := (fun x => Q x ∧ x ≠ w.heap.size + 1 ∧ x ≠ z)) fun x h1 h2 => ⟨h2, by omega, by omega⟩).same fun b h1 h2 => hsm W hk b h1 h2.1) (ti0.same (hsm W hk) tb0) (fi0.same (hsm W hk) fb0) tg0 fg0 hfit0' hXt ((tb0.and ti0.bl).mono fun b hb => ⟨hb.1, by omega, by omega⟩) ((fb0.and fi0.bl).mono fun b hb => ⟨hb.1, by omega, by omega⟩) hwl (fun hx => hQ hx.1) (fun b hb => ⟨nw b (by have := hk.size; omega), by have := hk.size; omega, by have := hk.size; omega⟩)).mono (by
      rintro e w' ⟨h1, ⟨h2, _⟩ | ⟨_, h3, y, h4, h5, h6⟩⟩
      · exact absurd hg h2
      · exact ⟨h1, h3, y, h4, h5, h6.1, fun _ => h6.2 (hXo rfl).1 (hXo rfl).2⟩)
  have i0 : (0 : Int) < ((2 : Nat) : Int) := by omega
  have nR : ∀ b, w.heap.size ≤ b → b ≠ R := fun b hb => by omega
  have HP : Hid (Pro R Q w h v ∧ v.In true M R Q w ∧ (∀ b, Q b → b ≠ R) ∧ (∀ b, w.heap.size ≤ b → Q b) ∧ ¬ Q R) := ⟨hp, hvi, hne, nw, hQ⟩
  have HSM : Hid (∀ W, Kept R none W1 W → Same Q w W) := hsm
  have HT : Hid (t1.In w ∧ f1.In w ∧ t1.Bl Q ∧ f1.Bl Q ∧ goodY 46 t1.ty = true ∧ goodY 46 f1.ty = true ∧ relY escFits f1.ty t1.ty = true ∧ tyV v.cv (funY f0.ty f1.ty) ∧ tyC (castOf t0.ty f0.ty ⟨4, h.no, !h.back⟩) t0.ty f0.ty ∧ tyC (castOf f1.ty t1.ty ⟨4, h.no, h.back⟩) f1.ty t1.ty ∧ tyV X.val t0.ty ∧ (chg (castOf t0.ty f0.ty ⟨4, h.no, !h.back⟩) X.val).1.k = 0) := ⟨ti1, fi1, tb1, fb1, tg1, fg1, hfit1, hU, hG, hA, hXt, hg⟩
  have HL : Hid (v.fn = .func (.func j) #[] caps ∧ w.cell? ⟨bt, ot + 2, none⟩ = some (.int .i64 t1.k) ∧ w.cell? ⟨bt, ot + 3, none⟩ = some (.slice t1.a t1.l.length t1.c) ∧ w.cell? ⟨bf, of + 2, none⟩ = some (.int .i64 f1.k) ∧ w.cell? ⟨bf, of + 3, none⟩ = some (.slice f1.a f1.l.length f1.c) ∧ Q bt ∧ Q bf ∧ w.cell? ⟨h.b2, 1, none⟩ = some (.slice (some ⟨bt, ot, none⟩) 2 h.t.c) ∧ w.cell? ⟨h.b3, 1, none⟩ = some (.slice (some ⟨bf, of, none⟩) 2 h.f.c)) := ⟨hfn, a2, a3, d2, d3, qbt, qbf, ht1, hf1⟩
  have hk0 : Kept R none W1 W1.drew := Kept.of_below ((Below.refl _ _).drew)
  have hwl0 : Wl R (F - c) out0 W1.drew := HB.out.2.2.below ((Below.refl _ _).drew)
  clear hg hcell hsm hsQ hp hvi hX hXt hXo hw hQ nw hfn ti0 ti1 fi0 fi1 tb0 tb1 fb0 fb1 tg0 tg1 fg0 fg1 hfit hfit0 hfit0' hfit1 hcv hG hA hU htt hft htB hfB e0 e1 e2 e3 htl hfl hta hfa htn hfn2 a0 a1 a2 a3 d0 d1 d2 d3 ht1 hf1 hone qbt qbf hwy hB hne
  go_enter Tryz.func131, Tryz.ntmps131
  go_upto_region 1 with fail
  rw [← hW1]
  clear hW1
  go_cut [9] (fun t9 wx => ∃ b9 : Nat, t9 = .pointer (some ⟨b9, 0, none⟩) ∧ Hid (w.heap.size + 1 < b9 ∧ Kept R none W1 wx ∧ Wl R (F - c) out0 wx ∧ ∃ y : Th, At4 wx b9 0 y ∧ y.In true M R (fun x => Q x ∧ x ≠ w.heap.size + 1) wx ∧ (y.val = (chg (castOf t0.ty f0.ty ⟨4, h.no, !h.back⟩) X.val).2 ∧ okTh true f0.ty y)))
  case first =>
    refine wp_region_held_drew (S := fun W => W.cell? ⟨h.b1, 0, none⟩ = some (.pointer (some ⟨R, 0, none⟩)) ∧ W.cell? ⟨w.heap.size, 0, none⟩ = some (.int .i64 X.k) ∧ W.cell? ⟨w.heap.size, 1, none⟩ = some (.int .i64 X.n) ∧ W.cell? ⟨w.heap.size, 2, none⟩ = some X.fn ∧ W.cell? ⟨w.heap.size, 3, none⟩ = some (.int .i64 X.tag) ∧ W.cell? ⟨h.b2, 1, none⟩ = some (.slice (some ⟨bt, ot, none⟩) 2 h.t.c) ∧ W.cell? ⟨bt, ot, none⟩ = some (.int .i64 t0.k) ∧ W.cell? ⟨bt, ot + 1, none⟩ = some (.slice t0.a t0.l.length t0.c) ∧ W.cell? ⟨h.b3, 1, none⟩ = some (.slice (some ⟨bf, of, none⟩) 2 h.f.c) ∧ W.cell? ⟨bf, of, none⟩ = some (.int .i64 f0.k) ∧ W.cell? ⟨bf, of + 1, none⟩ = some (.slice f0.a f0.l.length f0.c) ∧ W.cell? ⟨h.b4, 0, none⟩ = some (.int .i64 h.no) ∧ W.cell? ⟨h.b5, 0, none⟩ = some (.bool h.back)) (by kernel_rfl) (HK.out _ hk0) (fun hHeld => ?_)
    refine takeHL (i := 0) (v := ?_) rfl (by kernel_rfl) (by kernel_rfl) (by kernel_rfl) (fun _ _ _ h => h) (Or.inl ⟨by rfl, ?_⟩) hHeld ?_; rotate_left; (focus (intro w' hSw; (try dsimp only at hSw); go_split_ands; first | (go_simp; done) | (go_simp; with_reducible rfl))); simp only [Act.put, List.setIfInBounds_toArray, List.set_cons_zero, List.set_cons_succ]
    refine takeHL (i := 1) (v := ?_) rfl (by kernel_rfl) (by kernel_rfl) (by kernel_rfl) (fun _ _ _ h => h) (Or.inl ⟨by rfl, ?_⟩) hHeld ?_; rotate_left; (focus (intro w' hSw; (try dsimp only at hSw); go_split_ands; first | (go_simp; done) | (go_simp; with_reducible rfl))); simp only [Act.put, List.setIfInBounds_toArray, List.set_cons_zero, List.set_cons_succ]
    refine takeHL (i := 2) (v := ?_) rfl (by kernel_rfl) (by kernel_rfl) (by kernel_rfl) (fun _ _ _ h => h) (Or.inl ⟨by rfl, ?_⟩) hHeld ?_; rotate_left; (focus (intro w' hSw; (try dsimp only at hSw); go_split_ands; first | (go_simp; done) | (go_simp; with_reducible rfl))); simp only [Act.put, List.setIfInBounds_toArray, List.set_cons_zero, List.set_cons_succ]
    refine takeHL (i := 3) (v := ?_) rfl (by kernel_rfl) (by kernel_rfl) (by kernel_rfl) (fun _ _ _ h => h) (Or.inl ⟨by rfl, ?_⟩) hHeld ?_; rotate_left; (focus (intro w' hSw; (try dsimp only at hSw); go_split_ands; first | (go_simp; done) | (go_simp; with_reducible rfl))); simp only [Act.put, List.setIfInBounds_toArray, List.set_cons_zero, List.set_cons_succ]
    refine takeHL (i := 4) (v := ?_) rfl (by kernel_rfl) (by kernel_rfl) (by kernel_rfl) (fun _ _ _ h => h) (Or.inl ⟨by rfl, ?_⟩) hHeld ?_; rotate_left; (focus (intro w' hSw; (try dsimp only at hSw); go_split_ands; first | (go_simp; done) | (go_simp; with_reducible rfl))); simp only [Act.put, List.setIfInBounds_toArray, List.set_cons_zero, List.set_cons_succ]
    refine takeHL (i := 5) (v := ?_) rfl (by kernel_rfl) (by kernel_rfl) (by kernel_rfl) (fun _ _ _ h => h) (Or.inl ⟨by rfl, ?_⟩) hHeld ?_; rotate_left; (focus (intro w' hSw; (try dsimp only at hSw); go_split_ands; first | (go_simp; done) | (go_simp; with_reducible rfl))); simp only [Act.put, List.setIfInBounds_toArray, List.set_cons_zero, List.set_cons_succ]
    refine takeHL (i := 6) (v := ?_) rfl (by kernel_rfl) (by kernel_rfl) (by kernel_rfl) (fun _ _ _ h => h) (Or.inl ⟨by rfl, ?_⟩) hHeld ?_; rotate_left; (focus (intro w' hSw; (try dsimp only at hSw); go_split_ands; first | (go_simp; done) | (go_simp; with_reducible rfl))); simp only [Act.put, List.setIfInBounds_toArray, List.set_cons_zero, List.set_cons_succ]
    refine takeHL (i := 7) (v := ?_) rfl (by kernel_rfl) (by kernel_rfl) (by kernel_rfl) (fun _ _ _ h => h) (Or.inl ⟨by rfl, ?_⟩) hHeld ?_; rotate_left; (focus (intro w' hSw; (try dsimp only at hSw); go_split_ands; first | (go_simp; done) | (go_simp; with_reducible rfl))); simp only [Act.put, List.setIfInBounds_toArray, List.set_cons_zero, List.set_cons_succ]
    refine takeHL (i := 8) (v := ?_) rfl (by kernel_rfl) (by kernel_rfl) (by kernel_rfl) (fun _ _ _ h => h) (Or.inl ⟨by rfl, ?_⟩) hHeld ?_; rotate_left; (focus (intro w' hSw; (try dsimp only at hSw); go_split_ands; first | (go_simp; done) | (go_simp; with_reducible rfl))); simp only [Act.put, List.setIfInBounds_toArray, List.set_cons_zero, List.set_cons_succ]
    refine takeHL (i := 9) (v := ?_) rfl (by kernel_rfl) (by kernel_rfl) (by kernel_rfl) (fun _ _ _ h => h) (Or.inl ⟨by rfl, ?_⟩) hHeld ?_; rotate_left; (focus (intro w' hSw; (try dsimp only at hSw); go_split_ands; first | (go_simp; done) | (go_simp; with_reducible rfl))); simp only [Act.put, List.setIfInBounds_toArray, List.set_cons_zero, List.set_cons_succ]
    refine takeHL (i := 10) (v := ?_) rfl (by kernel_rfl) (by kernel_rfl) (by kernel_rfl) (fun _ _ _ h => h) (Or.inl ⟨by rfl, ?_⟩) hHeld ?_; rotate_left; (focus (intro w' hSw; (try dsimp only at hSw); go_split_ands; first | (go_simp; done) | (go_simp; with_reducible rfl))); simp only [Act.put, List.setIfInBounds_toArray, List.set_cons_zero, List.set_cons_succ]
    refine takeHL (i := 11) (v := ?_) rfl (by kernel_rfl) (by kernel_rfl) (by kernel_rfl) (fun _ _ _ h => h) (Or.inl ⟨by rfl, ?_⟩) hHeld ?_; rotate_left; (focus (intro w' hSw; (try dsimp only at hSw); go_split_ands; first | (go_simp; done) | (go_simp; with_reducible rfl))); simp only [Act.put, List.setIfInBounds_toArray, List.set_cons_zero, List.set_cons_succ]
    refine takeHL (i := 12) (v := ?_) rfl (by kernel_rfl) (by kernel_rfl) (by kernel_rfl) (fun _ _ _ h => h) (Or.inl ⟨by rfl, ?_⟩) hHeld ?_; rotate_left; (focus (intro w' hSw; (try dsimp only at hSw); go_split_ands; first | (go_simp; done) | (go_simp; with_reducible rfl))); simp only [Act.put, List.setIfInBounds_toArray, List.set_cons_zero, List.set_cons_succ]
    refine twoHL (i := 13) (j := 14) rfl rfl (by kernel_rfl) (fun K hK => ?_) (fun K hK => ?_)
    · go_simp
      refine (HC1.out w.heap.size _ hk0 hwl0 (Nat.le_refl _) (by show _ < W1.heap.size; omega)).mono ?_
      rintro e w2 ⟨h2, hw2, y, rfl, hyi, hyv⟩
      have hone := hyi.one
      have hst3 : ∀ (a : Addr) (m : Mode) (W : World), (store a y.fn m).run Tryz.prog W = stored Tryz.prog W a y.fn m := fun a m W => run_storeOne hone
      have hk2 : Kept R none W1 w2 := hk0.trans h2
      have HY : Hid (y.In true M R (fun x => Q x ∧ x ≠ w.heap.size + 1 ∧ x ≠ w.heap.size) w2 ∧ (y.val = (chg (castOf t0.ty f0.ty ⟨4, h.no, !h.back⟩) X.val).2 ∧ okTh true f0.ty y)) := ⟨hyi, hyv⟩
      clear hyi hyv hone
      dsimp only
      refine hK.out _ _ (HK.out _ hk2) (fun hHeld => ?_)
      clear hK K
      (try simp only [Act.put, List.setIfInBounds_toArray, List.set_cons_zero, List.set_cons_succ])
      refine oneHL (i := 14) rfl (by kernel_rfl) (fun K hK => ?_)
      go_simp
      refine hK.out _ _ (HK.out _ (hk2.trans (Kept.of_below ((Below.refl _ _).alloc (Nat.le_refl _) _)))) (fun hHeld => ?_)
      clear hK K
      (try simp only [Act.put, List.setIfInBounds_toArray, List.set_cons_zero, List.set_cons_succ])
      refine oneHL (i := 15) rfl (by kernel_rfl) (fun K hK => ?_)
      go_simp
      have hbV : Below w2.heap.size w2 (w2.alloc (.cells #[.int .i64 y.k, .int .i64 y.n, y.fn, .int .i64 y.tag] 103)) := (Below.refl _ _).alloc (Nat.le_refl _) _
      refine hK.out _ _ (HK.out _ (hk2.trans (Kept.of_below hbV))) (fun hHeld => ?_)
      clear hK K
      (try simp only [Act.put, List.setIfInBounds_toArray, List.set_cons_zero, List.set_cons_succ])
      refine wpAnyH_done (by kernel_rfl) ?_ _
      have HN : Hid _ := (⟨by have := hk2.size; omega, hk2.trans (Kept.of_below hbV), hw2.below hbV, y, ⟨by simp [go_sem], by simp [go_sem], by simp [go_sem], by simp [go_sem]⟩, (HY.out.1.same (Same.of_below hbV)).mono (fun x _ hx => ⟨hx.1, hx.2.1⟩), HY.out.2⟩ : (fun (b9 : Nat) (wx : World) => w.heap.size + 1 < b9 ∧ Kept R none W1 wx ∧ Wl R (F - c) out0 wx ∧ ∃ y : Th, At4 wx b9 0 y ∧ y.In true M R (fun x => Q x ∧ x ≠ w.heap.size + 1) wx ∧ (y.val = (chg (castOf t0.ty f0.ty ⟨4, h.no, !h.back⟩) X.val).2 ∧ okTh true f0.ty y)) w2.heap.size (w2.alloc (.cells #[.int .i64 y.k, .int .i64 y.n, y.fn, .int .i64 y.tag] 103)))
      clear hHeld
      go_wp2_with fail
      go_meet
      case rel => exact ⟨_, rfl, HN⟩
    · go_simp
      have hk3 : Kept R none W1 (W1.alloc (.cells #[.int .i64 0, .int .i64 0, .nilFunc, .int .i64 0] 103)).drew := Kept.of_below (((Below.refl _ _).alloc (Nat.le_refl _) _).drew)
      refine hK.out _ _ (HK.out _ hk3) (fun hHeld => ?_)
      clear hK K
      (try simp only [Act.put, List.setIfInBounds_toArray, List.set_cons_zero, List.set_cons_succ])
      refine oneHL (i := 13) rfl (by kernel_rfl) (fun K hK => ?_)
      go_simp
      refine (HC1.out (w.heap.size + 1 + 1) _ hk3 (HB.out.2.2.below (((Below.refl _ _).alloc (Nat.le_refl _) _).drew)) (by omega) (by show _ < (W1.alloc (.cells #[.int .i64 0, .int .i64 0, .nilFunc, .int .i64 0] 103)).heap.size; simp [hs1])).mono ?_
      rintro e w2 ⟨h2, hw2, y, rfl, hyi, hyv⟩
      have hone := hyi.one
      have hst3 : ∀ (a : Addr) (m : Mode) (W : World), (store a y.fn m).run Tryz.prog W = stored Tryz.prog W a y.fn m := fun a m W => run_storeOne hone
      have hk2 : Kept R none W1 w2 := hk3.trans h2
      have q9 : Rb w2 (w.heap.size + 1 + 1) := by
        have q8 : Rb (W1.alloc (.cells #[.int .i64 0, .int .i64 0, .nilFunc, .int .i64 0] 103)).drew W1.heap.size := (Rb.new W1).below ((Below.refl _ _).drew)
        rw [hs1] at q8
        exact q8.kept h2 (by omega)
      obtain ⟨⟨g0, g1, g2, g3⟩, hk9⟩ := q9.set (.int .i64 y.k) (.int .i64 y.n) y.fn (.int .i64 y.tag)
      have HN : Hid _ := (⟨by omega, hk2.new hk9 (by omega), hw2.same hk9 (by omega), y, ⟨g0, g1, g2, g3⟩, (hyi.same (Same.of_kept hk9 fun hx => hx.2.2 rfl)).mono (fun x _ hx => ⟨hx.1, hx.2.1⟩), hyv⟩ : (fun (b9 : Nat) (wx : World) => w.heap.size + 1 < b9 ∧ Kept R none W1 wx ∧ Wl R (F - c) out0 wx ∧ ∃ y : Th, At4 wx b9 0 y ∧ y.In true M R (fun x => Q x ∧ x ≠ w.heap.size + 1) wx ∧ (y.val = (chg (castOf t0.ty f0.ty ⟨4, h.no, !h.back⟩) X.val).2 ∧ okTh true f0.ty y)) (w.heap.size + 1 + 1) ((((w2.setCell ⟨w.heap.size + 1 + 1, 0, none⟩ (.int .i64 y.k)).setCell ⟨w.heap.size + 1 + 1, 1, none⟩ (.int .i64 y.n)).setCell ⟨w.heap.size + 1 + 1, 2, none⟩ y.fn).setCell ⟨w.heap.size + 1 + 1, 3, none⟩ (.int .i64 y.tag)))
      have hkV := hk2.new hk9 (by omega)
      obtain ⟨p0, p1, p2, p3, x0, x1, x2, x3⟩ := q9
      clear hyi hyv hone g0 g1 g2 g3 hk9
      dsimp only
      refine hK.out _ _ (HK.out _ hk2) (fun hHeld => ?_)
      clear hK K
      (try simp only [Act.put, List.setIfInBounds_toArray, List.set_cons_zero, List.set_cons_succ])
      refine oneHL (i := 15) rfl (by kernel_rfl) (fun K hK => ?_)
      go_simp
      refine hK.out _ _ (HK.out _ hkV) (fun hHeld => ?_)
      clear hK K
      (try simp only [Act.put, List.setIfInBounds_toArray, List.set_cons_zero, List.set_cons_succ])
      refine wpAnyH_done (by kernel_rfl) ?_ _
      obtain ⟨V, hV⟩ : ∃ V, V = (((w2.setCell ⟨w.heap.size + 1 + 1, 0, none⟩ (.int .i64 y.k)).setCell ⟨w.heap.size + 1 + 1, 1, none⟩ (.int .i64 y.n)).setCell ⟨w.heap.size + 1 + 1, 2, none⟩ y.fn).setCell ⟨w.heap.size + 1 + 1, 3, none⟩ (.int .i64 y.tag) := ⟨_, rfl⟩
      rw [← hV] at HN
      rw [← hV]
      clear hV hHeld hkV p0 p1 p2 p3 x0 x1 x2 x3 hw2 hk2 h2
      go_wp2_with fail
      go_meet
      case rel => exact ⟨_, rfl, HN⟩
  case rest =>
  obtain ⟨b9, rfl, HCUT⟩ := hcut
  obtain ⟨lb9, hkc, hwc, y, hy4, hyi, hyv⟩ := HCUT.out
  have HY : Hid (Kept R none W1 wc ∧ Wl R (F - c) out0 wc ∧ y.In true M R (fun x => Q x ∧ x ≠ w.heap.size + 1) wc ∧ (y.val = (chg (castOf t0.ty f0.ty ⟨4, h.no, !h.back⟩) X.val).2 ∧ okTh true f0.ty y)) := ⟨hkc, hwc, hyi, hyv⟩
  obtain ⟨q1, _⟩ := HK.out _ hkc
  have q2 : wc.cell? ⟨h.b6, 2, none⟩ = some (.func (.func j) #[] caps) := by
    have := (HP.out.1.v6.same (HSM.out _ hkc) HP.out.1.b6).c2
    rw [HL.out.1] at this
    exact this
  obtain ⟨c0, c1, _, _, _, _, _, _⟩ := hwc
  replace c1 : wc.cell? ⟨R, 1, none⟩ = some (.int .i64 0) := c1
  obtain ⟨y0, y1, y2, y3⟩ := hy4
  simp only [Nat.zero_add] at y1 y2 y3
  clear hkc hyi hyv HCUT hk0 hwl0 HC1
  have HI : Hid (Calls Tryz.prog j (#[.agg #[.int .i64 y.k, .int .i64 y.n, y.fn, .int .i64 y.tag]] ++ caps) wc (ThPost true M R F c (fun x => Q x ∧ x ≠ w.heap.size + 1) wc f1.ty (fun r V c' => DoS true F v.cv y.val f1.ty c r V c'))) := by
    obtain ⟨k1, k2, k3, k4⟩ := HY.out
    exact ih.out (fun x => Q x ∧ x ≠ w.heap.size + 1) y wc ((HP.out.2.1.mono (Q' := (fun x => Q x ∧ x ≠ w.heap.size + 1)) fun x h1 h2 => ⟨h2, by omega⟩).same fun b h1 h2 => HSM.out _ k1 b h1 h2.1) k3 k4.2 k2 (fun hx => HP.out.2.2.2.2 hx.1) (fun b hb => ⟨HP.out.2.2.2.1 b (by have := k1.size; omega), by have := k1.size; omega⟩)
  apply_assumption
  go_upto_region 4 with fail
  go_cut [10] (fun t10 wx => ∃ b10 : Nat, t10 = .pointer (some ⟨b10, 0, none⟩) ∧ Hid (w.heap.size + 1 < b10 ∧ Kept R none W1 wx ∧ ∃ (r : Out) (V : Val) (c' : Nat), DoS true F v.cv (chg (castOf t0.ty f0.ty ⟨4, h.no, !h.back⟩) X.val).2 f1.ty c r V c' ∧ c ≤ c' ∧ c' ≤ F ∧ Wl R (F - c') r wx ∧ (r.k ≠ 0 ∨ (r = out0 ∧ ∃ z : Th, At4 wx b10 0 z ∧ z.In true M R (fun x => Q x ∧ x ≠ w.heap.size + 1) wx ∧ (z.val = V ∧ okTh true f1.ty z)))))
  case first =>
    rcases hj with rfl | rfl
    all_goals
      go_wp2_with fail
      refine HI.out.mono ?_
      rintro e w3 ⟨hk3, r, V, c', hS, hc1, hc2, hw3, ⟨hr, rfl⟩ | ⟨rfl, z, rfl, hzi, hzv⟩⟩
      · have hb3 : Below w3.heap.size w3 (w3.alloc (.cells #[.int .i64 0, .int .i64 0, .nilFunc, .int .i64 0] 103)) := (Below.refl _ _).alloc (Nat.le_refl _) _
        have HN : Hid _ := (⟨by have := HY.out.1.size; have := hk3.size; omega, (HY.out.1.trans hk3).trans (Kept.of_below hb3), r, V, c', HY.out.2.2.2.1 ▸ hS, hc1, hc2, hw3.below hb3, .inl hr⟩ : (fun (b10 : Nat) (wx : World) => w.heap.size + 1 < b10 ∧ Kept R none W1 wx ∧ ∃ (r : Out) (V : Val) (c' : Nat), DoS true F v.cv (chg (castOf t0.ty f0.ty ⟨4, h.no, !h.back⟩) X.val).2 f1.ty c r V c' ∧ c ≤ c' ∧ c' ≤ F ∧ Wl R (F - c') r wx ∧ (r.k ≠ 0 ∨ (r = out0 ∧ ∃ z : Th, At4 wx b10 0 z ∧ z.In true M R (fun x => Q x ∧ x ≠ w.heap.size + 1) wx ∧ (z.val = V ∧ okTh true f1.ty z)))) w3.heap.size (w3.alloc (.cells #[.int .i64 0, .int .i64 0, .nilFunc, .int .i64 0] 103)))
        clear hk3 hS hc1 hc2 hw3 hr hb3 y0 y1 y2 y3 c0 c1 q1 q2
        simp only [noV]
        go_wp2_with fail
        go_meet
        case rel => exact ⟨_, rfl, HN⟩
      · have hb3 : Below w3.heap.size w3 (w3.alloc (.cells #[.int .i64 z.k, .int .i64 z.n, z.fn, .int .i64 z.tag] 103)) := (Below.refl _ _).alloc (Nat.le_refl _) _
        have hone := hzi.one
        have hst4 : ∀ (a : Addr) (m : Mode) (W : World), (store a z.fn m).run Tryz.prog W = stored Tryz.prog W a z.fn m := fun a m W => run_storeOne hone
        have HN : Hid _ := (⟨by have := HY.out.1.size; have := hk3.size; omega, (HY.out.1.trans hk3).trans (Kept.of_below hb3), out0, V, c', HY.out.2.2.2.1 ▸ hS, hc1, hc2, hw3.below hb3, .inr ⟨rfl, z, ⟨by simp [go_sem], by simp [go_sem], by simp [go_sem], by simp [go_sem]⟩, hzi.same (Same.of_below hb3), hzv⟩⟩ : (fun (b10 : Nat) (wx : World) => w.heap.size + 1 < b10 ∧ Kept R none W1 wx ∧ ∃ (r : Out) (V : Val) (c' : Nat), DoS true F v.cv (chg (castOf t0.ty f0.ty ⟨4, h.no, !h.back⟩) X.val).2 f1.ty c r V c' ∧ c ≤ c' ∧ c' ≤ F ∧ Wl R (F - c') r wx ∧ (r.k ≠ 0 ∨ (r = out0 ∧ ∃ z : Th, At4 wx b10 0 z ∧ z.In true M R (fun x => Q x ∧ x ≠ w.heap.size + 1) wx ∧ (z.val = V ∧ okTh true f1.ty z)))) w3.heap.size (w3.alloc (.cells #[.int .i64 z.k, .int .i64 z.n, z.fn, .int .i64 z.tag] 103)))
        clear hk3 hS hc1 hc2 hw3 hb3 hzi hzv hone y0 y1 y2 y3 c0 c1 q1 q2
        simp only [Th.ag]
        go_wp2_with fail
        go_meet
        case rel => exact ⟨_, rfl, HN⟩
  case rest =>
  obtain ⟨b10, rfl, HCC⟩ := hcut
  obtain ⟨lb10, hkc, r, V, c', hS, hc1, hc2, hwc, hcase⟩ := HCC.out
  obtain ⟨hS, hSt⟩ : ApX F v.cv (chg (castOf t0.ty f0.ty ⟨4, h.no, !h.back⟩) X.val).2 f1.ty c r V c' ∧ (r.k = 0 → tyV V f1.ty) := by
    rcases hS with ⟨_, h1, h2⟩ | ⟨h1, _⟩
    · exact ⟨h1, h2⟩
    · cases h1
  clear HCC HI HY y0 y1 y2 y3 c0 c1 q1 q2 ih hj
  obtain ⟨q1, _⟩ := HK.out _ hkc
  have hr9 := (HB.out.1.kept hkc hlr).r
  obtain ⟨p1, p2, p3, p4, p5, p6, p7, hU, hG, hA, hXt, hg⟩ := HT.out
  rcases hcase with hr | ⟨rfl, z, hz4, hzi, hzv⟩
  · have hgk : (r.k != 0) = true := by simpa using hr
    have HF : Hid (Kept R none W1 wc ∧ Wl R (F - c') r wc ∧ Rb wc (w.heap.size + 1) ∧ ApX F (withV v.cv (castOf t0.ty f0.ty ⟨4, h.no, !h.back⟩) (castOf f1.ty t1.ty ⟨4, h.no, h.back⟩)) X.val t1.ty c r (numV 0) c' ∧ r.k ≠ 0) := ⟨hkc, hwc, hr9, ap_prox2 hU hG hA hXt hg hS hr, hr⟩
    obtain ⟨c0, c1, _, _, _, _, _, _⟩ := hwc
    obtain ⟨r0, r1, r2, r3, y0, y1, y2, y3⟩ := hr9
    clear hkc hS hSt hr hU hG hA hXt hg p1 p2 p3 p4 p5 p6 p7
    apply_assumption
    go_wp2_with fail
    obtain ⟨⟨e0, e1, e2, e3⟩, hk⟩ := HF.out.2.2.1.set (.int .i64 0) (.int .i64 0) .nilFunc (.int .i64 0)
    refine bodyPost_ret (v := noV) ?_ rfl ⟨((Kept.of_below HB.out.2.1).trans HF.out.1).new hk (by omega), r, numV 0, c', .inl ⟨rfl, HF.out.2.2.2.1, fun h0 => absurd h0 HF.out.2.2.2.2⟩, hc1, hc2, HF.out.2.1.same hk (by omega), .inl ⟨HF.out.2.2.2.2, rfl⟩⟩
    simp [results, Tryz.results131, go_sem, noV, e0, e1, e2, e3]
  · have hzt : tyV z.val f1.ty := hzv.1 ▸ hSt rfl
    have HR : Hid (ApX F (withV v.cv (castOf t0.ty f0.ty ⟨4, h.no, !h.back⟩) (castOf f1.ty t1.ty ⟨4, h.no, h.back⟩)) X.val t1.ty c (chg (castOf f1.ty t1.ty ⟨4, h.no, h.back⟩) z.val).1 (chg (castOf f1.ty t1.ty ⟨4, h.no, h.back⟩) z.val).2 c' ∧ ((chg (castOf f1.ty t1.ty ⟨4, h.no, h.back⟩) z.val).1.k = 0 → tyV (chg (castOf f1.ty t1.ty ⟨4, h.no, h.back⟩) z.val).2 t1.ty)) := ⟨ap_prox3 hU hG hA hXt hg (hzv.1 ▸ hS), (chg_ty hA hzt).1⟩
    have HC97 : Hid (∀ W, Kept R none wc W → Wl R (F - c') out0 W → Calls Tryz.prog 97 #[.pointer (some ⟨R, 0, none⟩), .agg #[.int .i64 z.k, .int .i64 z.n, z.fn, .int .i64 z.tag], .agg #[.int .i64 f1.k, .slice f1.a f1.l.length f1.c], .agg #[.int .i64 t1.k, .slice t1.a t1.l.length t1.c], .int .i64 h.no, .bool h.back] W (CaPost M R (F - c') (fun x => Q x ∧ x ≠ w.heap.size + 1) W (chg (castOf f1.ty t1.ty ⟨4, h.no, h.back⟩) z.val) (caP z f1 t1))) := fun W hk hwl => by
      have hsm : Same Q w W := HSM.out _ (hkc.trans hk)
      have hsz := hkc.size
      have hsz2 := hk.size
      exact rcast_any M R (F - c') (fun x => Q x ∧ x ≠ w.heap.size + 1) z f1 t1 h.no h.back W (hzi.same (Same.of_kept hk fun hx => HP.out.2.2.2.2 hx.1)) (p2.same hsm p4) (p1.same hsm p3) p6 p5 p7 hzt ((p4.and p2.bl).mono fun b hb => ⟨hb.1, by omega⟩) ((p3.and p1.bl).mono fun b hb => ⟨hb.1, by omega⟩) hwl (fun hx => HP.out.2.2.2.2 hx.1) (fun b hb => ⟨HP.out.2.2.2.1 b (by omega), by omega⟩)
    have HK2 : Hid (∀ W, SK R (w.heap.size + 1) wc W → W.cell? ⟨h.b1, 0, none⟩ = some (.pointer (some ⟨R, 0, none⟩)) ∧ W.cell? ⟨b10, 0, none⟩ = some (.int .i64 z.k) ∧ W.cell? ⟨b10, 1, none⟩ = some (.int .i64 z.n) ∧ W.cell? ⟨b10, 2, none⟩ = some z.fn ∧ W.cell? ⟨b10, 3, none⟩ = some (.int .i64 z.tag) ∧ W.cell? ⟨h.b3, 1, none⟩ = some (.slice (some ⟨bf, of, none⟩) 2 h.f.c) ∧ W.cell? ⟨bf, of + 2, none⟩ = some (.int .i64 f1.k) ∧ W.cell? ⟨bf, of + 3, none⟩ = some (.slice f1.a f1.l.length f1.c) ∧ W.cell? ⟨h.b2, 1, none⟩ = some (.slice (some ⟨bt, ot, none⟩) 2 h.t.c) ∧ W.cell? ⟨bt, ot + 2, none⟩ = some (.int .i64 t1.k) ∧ W.cell? ⟨bt, ot + 3, none⟩ = some (.slice t1.a t1.l.length t1.c) ∧ W.cell? ⟨h.b4, 0, none⟩ = some (.int .i64 h.no) ∧ W.cell? ⟨h.b5, 0, none⟩ = some (.bool h.back)) := fun W hk => by
      obtain ⟨_, l2, l3, l4, l5, l6, l7, l8, l9⟩ := HL.out
      have hsm : Same Q w wc := HSM.out _ hkc
      have hp := HP.out.1
      have hcl : ∀ b i u, w.cell? ⟨b, i, none⟩ = some u → Q b → W.cell? ⟨b, i, none⟩ = some u := fun b i u e hb => hk b i u (hsm.cell e hb) (HP.out.2.2.1 b hb) (by have : b < w.heap.size := World.block_lt_of_cell? _ _ e; omega)
      exact ⟨hcl _ _ _ hp.w1 hp.b1, hk _ _ _ hz4.c0 (by omega) (by omega), hk _ _ _ hz4.c1 (by omega) (by omega), hk _ _ _ hz4.c2 (by omega) (by omega), hk _ _ _ hz4.c3 (by omega) (by omega), hcl _ _ _ l9 hp.b3, hcl _ _ _ l4 l7, hcl _ _ _ l5 l7, hcl _ _ _ l8 hp.b2, hcl _ _ _ l2 l6, hcl _ _ _ l3 l6, hcl _ _ _ hp.n4 hp.b4, hcl _ _ _ hp.k5 hp.b5⟩
    have HF : Hid (Kept R none W1 wc ∧ Wl R (F - c') out0 wc ∧ Rb wc (w.heap.size + 1)) := ⟨hkc, hwc, hr9⟩
    have i1 : (1 : Int) < ((2 : Nat) : Int) := by omega
    obtain ⟨c0, c1, _, _, _, _, _, _⟩ := hwc
    replace c1 : wc.cell? ⟨R, 1, none⟩ = some (.int .i64 0) := c1
    have hkn : Kept R none wc wc.drew := Kept.of_below ((Below.refl _ _).drew)
    have hsk : SK R (w.heap.size + 1) wc wc.drew := (SK.refl _ _ _).kept hkn
    have hwn : Wl R (F - c') out0 wc.drew := HF.out.2.1.below ((Below.refl _ _).drew)
    by_cases hg2 : (chg (castOf f1.ty t1.ty ⟨4, h.no, h.back⟩) z.val).1.k = 0
    · have HC3 : Hid (Calls Tryz.prog 97 #[.pointer (some ⟨R, 0, none⟩), .agg #[.int .i64 z.k, .int .i64 z.n, z.fn, .int .i64 z.tag], .agg #[.int .i64 f1.k, .slice f1.a f1.l.length f1.c], .agg #[.int .i64 t1.k, .slice t1.a t1.l.length t1.c], .int .i64 h.no, .bool h.back] wc.drew fun e w' => Kept R none wc.drew w' ∧ (chg (castOf f1.ty t1.ty ⟨4, h.no, h.back⟩) z.val).1 = out0 ∧ Wl R (F - c') out0 w' ∧ ∃ g : Th, e = .returned (.agg #[.int .i64 g.k, .int .i64 g.n, g.fn, .int .i64 g.tag]) ∧ g.In true M R (fun x => Q x ∧ x ≠ w.heap.size + 1) w' ∧ (g.val = (chg (castOf f1.ty t1.ty ⟨4, h.no, h.back⟩) z.val).2 ∧ okTh true t1.ty g)) := (HC97.out _ hkn hwn).mono (by
        rintro e w' ⟨h1, ⟨h2, _⟩ | ⟨h2, h3, g, h4, h5, h6⟩⟩
        · exact absurd hg2 h2
        · exact ⟨h1, h2, h3, g, h4, h5, h6.1, fun _ => h6.2 (hzv.2 rfl).1 (hzv.2 rfl).2⟩)
      clear hkc hS hSt hU hG hA hXt hg p1 p2 p3 p4 p5 p6 p7 hr9 hz4 hzi hzv hzt hwn hg2
      apply_assumption
      go_upto_region 7 with fail
      go_region_held3 (fun W => W.cell? ⟨h.b1, 0, none⟩ = some (.pointer (some ⟨R, 0, none⟩)) ∧ W.cell? ⟨b10, 0, none⟩ = some (.int .i64 z.k) ∧ W.cell? ⟨b10, 1, none⟩ = some (.int .i64 z.n) ∧ W.cell? ⟨b10, 2, none⟩ = some z.fn ∧ W.cell? ⟨b10, 3, none⟩ = some (.int .i64 z.tag) ∧ W.cell? ⟨h.b3, 1, none⟩ = some (.slice (some ⟨bf, of, none⟩) 2 h.f.c) ∧ W.cell? ⟨bf, of + 2, none⟩ = some (.int .i64 f1.k) ∧ W.cell? ⟨bf, of + 3, none⟩ = some (.slice f1.a f1.l.length f1.c) ∧ W.cell? ⟨h.b2, 1, none⟩ = some (.slice (some ⟨bt, ot, none⟩) 2 h.t.c) ∧ W.cell? ⟨bt, ot + 2, none⟩ = some (.int .i64 t1.k) ∧ W.cell? ⟨bt, ot + 3, none⟩ = some (.slice t1.a t1.l.length t1.c) ∧ W.cell? ⟨h.b4, 0, none⟩ = some (.int .i64 h.no) ∧ W.cell? ⟨h.b5, 0, none⟩ = some (.bool h.back))
        (first | exact HK2.out _ hsk | exact HK2.out _ ((((hsk.set _ _).set _ _).set _ _).set _ _) | fail)
        (first
          | (go_at_call 97; refine HC3.out.mono ?_; rintro e w4 ⟨h4, ho, hw4, g, rfl, hgi, hgv⟩; have HZ : Hid (Kept R none wc w4 ∧ (chg (castOf f1.ty t1.ty ⟨4, h.no, h.back⟩) z.val).1 = out0 ∧ Wl R (F - c') out0 w4 ∧ g.In true M R (fun x => Q x ∧ x ≠ w.heap.size + 1) w4 ∧ (g.val = (chg (castOf f1.ty t1.ty ⟨4, h.no, h.back⟩) z.val).2 ∧ okTh true t1.ty g) ∧ Rb w4 (w.heap.size + 1)) := ⟨hkn.trans h4, ho, hw4, hgi, hgv, HF.out.2.2.kept (hkn.trans h4) (by omega)⟩; have hst4 : ∀ (a : Addr) (m : Mode) (W : World), (store a g.fn m).run Tryz.prog W = stored Tryz.prog W a g.fn m := (fun a m W => run_storeOne hgi.one); replace hsk := hsk.kept h4; clear h4 ho hw4 hgi hgv hkn; obtain ⟨r0, r1, r2, r3, y0, y1, y2, y3⟩ := HZ.out.2.2.2.2.2)
          | fail)
      go_wp2_with fail
      obtain ⟨z1, z2, z3, z4, z5, z6⟩ := HZ.out
      have hend := th_end (m := true) (M := M) (Q := Q) (h := g) z6 (by omega) hlr (((Kept.of_below HB.out.2.1).trans HF.out.1).trans z1) z3 z4 (fun x hx => hx)
      obtain ⟨⟨e0, e1, e2, e3⟩, hk, hW, hi⟩ := hend
      refine bodyPost_ret (v := g.ag) ?_ rfl ⟨hk, (chg (castOf f1.ty t1.ty ⟨4, h.no, h.back⟩) z.val).1, (chg (castOf f1.ty t1.ty ⟨4, h.no, h.back⟩) z.val).2, c', .inl ⟨rfl, HR.out⟩, hc1, hc2, by rw [z2]; exact hW, .inr ⟨z2, g, rfl, hi, z5⟩⟩
      simp [results, Tryz.results131, go_sem, Th.ag, e0, e1, e2, e3]
    · have HC3 : Hid (Calls Tryz.prog 97 #[.pointer (some ⟨R, 0, none⟩), .agg #[.int .i64 z.k, .int .i64 z.n, z.fn, .int .i64 z.tag], .agg #[.int .i64 f1.k, .slice f1.a f1.l.length f1.c], .agg #[.int .i64 t1.k, .slice t1.a t1.l.length t1.c], .int .i64 h.no, .bool h.back] wc.drew fun e w' => Kept R none wc.drew w' ∧ Wl R (F - c') (chg (castOf f1.ty t1.ty ⟨4, h.no, h.back⟩) z.val).1 w' ∧ e = .returned (.agg #[.int .i64 0, .int .i64 0, .nilFunc, .int .i64 0])) := (HC97.out _ hkn hwn).mono (by
        rintro e w' ⟨h1, ⟨_, h3, h4⟩ | ⟨h2, _⟩⟩
        · exact ⟨h1, h4, h3⟩
        · exact absurd (by rw [h2]; rfl) hg2)
      have HG2 : Hid ((chg (castOf f1.ty t1.ty ⟨4, h.no, h.back⟩) z.val).1.k ≠ 0) := hg2
      clear hkc hS hSt hU hG hA hXt hg p1 p2 p3 p4 p5 p6 p7 hr9 hz4 hzi hzv hzt hwn hg2
      apply_assumption
      go_upto_region 7 with fail
      go_region_held3 (fun W => W.cell? ⟨h.b1, 0, none⟩ = some (.pointer (some ⟨R, 0, none⟩)) ∧ W.cell? ⟨b10, 0, none⟩ = some (.int .i64 z.k) ∧ W.cell? ⟨b10, 1, none⟩ = some (.int .i64 z.n) ∧ W.cell? ⟨b10, 2, none⟩ = some z.fn ∧ W.cell? ⟨b10, 3, none⟩ = some (.int .i64 z.tag) ∧ W.cell? ⟨h.b3, 1, none⟩ = some (.slice (some ⟨bf, of, none⟩) 2 h.f.c) ∧ W.cell? ⟨bf, of + 2, none⟩ = some (.int .i64 f1.k) ∧ W.cell? ⟨bf, of + 3, none⟩ = some (.slice f1.a f1.l.length f1.c) ∧ W.cell? ⟨h.b2, 1, none⟩ = some (.slice (some ⟨bt, ot, none⟩) 2 h.t.c) ∧ W.cell? ⟨bt, ot + 2, none⟩ = some (.int .i64 t1.k) ∧ W.cell? ⟨bt, ot + 3, none⟩ = some (.slice t1.a t1.l.length t1.c) ∧ W.cell? ⟨h.b4, 0, none⟩ = some (.int .i64 h.no) ∧ W.cell? ⟨h.b5, 0, none⟩ = some (.bool h.back))
        (first | exact HK2.out _ hsk | exact HK2.out _ ((((hsk.set _ _).set _ _).set _ _).set _ _) | fail)
        (first
          | (go_at_call 97; refine HC3.out.mono ?_; rintro e w4 ⟨h4, hw4, rfl⟩; have HZ : Hid (Kept R none wc w4 ∧ Wl R (F - c') (chg (castOf f1.ty t1.ty ⟨4, h.no, h.back⟩) z.val).1 w4 ∧ Rb w4 (w.heap.size + 1)) := ⟨hkn.trans h4, hw4, HF.out.2.2.kept (hkn.trans h4) (by omega)⟩; replace hsk := hsk.kept h4; clear h4 hw4 hkn; obtain ⟨r0, r1, r2, r3, y0, y1, y2, y3⟩ := HZ.out.2.2)
          | fail)
      go_wp2_with fail
      obtain ⟨z1, z2, z3⟩ := HZ.out
      obtain ⟨⟨e0, e1, e2, e3⟩, hk⟩ := z3.set (.int .i64 0) (.int .i64 0) .nilFunc (.int .i64 0)
      refine bodyPost_ret (v := noV) ?_ rfl ⟨(((Kept.of_below HB.out.2.1).trans HF.out.1).trans z1).new hk (by omega), (chg (castOf f1.ty t1.ty ⟨4, h.no, h.back⟩) z.val).1, (chg (castOf f1.ty t1.ty ⟨4, h.no, h.back⟩) z.val).2, c', .inl ⟨rfl, HR.out⟩, hc1, hc2, z2.same hk (by omega), .inl ⟨HG2.out, rfl⟩⟩
      simp [results, Tryz.results131, go_sem, noV, e0, e1, e2, e3]
/-- A call of a function that was cast. -/
theorem pro_any (M R F c : Nat) (Q : Nat → Prop) (h v X : Th) (w : World) (hp : Pro R Q w h v) (hvi : v.In true M R Q w) (hX : X.In true M R Q w) (hXo : okTh true (h.t.ty.l.getD 0 anyY) X) (hw : Wl R (F - c) out0 w) (hc : c ≤ F) (hQ : ¬ Q R) (nw : ∀ b, w.heap.size ≤ b → Q b) (hwy : h.wy = 2)
    (j : Nat) (hj : j = 95 ∨ j = 131) (caps : Array Value) (hfn : v.fn = .func (.func j) #[] caps)
    (ih : Hid (∀ (Q' : Nat → Prop) (Y : Th) (W : World), v.In true M R Q' W → Y.In true M R Q' W → okTh true (h.f.ty.l.getD 0 anyY) Y → Wl R (F - c) out0 W → ¬ Q' R → (∀ b, W.heap.size ≤ b → Q' b) → Calls Tryz.prog j (#[.agg #[.int .i64 Y.k, .int .i64 Y.n, Y.fn, .int .i64 Y.tag]] ++ caps) W (ThPost true M R F c Q' W (h.f.ty.l.getD 1 anyY) (fun r V c' => DoS true F v.cv Y.val (h.f.ty.l.getD 1 anyY) c r V c')))) :
    Calls Tryz.prog 131 #[.agg #[.int .i64 X.k, .int .i64 X.n, X.fn, .int .i64 X.tag], .pointer (some ⟨h.b1, 0, none⟩), .pointer (some ⟨h.b2, 0, none⟩), .pointer (some ⟨h.b3, 0, none⟩), .pointer (some ⟨h.b4, 0, none⟩), .pointer (some ⟨h.b5, 0, none⟩), .pointer (some ⟨h.b6, 0, none⟩)] w (ThPost true M R F c Q w (h.t.ty.l.getD 1 anyY) (fun r V c' => DoS true F h.cv X.val (h.t.ty.l.getD 1 anyY) c r V c')) := by
  by_cases hg : (chg (castOf (h.t.ty.l.getD 0 anyY) (h.f.ty.l.getD 0 anyY) ⟨4, h.no, !h.back⟩) X.val).1.k = 0
  · exact pro_on M R F c Q h v X w hp hvi hX hXo hw hQ nw hwy hg j hj caps hfn ih
  · exact pro_ended M R F c Q h v X w hp hX ((hXo rfl).2 ▸ (hX.cty (hXo rfl).1).2) hw hc hQ nw hwy hg
end Go.Proofs.YtnddkmccagiclabGreatDoor

/-
  Calls of ref's functions, whichever, given its eval where a call less is left.
-/
namespace Go.Proofs.YtnddkmccagiclabGreatDoor
open Go.RowKit
theorem fn_inj {a b : Nat} {x y : Array Value} (h : Value.func (.func a) #[] x = .func (.func b) #[] y) : a = b ∧ x = y := by
  simpa using h
theorem do_at {m : Bool} {M R F c : Nat} (hF : F ≤ 1000) (hM : M ≤ 10000) (hc : c ≤ F) (ev : c < F → EvAt m M R F (c + 1)) : DoAt m M R F c := by
  intro h
  induction h using Th.ind with
  | h h ie ii =>
    intro A B j caps hwy hfn hok Q X W hi hX hXo hw hQ nw
    rcases Th.In_iff.1 hi with ⟨h0, _⟩ | ⟨h1, hcl, henv⟩ | ⟨h2, hm, ⟨v, hp⟩, hinn⟩
    · omega
    · obtain ⟨rfl, rfl⟩ := fn_inj (hfn.symm.trans hcl.fn)
      have hl : h.x.l.length = 1 := by
        have := hcl.xs.1.top.2.2.1
        rw [TT.tm_l, List.length_map, TT.tm_k, hcl.xk] at this
        exact this
      obtain ⟨y, hy⟩ : ∃ y, h.x.l = [y] := List.length_eq_one_iff.1 hl
      have e : h.x.tm.at 0 = y.tm := by rw [Tm.at, TT.tm_l, hy]; rfl
      have hl' : 0 < h.x.tm.l.length := by rw [TT.tm_l, List.length_map]; omega
      by_cases hcF : c = F
      · exact clo_fuel m M R F c Q h X B W hcl hX hw hcF hQ h1
      · obtain ⟨k, hk⟩ : ∃ k, F - c = k + 1 := ⟨F - c - 1, by omega⟩
        refine clo_on m M R F c k Q h X y B W hcl henv hX hw hk hF hM hQ nw h1 hy (fun Q' ea ec W' hyi hyb hE hw' hQ' nw' => ?_)
        refine ev (by omega) y (X :: h.env) B ea ec ⟨⟨e ▸ hcl.xs.1.part hl', fun hm => e ▸ (hcl.xs.2 hm).part hl'⟩, ?_, fun hm => ?_⟩ Q' W' hyi hyb hE hw' hQ' nw'
        · have h1 := hcl.sz
          have h2 := part_tsz hl'
          rw [e] at h2
          simp only [List.length_cons]
          omega
        · obtain ⟨ho, hty⟩ := hok hm
          rcases (Th.ok_iff.1 ho).2 with ⟨h', _⟩ | ⟨_, ⟨A', B', e1, hM'⟩, hen⟩ | ⟨h', _⟩
          · omega
          · rw [hty] at e1
            obtain ⟨rfl, rfl⟩ := funY_inj e1
            rw [e] at hM'
            obtain ⟨a1, a2⟩ := hXo hm
            refine ⟨?_, fun u hu => ?_⟩
            · rw [List.map_cons, a2]; exact hM'
            · rcases List.mem_cons.1 hu with rfl | hu
              · exact a1
              · exact hen u hu
          · omega
    · subst hm
      obtain ⟨rfl, rfl⟩ := fn_inj (hfn.symm.trans hp.fn)
      obtain ⟨ho, hty⟩ := hok rfl
      have e0 : h.t.ty.l.getD 0 anyY = A := by rw [hty]; rfl
      have e1 : h.t.ty.l.getD 1 anyY = B := by rw [hty]; rfl
      have hvm : v ∈ h.inn := by rw [hp.inn]; simp
      have hvi := hinn v hvm
      obtain ⟨hvo, hvt⟩ : v.ok ∧ v.t.ty = h.f.ty := by
        rcases (Th.ok_iff.1 ho).2 with ⟨h', _⟩ | ⟨h', _⟩ | ⟨_, hh⟩
        · omega
        · omega
        · exact hh v hvm
      obtain ⟨f0, f1, hf, _, _⟩ := fun_of hp.fg (by rw [Tr.ty_k]; exact hp.fk)
      obtain ⟨j', caps', hj', hvfn, hvwy⟩ : ∃ j' caps', (j' = 95 ∨ j' = 131) ∧ v.fn = .func (.func j') #[] caps' ∧ (v.wy = 1 ∨ v.wy = 2) := by
        rcases Th.In_iff.1 hvi with ⟨w0, _⟩ | ⟨w1, c1, _⟩ | ⟨w2, _, ⟨u, p⟩, _⟩
        · exfalso
          rcases (Th.ok_iff.1 hvo).2 with ⟨_, ⟨_, e⟩ | ⟨_, e⟩⟩ | ⟨h', _⟩ | ⟨h', _⟩
          · rw [hvt, hf] at e; simp [funY, numY] at e
          · rw [hvt, hf] at e; simp [funY, truthY] at e
          · omega
          · omega
        · exact ⟨95, _, .inl rfl, c1.fn, .inl w1⟩
        · exact ⟨131, _, .inr rfl, p.fn, .inr w2⟩
      have key := pro_any M R F c Q h v X W hp hvi hX (by rw [e0]; exact hXo) hw hc hQ nw h2 j' hj' caps' hvfn (fun Q' Y W' a1 a2 a3 a4 a5 a6 => ii v hvm (h.f.ty.l.getD 0 anyY) (h.f.ty.l.getD 1 anyY) j' caps' hvwy hvfn (fun _ => ⟨hvo, by rw [hvt, hf]; rfl⟩) Q' Y W' a1 a2 a3 a4 a5 a6)
      rw [e1] at key
      exact key
end Go.Proofs.YtnddkmccagiclabGreatDoor

/-
  What ref's eval answers at a function.
-/
namespace Go.Proofs.YtnddkmccagiclabGreatDoor
open Go.RowKit
/-- A function and where it stands. -/
def cloT (s : Nat) (x : TT) (ea : Option Addr) (ec : Nat) (E : List Th) (i : Ty) : Th := ⟨3, 0, .func (.func 95) #[] #[.pointer (some ⟨s, 0, none⟩), .pointer (some ⟨s + 1, 0, none⟩), .pointer (some ⟨s + 1 + 1, 0, none⟩)], 0, 1, s, s + 1, s + 1 + 1, 0, 0, 0, x, ea, ec, E, x.t, trOf i, 0, false, []⟩
theorem cloT_val (s : Nat) (x : TT) (ea : Option Addr) (ec : Nat) (E : List Th) (i : Ty) : (cloT s x ea ec E i).val = funV (x.tm.at 0) (E.map Th.val) := by
  unfold Th.val
  rw [if_pos (show (cloT s x ea ec E i).tag = 0 from rfl), Th.cv_eq]
  rfl
set_option maxRecDepth 20000 in
set_option maxHeartbeats 2000000 in
theorem eval_fun (m : Bool) (M R F c : Nat) (Q : Nat → Prop) (x : TT) (E : List Th) (i : Ty) (ea : Option Addr) (ec : Nat) (w : World) (hk : x.k = 7) (hx : x.In w) (hxb : x.Bl Q) (hsh : shp x.tm ∧ (m = false → noC x.tm)) (hsz : x.tm.tsz + E.length ≤ M) (hE : Env m M R Q w ea E) (hto : m = true → tyM x.tm (E.map Th.tyo) i ∧ ∀ e, e ∈ E → e.ok) (hc : c ≤ F) (hw : Wl R (F - c) out0 w) (nw : ∀ b, w.heap.size ≤ b → Q b) :
    Calls Tryz.prog 59 #[.pointer (some ⟨R, 0, none⟩), .agg #[.int .i64 x.k, .int .i64 x.n, .int .i64 x.t.k, .slice x.t.a x.t.l.length x.t.c, .int .i64 x.f.k, .slice x.f.a x.f.l.length x.f.c, .slice x.a x.l.length x.c], .slice ea E.length ec] w (ThPost m M R F c Q w i (EvS m F x.tm (E.map Th.val) i c)) := by
  have hty : m = true → ∃ G, tyM x.tm G i ∧ tyE (E.map Th.val) G := fun hm => ⟨_, (hto hm).1, hE.tys (hto hm).2⟩
  have hlr := hw.lt
  obtain ⟨W1, hW1⟩ : ∃ W, W = ebW R x ea E.length ec w := ⟨_, rfl⟩
  obtain ⟨hB, hl1, hs1⟩ := eb_start R x ea E.length ec w
  rw [← hW1] at hB hl1 hs1
  have hw1 := hw.below hl1
  have HB : Hid (EB R x ea E.length ec w W1 ∧ Below w.heap.size w W1 ∧ Wl R (F - c) out0 W1) := ⟨hB, hl1, hw1⟩
  have HE : Hid (EvS m F x.tm (E.map Th.val) i c out0 (cloT w.heap.size x ea ec E i).val c) := by
    rw [cloT_val]
    refine ⟨ev_fun (by rw [TT.tm_k]; exact hk), fun hm _ => ?_⟩
    obtain ⟨G, hG, hGE⟩ := hty hm
    obtain ⟨ps, hl, hps, hr⟩ := tyM_parts hG
    rw [TT.tm_k, hk] at hr
    rcases hr with ⟨h', _⟩ | ⟨h', _⟩ | ⟨h', _⟩ | ⟨h', _⟩ | ⟨h', _⟩ | ⟨h', _⟩ | ⟨_, b, hb, rfl⟩ | ⟨h', _⟩ | ⟨h', _⟩ | ⟨h', _⟩ <;> first | omega | skip
    subst hb
    have := hps 0 (by simp)
    rw [TT.tm_k, hk, if_pos rfl] at this
    exact tyV_mkFun this hGE
  have HO : Hid (okTh m i (cloT w.heap.size x ea ec E i)) := fun hm => by
    obtain ⟨hG, hok⟩ := hto hm
    obtain ⟨ps, hl, hps, hr⟩ := tyM_parts hG
    rw [TT.tm_k, hk] at hr
    have e : (cloT w.heap.size x ea ec E i).t.ty = i := trOf_ty i
    rcases hr with ⟨h', _⟩ | ⟨h', _⟩ | ⟨h', _⟩ | ⟨h', _⟩ | ⟨h', _⟩ | ⟨h', _⟩ | ⟨_, b, hb, hi⟩ | ⟨h', _⟩ | ⟨h', _⟩ | ⟨h', _⟩ <;> first | omega | skip
    subst hb
    have := hps 0 (by simp)
    rw [TT.tm_k, hk, if_pos rfl] at this
    exact ⟨Th.ok_iff.2 ⟨.inl rfl, .inr (.inl ⟨rfl, ⟨_, _, e.trans hi, this⟩, hok⟩)⟩, e⟩
  have HI : Hid ((cloT w.heap.size x ea ec E i).In m M R (fun b => Q b ∧ b ≠ w.heap.size + 1 + 1 + 1) W1) := by
    refine Th.In_iff.2 (.inr (.inl ⟨rfl, ⟨rfl, rfl, ⟨nw _ ?_, ?_⟩, ⟨nw _ ?_, ?_⟩, ⟨nw _ ?_, ?_⟩, hB.w0, hB.x7, hx.below hl1, (hxb.and hx.bl).mono fun b h => ⟨h.1, by omega⟩, hk, hsh, hsz, hB.e0, fun j l => ?_⟩, fun e he => ?_⟩))
    · simp only [cloT]; omega
    · simp only [cloT]; omega
    · simp only [cloT]; omega
    · simp only [cloT]; omega
    · simp only [cloT]; omega
    · simp only [cloT]; omega
    · obtain ⟨b, o, e, hb, h4⟩ := hE.at4 j l
      exact ⟨b, o, e, ⟨hb, by have := h4.lt; omega⟩, h4.same (Q := fun _ => True) (Same.of_below hl1) trivial⟩
    · exact ((hE.ins e he).mono (Q' := fun b => Q b ∧ b ≠ w.heap.size + 1 + 1 + 1) fun x h1 h2 => ⟨h2, by omega⟩).same (Same.of_below hl1)
  obtain ⟨c0, c1, _, _, _, _, _, _⟩ := hw1
  replace c1 : W1.cell? ⟨R, 1, none⟩ = some (.int .i64 0) := c1
  obtain ⟨w0, ⟨x0, x1, x2, x3, x4, x5, x6⟩, e0, ⟨r0, r1, r2, r3, y0, y1, y2, y3⟩⟩ := hB
  simp only [Nat.zero_add] at x1 x2 x3 x4 x5 x6
  have hmf : ∀ (fn : Fn) (first cap : Array Value) (w : World), (Instr.makeFunc fn first cap).run Tryz.prog w = .ok (.func fn first cap) w := fun _ _ _ _ => rfl
  rw [hk] at x0
  clear hk hx hxb hsh hsz hE hty hto hw nw hl1 hs1
  go_enter Tryz.func59, Tryz.ntmps59
  go_upto_region 1 with fail
  unfold ebW at hW1
  rw [← hW1]
  clear hW1
  go_wp2_with fail
  have hend := th_end (Q := Q) HB.out.1.r (by omega) hlr (Kept.of_below HB.out.2.1) HB.out.2.2 HI.out (fun x hx => hx)
  obtain ⟨⟨e0, e1, e2, e3⟩, hk, hW, hi⟩ := hend
  refine bodyPost_ret (v := (cloT w.heap.size x ea ec E i).ag) ?_ rfl ⟨hk, out0, _, c, HE.out, Nat.le_refl _, hc, hW, .inr ⟨rfl, _, rfl, hi, rfl, HO.out⟩⟩
  simp only [cloT] at e0 e1 e2 e3
  simp [results, Tryz.results59, go_sem, Th.ag, cloT, e0, e1, e2, e3]
end Go.Proofs.YtnddkmccagiclabGreatDoor

/-
  What ref's eval answers at a name.
-/
namespace Go.Proofs.YtnddkmccagiclabGreatDoor
open Go.RowKit
set_option maxRecDepth 20000 in
set_option maxHeartbeats 2000000 in
theorem eval_var (m : Bool) (M R F c : Nat) (Q : Nat → Prop) (x : TT) (E : List Th) (i : Ty) (ea : Option Addr) (ec : Nat) (w : World) (hk : x.k = 1) (hn0 : 0 ≤ x.n) (hn1 : x.n ≤ 1000000) (hE : Env m M R Q w ea E) (hto : m = true → tyM x.tm (E.map Th.tyo) i ∧ ∀ e, e ∈ E → e.ok) (hc : c ≤ F) (hw : Wl R (F - c) out0 w) :
    Calls Tryz.prog 59 #[.pointer (some ⟨R, 0, none⟩), .agg #[.int .i64 x.k, .int .i64 x.n, .int .i64 x.t.k, .slice x.t.a x.t.l.length x.t.c, .int .i64 x.f.k, .slice x.f.a x.f.l.length x.f.c, .slice x.a x.l.length x.c], .slice ea E.length ec] w (ThPost m M R F c Q w i (EvS m F x.tm (E.map Th.val) i c)) := by
  have hty : m = true → ∃ G, tyM x.tm G i ∧ tyE (E.map Th.val) G := fun hm => ⟨_, (hto hm).1, hE.tys (hto hm).2⟩
  have hlr := hw.lt
  obtain ⟨W1, hW1⟩ : ∃ W, W = ebW R x ea E.length ec w := ⟨_, rfl⟩
  obtain ⟨hB, hl1, hs1⟩ := eb_start R x ea E.length ec w
  rw [← hW1] at hB hl1 hs1
  have hw1 := hw.below hl1
  have HB : Hid (EB R x ea E.length ec w W1 ∧ Below w.heap.size w W1 ∧ Wl R (F - c) out0 W1) := ⟨hB, hl1, hw1⟩
  obtain ⟨j, hj⟩ : ∃ j : Nat, x.n = (j : Int) := ⟨x.n.toNat, by omega⟩
  have hjt : x.tm.n.toNat = j := by rw [TT.tm_n, hj]; simp
  have n1 : ¬ ((j : Int) < 0) := by omega
  by_cases hlt : j < E.length
  · obtain ⟨bb, oo, hea, hqb, h4⟩ := hE.at4 j hlt
    obtain ⟨e, he⟩ : ∃ e, e = E[j] := ⟨_, rfl⟩
    rw [← he] at h4
    have hei : e.In m M R Q w := by rw [he]; exact hE.ins _ (List.getElem_mem hlt)
    have HE : Hid (EvS m F x.tm (E.map Th.val) i c out0 e.val c ∧ e.In m M R (fun b => Q b ∧ b ≠ w.heap.size + 1 + 1 + 1) W1) := by
      have hs : (E.map Th.val)[x.tm.n.toNat]? = some e.val := by rw [hjt, List.getElem?_map, List.getElem?_eq_getElem hlt, he]; rfl
      refine ⟨⟨ev_var (by rw [TT.tm_k]; exact hk) hs, fun hm _ => ?_⟩, (hei.mono (Q' := fun b => Q b ∧ b ≠ w.heap.size + 1 + 1 + 1) fun x h1 h2 => ⟨h2, by omega⟩).same (Same.of_below hl1)⟩
      obtain ⟨G, hG, hGE⟩ := hty hm
      obtain ⟨ps, _, _, hr⟩ := tyM_parts hG
      rw [TT.tm_k, hk] at hr
      rcases hr with ⟨_, _, hg⟩ | ⟨h', _⟩ | ⟨h', _⟩ | ⟨h', _⟩ | ⟨h', _⟩ | ⟨h', _⟩ | ⟨h', _⟩ | ⟨h', _⟩ | ⟨h', _⟩ | ⟨h', _⟩ <;> first | omega | skip
      obtain ⟨v, hv, hvt⟩ := tyE_at hGE hg
      rw [hs] at hv
      rw [Option.some.inj hv]
      exact hvt
    have HO : Hid (okTh m i e) := fun hm => by
      obtain ⟨hG, hok⟩ := hto hm
      obtain ⟨ps, _, _, hr⟩ := tyM_parts hG
      rw [TT.tm_k, hk] at hr
      rcases hr with ⟨_, _, hg⟩ | ⟨h', _⟩ | ⟨h', _⟩ | ⟨h', _⟩ | ⟨h', _⟩ | ⟨h', _⟩ | ⟨h', _⟩ | ⟨h', _⟩ | ⟨h', _⟩ | ⟨h', _⟩ <;> first | omega | skip
      rw [hjt, List.getElem?_map, List.getElem?_eq_getElem hlt, ← he] at hg
      exact ⟨hok e (by rw [he]; exact List.getElem_mem hlt), Option.some.inj hg⟩
    obtain ⟨d0, d1, d2, d3⟩ := h4
    replace d0 := cell_later hl1 d0
    replace d1 := cell_later hl1 d1
    replace d2 := cell_later hl1 d2
    replace d3 := cell_later hl1 d3
    have hone := hei.one
    have hst : ∀ (a : Addr) (m : Mode) (W : World), (store a e.fn m).run Tryz.prog W = stored Tryz.prog W a e.fn m := fun a m W => run_storeOne hone
    have i1 : (j : Int) < (E.length : Int) := by omega
    have i2 : (0 : Int) ≤ (j : Int) := by omega
    obtain ⟨c0, c1, _, _, _, _, _, _⟩ := hw1
    replace c1 : W1.cell? ⟨R, 1, none⟩ = some (.int .i64 0) := c1
    obtain ⟨w0, ⟨x0, x1, x2, x3, x4, x5, x6⟩, e0, ⟨r0, r1, r2, r3, y0, y1, y2, y3⟩⟩ := hB
    simp only [Nat.zero_add] at x1 x2 x3 x4 x5 x6
    rw [hk] at x0
    rw [hj] at x1
    rw [hea] at e0
    clear hk hE hty hto hw hl1 hs1 hei he hone hn0 hn1 hjt hj hea
    go_enter Tryz.func59, Tryz.ntmps59
    go_upto_region 1 with fail
    unfold ebW at hW1
    rw [← hW1]
    clear hW1
    go_wp2_with fail
    have hend := th_end (Q := Q) HB.out.1.r (by omega) hlr (Kept.of_below HB.out.2.1) HB.out.2.2 HE.out.2 (fun x hx => hx)
    obtain ⟨⟨e0, e1, e2, e3⟩, hk, hW, hi⟩ := hend
    refine bodyPost_ret (v := e.ag) ?_ rfl ⟨hk, out0, _, c, HE.out.1, Nat.le_refl _, hc, hW, .inr ⟨rfl, _, rfl, hi, rfl, HO.out⟩⟩
    simp [results, Tryz.results59, go_sem, Th.ag, e0, e1, e2, e3]
  · have HE : Hid (EvS m F x.tm (E.map Th.val) i c stuckO (numV 0) c) := ⟨ev_var_bad (by rw [TT.tm_k]; exact hk) (by rw [hjt]; simp; omega), fun _ h0 => by cases h0⟩
    have i1 : ¬ ((j : Int) < (E.length : Int)) := by omega
    have i3 : (E.length : Int) ≤ (j : Int) := by omega
    obtain ⟨c0, c1, _, _, _, _, _, _⟩ := hw1
    replace c1 : W1.cell? ⟨R, 1, none⟩ = some (.int .i64 0) := c1
    obtain ⟨w0, ⟨x0, x1, x2, x3, x4, x5, x6⟩, e0, ⟨r0, r1, r2, r3, y0, y1, y2, y3⟩⟩ := hB
    simp only [Nat.zero_add] at x1 x2 x3 x4 x5 x6
    rw [hk] at x0
    rw [hj] at x1
    clear hk hE hty hto hw hl1 hs1 hn0 hn1 hjt hj
    go_enter Tryz.func59, Tryz.ntmps59
    go_upto_region 1 with fail
    unfold ebW at hW1
    rw [← hW1]
    clear hW1
    go_wp2_with (go_at_call 94; refine (stuck_any R (F - c) _ HB.out.2.2).mono ?_; rintro e w2 ⟨rfl, hw2, h2⟩; simp only [noV]; have HF : Hid (Wl R (F - c) stuckO w2 ∧ Kept R none W1 w2 ∧ Rb w2 (w.heap.size + 1 + 1 + 1)) := ⟨hw2, h2, (HB.out.1.kept h2 hlr).r⟩; clear hw2 h2 c0 c1 w0 x0 x1 x2 x3 x4 x5 x6 e0 r0 r1 r2 r3 y0 y1 y2 y3; obtain ⟨r0, r1, r2, r3, y0, y1, y2, y3⟩ := HF.out.2.2)
    obtain ⟨⟨e0, e1, e2, e3⟩, hk⟩ := HF.out.2.2.set (.int .i64 0) (.int .i64 0) .nilFunc (.int .i64 0)
    refine bodyPost_ret (v := noV) ?_ rfl ⟨((Kept.of_below HB.out.2.1).trans HF.out.2.1).new hk (by omega), stuckO, _, c, HE.out, Nat.le_refl _, hc, HF.out.1.same hk (by omega), .inl ⟨by decide, rfl⟩⟩
    simp [results, Tryz.results59, go_sem, noV, e0, e1, e2, e3]
end Go.Proofs.YtnddkmccagiclabGreatDoor

/-
  What ref's eval answers at a term that is said to be of a type.
-/
namespace Go.Proofs.YtnddkmccagiclabGreatDoor
open Go.RowKit
set_option maxRecDepth 20000 in
set_option maxHeartbeats 2000000 in
theorem eval_as (m : Bool) (M R F c : Nat) (Q : Nat → Prop) (x y : TT) (E : List Th) (i : Ty) (ea : Option Addr) (ec : Nat) (w : World) (hk : x.k = 9) (hy : x.l = [y]) (hx : x.In w) (hxb : x.Bl Q) (hE : Env m M R Q w ea E) (hw : Wl R (F - c) out0 w) (hQ : ¬ Q R) (nw : ∀ b, w.heap.size ≤ b → Q b)
    (ih : Hid (∀ (Q' : Nat → Prop) (W : World), y.In W → y.Bl Q' → Env m M R Q' W ea E → Wl R (F - c) out0 W → ¬ Q' R → (∀ b, W.heap.size ≤ b → Q' b) → Calls Tryz.prog 59 #[.pointer (some ⟨R, 0, none⟩), .agg #[.int .i64 y.k, .int .i64 y.n, .int .i64 y.t.k, .slice y.t.a y.t.l.length y.t.c, .int .i64 y.f.k, .slice y.f.a y.f.l.length y.f.c, .slice y.a y.l.length y.c], .slice ea E.length ec] W (ThPost m M R F c Q' W i (EvS m F y.tm (E.map Th.val) i c)))) :
    Calls Tryz.prog 59 #[.pointer (some ⟨R, 0, none⟩), .agg #[.int .i64 x.k, .int .i64 x.n, .int .i64 x.t.k, .slice x.t.a x.t.l.length x.t.c, .int .i64 x.f.k, .slice x.f.a x.f.l.length x.f.c, .slice x.a x.l.length x.c], .slice ea E.length ec] w (ThPost m M R F c Q w i (EvS m F x.tm (E.map Th.val) i c)) := by
  have hlr := hw.lt
  obtain ⟨W1, hW1⟩ : ∃ W, W = ebW R x ea E.length ec w := ⟨_, rfl⟩
  obtain ⟨hB, hl1, hs1⟩ := eb_start R x ea E.length ec w
  rw [← hW1] at hB hl1 hs1
  have hw1 := hw.below hl1
  have HB : Hid (EB R x ea E.length ec w W1 ∧ Below w.heap.size w W1 ∧ Wl R (F - c) out0 W1) := ⟨hB, hl1, hw1⟩
  obtain ⟨bx, ox, hxa, hx7, hyi⟩ := hx.part 0 (by rw [hy]; simp)
  have hx0 : x.l[0]'(by rw [hy]; simp) = y := by simp [hy]
  rw [hx0] at hx7 hyi
  simp only [Nat.zero_mul, Nat.add_zero] at hx7
  have hxl : x.l.length = 1 := by rw [hy]; rfl
  have hbx : Q bx := hxb.own (by rw [hy]; simp) _ hxa
  have hyb : y.Bl Q := hxb.mem (by rw [hy]; simp)
  have hsm : ∀ W, Kept R none W1 W → Same Q w W := fun W hk b hb hq => by
    have hs := hl1.size
    rw [hk.block b (by omega) (fun e => hQ (e ▸ hq)) (by simp)]
    exact hl1.block b hb
  have HK : Hid (∀ W, SK R (w.heap.size + 1 + 1 + 1) W1 W → W.cell? ⟨w.heap.size, 0, none⟩ = some (.pointer (some ⟨R, 0, none⟩)) ∧ W.cell? ⟨w.heap.size + 1, 6, none⟩ = some (.slice (some ⟨bx, ox, none⟩) 1 x.c) ∧ W.cell? ⟨bx, ox, none⟩ = some (.int .i64 y.k) ∧ W.cell? ⟨bx, ox + 1, none⟩ = some (.int .i64 y.n) ∧ W.cell? ⟨bx, ox + 2, none⟩ = some (.int .i64 y.t.k) ∧ W.cell? ⟨bx, ox + 3, none⟩ = some (.slice y.t.a y.t.l.length y.t.c) ∧ W.cell? ⟨bx, ox + 4, none⟩ = some (.int .i64 y.f.k) ∧ W.cell? ⟨bx, ox + 5, none⟩ = some (.slice y.f.a y.f.l.length y.f.c) ∧ W.cell? ⟨bx, ox + 6, none⟩ = some (.slice y.a y.l.length y.c) ∧ W.cell? ⟨w.heap.size + 1 + 1, 0, none⟩ = some (.slice ea E.length ec)) := fun W hk => by
    have hcl : ∀ b i u, w.cell? ⟨b, i, none⟩ = some u → Q b → W.cell? ⟨b, i, none⟩ = some u := fun b i u e hb => hk b i u ((hsm W1 Kept.refl).cell e hb) (fun e => hQ (e ▸ hb)) (by have : b < w.heap.size := World.block_lt_of_cell? _ _ e; omega)
    have hc6 := hB.x7.c6
    rw [hxa, hxl] at hc6
    exact ⟨hk _ _ _ hB.w0 (by omega) (by omega), hk _ _ _ hc6 (by omega) (by omega), hcl _ _ _ hx7.c0 hbx, hcl _ _ _ hx7.c1 hbx, hcl _ _ _ hx7.c2 hbx, hcl _ _ _ hx7.c3 hbx, hcl _ _ _ hx7.c4 hbx, hcl _ _ _ hx7.c5 hbx, hcl _ _ _ hx7.c6 hbx, hk _ _ _ hB.e0 (by omega) (by omega)⟩
  have HI : Hid (∀ W, Kept R none W1 W → Wl R (F - c) out0 W → Calls Tryz.prog 59 #[.pointer (some ⟨R, 0, none⟩), .agg #[.int .i64 y.k, .int .i64 y.n, .int .i64 y.t.k, .slice y.t.a y.t.l.length y.t.c, .int .i64 y.f.k, .slice y.f.a y.f.l.length y.f.c, .slice y.a y.l.length y.c], .slice ea E.length ec] W (ThPost m M R F c (fun b => Q b ∧ b ≠ w.heap.size + 1 + 1 + 1) W i (EvS m F y.tm (E.map Th.val) i c))) := fun W hk hwl => by
    have hsz := hk.size
    exact ih.out (fun b => Q b ∧ b ≠ w.heap.size + 1 + 1 + 1) W (hyi.same (hsm W hk) hyb) ((hyb.and hyi.bl).mono fun b hb => ⟨hb.1, by omega⟩) ((hE.mono (Q' := (fun b => Q b ∧ b ≠ w.heap.size + 1 + 1 + 1)) fun x h1 h2 => ⟨h2, by omega⟩).same fun b h1 h2 => hsm W hk b h1 h2.1) hwl (fun hx => hQ hx.1) (fun b hb => ⟨nw b (by omega), by omega⟩)
  have HE : Hid (∀ r V c', EvS m F y.tm (E.map Th.val) i c r V c' → EvS m F x.tm (E.map Th.val) i c r V c') := fun r V c' h => by
    have e : x.tm.at 0 = y.tm := by rw [Tm.at, TT.tm_l, hy]; rfl
    exact ⟨ev_as (by rw [TT.tm_k]; exact hk) (by rw [e]; exact h.1), h.2⟩
  have i0 : (0 : Int) < ((1 : Nat) : Int) := by omega
  obtain ⟨c0, c1, _, _, _, _, _, _⟩ := hw1
  replace c1 : W1.cell? ⟨R, 1, none⟩ = some (.int .i64 0) := c1
  obtain ⟨w0, ⟨x0, x1, x2, x3, x4, x5, x6⟩, e0, ⟨r0, r1, r2, r3, y0, y1, y2, y3⟩⟩ := hB
  simp only [Nat.zero_add] at x1 x2 x3 x4 x5 x6
  rw [hk] at x0
  have hk0 : Kept R none W1 W1.drew := Kept.of_below ((Below.refl _ _).drew)
  have hwl0 : Wl R (F - c) out0 W1.drew := HB.out.2.2.below ((Below.refl _ _).drew)
  clear hk hx hxb hE hw nw hl1 hs1 hsm hyi hyb hxl hx7 hxa hbx hx0 hy hQ ih
  go_enter Tryz.func59, Tryz.ntmps59
  go_upto_region 1 with fail
  unfold ebW at hW1
  rw [← hW1]
  clear hW1
  go_upto_region 14 with fail
  clear x0 x1 x2 x3 x4 x5 x6 e0 r0 r1 r2 r3 y0 y1 y2 y3 c0 c1 w0
  refine wp_region_held_drew (S := fun W => W.cell? ⟨w.heap.size, 0, none⟩ = some (.pointer (some ⟨R, 0, none⟩)) ∧ W.cell? ⟨w.heap.size + 1, 6, none⟩ = some (.slice (some ⟨bx, ox, none⟩) 1 x.c) ∧ W.cell? ⟨bx, ox, none⟩ = some (.int .i64 y.k) ∧ W.cell? ⟨bx, ox + 1, none⟩ = some (.int .i64 y.n) ∧ W.cell? ⟨bx, ox + 2, none⟩ = some (.int .i64 y.t.k) ∧ W.cell? ⟨bx, ox + 3, none⟩ = some (.slice y.t.a y.t.l.length y.t.c) ∧ W.cell? ⟨bx, ox + 4, none⟩ = some (.int .i64 y.f.k) ∧ W.cell? ⟨bx, ox + 5, none⟩ = some (.slice y.f.a y.f.l.length y.f.c) ∧ W.cell? ⟨bx, ox + 6, none⟩ = some (.slice y.a y.l.length y.c) ∧ W.cell? ⟨w.heap.size + 1 + 1, 0, none⟩ = some (.slice ea E.length ec)) (by kernel_rfl) (HK.out _ ((SK.refl _ _ _).kept hk0)) (fun hHeld => ?_)
  refine takeHL (i := 0) (v := ?_) rfl (by kernel_rfl) (by kernel_rfl) (by kernel_rfl) (fun _ _ _ h => h) (Or.inl ⟨by rfl, ?_⟩) hHeld ?_; rotate_left; (focus (intro w' hSw; (try dsimp only at hSw); go_split_ands; first | (go_simp; done) | (go_simp; with_reducible rfl))); simp only [Act.put, List.setIfInBounds_toArray, List.set_cons_zero, List.set_cons_succ]
  refine takeHL (i := 1) (v := ?_) rfl (by kernel_rfl) (by kernel_rfl) (by kernel_rfl) (fun _ _ _ h => h) (Or.inl ⟨by rfl, ?_⟩) hHeld ?_; rotate_left; (focus (intro w' hSw; (try dsimp only at hSw); go_split_ands; first | (go_simp; done) | (go_simp; with_reducible rfl))); simp only [Act.put, List.setIfInBounds_toArray, List.set_cons_zero, List.set_cons_succ]
  refine takeHL (i := 2) (v := ?_) rfl (by kernel_rfl) (by kernel_rfl) (by kernel_rfl) (fun _ _ _ h => h) (Or.inl ⟨by rfl, ?_⟩) hHeld ?_; rotate_left; (focus (intro w' hSw; (try dsimp only at hSw); go_split_ands; first | (go_simp; done) | (go_simp; with_reducible rfl))); simp only [Act.put, List.setIfInBounds_toArray, List.set_cons_zero, List.set_cons_succ]
  refine takeHL (i := 3) (v := ?_) rfl (by kernel_rfl) (by kernel_rfl) (by kernel_rfl) (fun _ _ _ h => h) (Or.inl ⟨by rfl, ?_⟩) hHeld ?_; rotate_left; (focus (intro w' hSw; (try dsimp only at hSw); go_split_ands; first | (go_simp; done) | (go_simp; with_reducible rfl))); simp only [Act.put, List.setIfInBounds_toArray, List.set_cons_zero, List.set_cons_succ]
  refine takeHL (i := 4) (v := ?_) rfl (by kernel_rfl) (by kernel_rfl) (by kernel_rfl) (fun _ _ _ h => h) (Or.inl ⟨by rfl, ?_⟩) hHeld ?_; rotate_left; (focus (intro w' hSw; (try dsimp only at hSw); go_split_ands; first | (go_simp; done) | (go_simp; with_reducible rfl))); simp only [Act.put, List.setIfInBounds_toArray, List.set_cons_zero, List.set_cons_succ]
  refine takeHL (i := 5) (v := ?_) rfl (by kernel_rfl) (by kernel_rfl) (by kernel_rfl) (fun _ _ _ h => h) (Or.inl ⟨by rfl, ?_⟩) hHeld ?_; rotate_left; (focus (intro w' hSw; (try dsimp only at hSw); go_split_ands; first | (go_simp; done) | (go_simp; with_reducible rfl))); simp only [Act.put, List.setIfInBounds_toArray, List.set_cons_zero, List.set_cons_succ]
  refine oneHL (i := 6) rfl (by kernel_rfl) (fun K hK => ?_)
  go_simp
  refine (HI.out _ hk0 hwl0).mono ?_
  rintro e w5 ⟨hk5, r, V, c', hS, hc1, hc2, hw5, hcase⟩
  have hkF : Kept R none W1 w5 := hk0.trans hk5
  have HF : Hid (Kept R none W1 w5 ∧ Wl R (F - c') r w5 ∧ Rb w5 (w.heap.size + 1 + 1 + 1) ∧ EvS m F x.tm (E.map Th.val) i c r V c') := ⟨hkF, hw5, (HB.out.1.kept hkF hlr).r, HE.out _ _ _ hS⟩
  have hsk5 : SK R (w.heap.size + 1 + 1 + 1) W1 w5 := (SK.refl _ _ _).kept hkF
  obtain ⟨r0, r1, r2, r3, y0, y1, y2, y3⟩ := HF.out.2.2.1
  clear hS hw5 hk5 HI
  rcases hcase with ⟨hr, rfl⟩ | ⟨rfl, z, rfl, hzi, hzv⟩
  · simp only [noV]
    refine hK.out _ _ (HK.out _ hsk5) (fun hHeld => ?_)
    clear hK K
    (try simp only [Act.put, List.setIfInBounds_toArray, List.set_cons_zero, List.set_cons_succ])
    refine oneHL (i := 7) rfl (by kernel_rfl) (fun K hK => ?_)
    go_simp
    refine hK.out _ _ (HK.out _ ((((hsk5.set _ _).set _ _).set _ _).set _ _)) (fun hHeld => ?_)
    clear hK K
    (try simp only [Act.put, List.setIfInBounds_toArray, List.set_cons_zero, List.set_cons_succ])
    refine wpAnyH_done (by kernel_rfl) ?_ _
    clear hHeld
    go_wp2_with fail
    obtain ⟨⟨e0, e1, e2, e3⟩, hk⟩ := HF.out.2.2.1.set (.int .i64 0) (.int .i64 0) .nilFunc (.int .i64 0)
    refine bodyPost_ret (v := noV) ?_ rfl ⟨((Kept.of_below HB.out.2.1).trans HF.out.1).new hk (by omega), r, V, c', HF.out.2.2.2, hc1, hc2, HF.out.2.1.same hk (by omega), .inl ⟨hr, rfl⟩⟩
    simp [results, Tryz.results59, go_sem, noV, e0, e1, e2, e3]
  · have hone := hzi.one
    have hst4 : ∀ (a : Addr) (m : Mode) (W : World), (store a z.fn m).run Tryz.prog W = stored Tryz.prog W a z.fn m := fun a m W => run_storeOne hone
    have HE2 : Hid _ := th_end (Q := Q) (h := z) HF.out.2.2.1 (by omega) hlr ((Kept.of_below HB.out.2.1).trans HF.out.1) HF.out.2.1 hzi (fun x hx => hx)
    clear hzi hone
    simp only [Th.ag]
    refine hK.out _ _ (HK.out _ hsk5) (fun hHeld => ?_)
    clear hK K
    (try simp only [Act.put, List.setIfInBounds_toArray, List.set_cons_zero, List.set_cons_succ])
    refine oneHL (i := 7) rfl (by kernel_rfl) (fun K hK => ?_)
    go_simp
    refine hK.out _ _ (HK.out _ ((((hsk5.set _ _).set _ _).set _ _).set _ _)) (fun hHeld => ?_)
    clear hK K
    (try simp only [Act.put, List.setIfInBounds_toArray, List.set_cons_zero, List.set_cons_succ])
    refine wpAnyH_done (by kernel_rfl) ?_ _
    clear hHeld
    go_wp2_with fail
    obtain ⟨⟨e0, e1, e2, e3⟩, hk, hW, hi⟩ := HE2.out
    refine bodyPost_ret (v := z.ag) ?_ rfl ⟨hk, out0, V, c', HF.out.2.2.2, hc1, hc2, hW, .inr ⟨rfl, z, rfl, hi, hzv⟩⟩
    simp [results, Tryz.results59, go_sem, Th.ag, e0, e1, e2, e3]
end Go.Proofs.YtnddkmccagiclabGreatDoor

/-
  What ref's eval answers at a cast.
-/
namespace Go.Proofs.YtnddkmccagiclabGreatDoor
open Go.RowKit
set_option maxRecDepth 20000 in
set_option maxHeartbeats 4000000 in
theorem eval_cast (M R F c : Nat) (Q : Nat → Prop) (x y : TT) (E : List Th) (ea : Option Addr) (ec : Nat) (w : World) (hk : x.k = 10) (hy : x.l = [y]) (hx : x.In w) (hxb : x.Bl Q) (hE : Env true M R Q w ea E) (hfg : goodY 46 x.f.ty = true) (htg : goodY 46 x.t.ty = true) (hfit : relY escFits x.f.ty x.t.ty = true) (hw : Wl R (F - c) out0 w) (hQ : ¬ Q R) (nw : ∀ b, w.heap.size ≤ b → Q b) (ih : EvC true M R F c y E x.f.ty ea ec) :
    Calls Tryz.prog 59 #[.pointer (some ⟨R, 0, none⟩), .agg #[.int .i64 x.k, .int .i64 x.n, .int .i64 x.t.k, .slice x.t.a x.t.l.length x.t.c, .int .i64 x.f.k, .slice x.f.a x.f.l.length x.f.c, .slice x.a x.l.length x.c], .slice ea E.length ec] w (ThPost true M R F c Q w x.t.ty (EvS true F x.tm (E.map Th.val) x.t.ty c)) := by
  have hlr := hw.lt
  obtain ⟨W1, hW1⟩ : ∃ W, W = ebW R x ea E.length ec w := ⟨_, rfl⟩
  obtain ⟨hB, hl1, hs1⟩ := eb_start R x ea E.length ec w
  rw [← hW1] at hB hl1 hs1
  have hw1 := hw.below hl1
  have HB : Hid (EB R x ea E.length ec w W1 ∧ Below w.heap.size w W1 ∧ Wl R (F - c) out0 W1) := ⟨hB, hl1, hw1⟩
  have hxl : x.l.length = 1 := by rw [hy]; rfl
  obtain ⟨bx, ox, hxa⟩ : ∃ bx ox, x.a = some ⟨bx, ox, none⟩ := by
    obtain ⟨b, o, e, _⟩ := hx.part 0 (by omega)
    exact ⟨b, o, e⟩
  have hbx : Q bx := hxb.own (by rw [hy]; simp) _ hxa
  have hsm : ∀ W, Kept R none W1 W → Same Q w W := fun W hk b hb hq => by
    have hs := hl1.size
    rw [hk.block b (by omega) (fun e => hQ (e ▸ hq)) (by simp)]
    exact hl1.block b hb
  have hsz1 : w.heap.size + 1 + 1 + 1 + 1 ≤ W1.heap.size := by omega
  obtain ⟨h7y, hiy⟩ : At7 w bx (ox) y ∧ y.In w := by
    obtain ⟨b', o', e', h7, hi⟩ := hx.part 0 (by omega)
    rw [hxa] at e'
    obtain ⟨rfl, rfl⟩ : bx = b' ∧ ox = o' := by simpa using e'
    exact ⟨by simpa [hy] using h7, by simpa [hy] using hi⟩
  have hby : y.Bl Q := hxb.mem (by rw [hy]; simp)
  have HK : Hid (∀ W, Kept R none W1 W → W.cell? ⟨w.heap.size, 0, none⟩ = some (.pointer (some ⟨R, 0, none⟩)) ∧ W.cell? ⟨w.heap.size + 1, 6, none⟩ = some (.slice (some ⟨bx, ox, none⟩) 1 x.c) ∧ W.cell? ⟨bx, ox, none⟩ = some (.int .i64 y.k) ∧ W.cell? ⟨bx, ox + 1, none⟩ = some (.int .i64 y.n) ∧ W.cell? ⟨bx, ox + 2, none⟩ = some (.int .i64 y.t.k) ∧ W.cell? ⟨bx, ox + 3, none⟩ = some (.slice y.t.a y.t.l.length y.t.c) ∧ W.cell? ⟨bx, ox + 4, none⟩ = some (.int .i64 y.f.k) ∧ W.cell? ⟨bx, ox + 5, none⟩ = some (.slice y.f.a y.f.l.length y.f.c) ∧ W.cell? ⟨bx, ox + 6, none⟩ = some (.slice y.a y.l.length y.c) ∧ W.cell? ⟨w.heap.size + 1 + 1, 0, none⟩ = some (.slice ea E.length ec)) := fun W hk => by
    have hcl : ∀ b i u, w.cell? ⟨b, i, none⟩ = some u → Q b → W.cell? ⟨b, i, none⟩ = some u := fun b i u e hb => (hsm W hk).cell e hb
    have hc6 := hB.x7.c6
    rw [hxa, hxl] at hc6
    exact ⟨hk.cell hB.w0 (by omega), hk.cell hc6 (by omega), hcl _ _ _ h7y.c0 hbx, hcl _ _ _ h7y.c1 hbx, hcl _ _ _ h7y.c2 hbx, hcl _ _ _ h7y.c3 hbx, hcl _ _ _ h7y.c4 hbx, hcl _ _ _ h7y.c5 hbx, hcl _ _ _ h7y.c6 hbx, hk.cell hB.e0 (by omega)⟩
  have HI : Hid (∀ (z : Nat) (W : World), Kept R none W1 W → Wl R (F - c) out0 W → w.heap.size ≤ z → z < W.heap.size → Calls Tryz.prog 59 #[.pointer (some ⟨R, 0, none⟩), .agg #[.int .i64 y.k, .int .i64 y.n, .int .i64 y.t.k, .slice y.t.a y.t.l.length y.t.c, .int .i64 y.f.k, .slice y.f.a y.f.l.length y.f.c, .slice y.a y.l.length y.c], .slice ea E.length ec] W (ThPost true M R F c (fun b => Q b ∧ b ≠ w.heap.size + 1 + 1 + 1 ∧ b ≠ z) W x.f.ty (EvS true F y.tm (E.map Th.val) x.f.ty c))) := fun z W hk hwl hz1 hz2 => by
    have hsz := hk.size
    exact ih (fun b => Q b ∧ b ≠ w.heap.size + 1 + 1 + 1 ∧ b ≠ z) W (hiy.same (hsm W hk) hby) ((hby.and hiy.bl).mono fun b hb => ⟨hb.1, by omega, by omega⟩) ((hE.mono (Q' := (fun b => Q b ∧ b ≠ w.heap.size + 1 + 1 + 1 ∧ b ≠ z)) fun x h1 h2 => ⟨h2, by omega, by omega⟩).same fun b h1 h2 => hsm W hk b h1 h2.1) hwl (fun hx => hQ hx.1) (fun b hb => ⟨nw b (by omega), by omega, by omega⟩)
  have he0 : x.tm.at 0 = y.tm := by rw [Tm.at, TT.tm_l, hy]; rfl
  have HX : Hid (∀ W, Kept R none W1 W → x.f.In W ∧ x.t.In W) := fun W hk => ⟨hx.f.same (hsm W hk) hxb.f, hx.t.same (hsm W hk) hxb.t⟩
  have HXB : Hid (x.f.Bl (fun x => Q x ∧ x ≠ w.heap.size + 1 + 1 + 1) ∧ x.t.Bl (fun x => Q x ∧ x ≠ w.heap.size + 1 + 1 + 1) ∧ ¬ Q R ∧ (∀ b, w.heap.size ≤ b → Q b)) := ⟨(hxb.f.and hx.f.bl).mono fun b hb => ⟨hb.1, by omega⟩, (hxb.t.and hx.t.bl).mono fun b hb => ⟨hb.1, by omega⟩, hQ, nw⟩
  have HG : Hid (goodY 46 x.f.ty = true ∧ goodY 46 x.t.ty = true ∧ relY escFits x.f.ty x.t.ty = true) := ⟨hfg, htg, hfit⟩
  have HE1 : Hid (∀ r V c', EvS true F y.tm (E.map Th.val) x.f.ty c r V c' → r.k ≠ 0 → EvS true F x.tm (E.map Th.val) x.t.ty c r V c') := fun r V c' h hr => ⟨ev_cast_bad (by rw [TT.tm_k]; exact hk) (by rw [he0]; exact h.1) hr, fun _ h0 => absurd h0 hr⟩
  have HE2 : Hid (∀ V c', EvS true F y.tm (E.map Th.val) x.f.ty c out0 V c' → EvS true F x.tm (E.map Th.val) x.t.ty c (chg (castOf x.f.ty x.t.ty ⟨4, x.n, false⟩) V).1 (chg (castOf x.f.ty x.t.ty ⟨4, x.n, false⟩) V).2 c') := fun V c' h => by
    have h1 := ev_cast (x := x.tm) (by rw [TT.tm_k]; exact hk) (by rw [he0]; exact h.1) rfl
    rw [TT.tm_f, TT.tm_t, TT.tm_n] at h1
    exact ⟨h1, fun hm h0 => (chg_ty (castOf_ty hfg htg hfit rfl) (h.2 hm rfl)).1 h0⟩
  have i0 : (0 : Int) < ((1 : Nat) : Int) := by omega
  obtain ⟨c0, c1, _, _, _, _, _, _⟩ := hw1
  replace c1 : W1.cell? ⟨R, 1, none⟩ = some (.int .i64 0) := c1
  obtain ⟨w0, ⟨x0, x1, x2, x3, x4, x5, x6⟩, e0, ⟨r0, r1, r2, r3, y0, y1, y2, y3⟩⟩ := hB
  simp only [Nat.zero_add] at x1 x2 x3 x4 x5 x6
  rw [hk] at x0
  have hk0 : Kept R none W1 W1.drew := Kept.of_below ((Below.refl _ _).drew)
  have hwl0 : Wl R (F - c) out0 W1.drew := HB.out.2.2.below ((Below.refl _ _).drew)
  clear hk hx hxb hE hw nw hl1 hs1 hsm h7y hiy hby hxl hxa hbx hy hQ ih hfg htg hfit he0
  go_enter Tryz.func59, Tryz.ntmps59
  go_upto_region 1 with fail
  unfold ebW at hW1
  rw [← hW1]
  clear hW1
  go_upto_region 16 with fail
  clear x0 x1 x2 x3 x4 x5 x6 e0 r0 r1 r2 r3 y0 y1 y2 y3 c0 c1 w0
  go_cut [7] (fun ts wx => ∃ bs : Nat, ts = .pointer (some ⟨bs, 0, none⟩) ∧ Hid (PartP true M R F c Q w W1 y E x.f.ty bs wx))
  case first =>
    refine wp_region_held_drew (S := fun W => W.cell? ⟨w.heap.size, 0, none⟩ = some (.pointer (some ⟨R, 0, none⟩)) ∧ W.cell? ⟨w.heap.size + 1, 6, none⟩ = some (.slice (some ⟨bx, ox, none⟩) 1 x.c) ∧ W.cell? ⟨bx, ox, none⟩ = some (.int .i64 y.k) ∧ W.cell? ⟨bx, ox + 1, none⟩ = some (.int .i64 y.n) ∧ W.cell? ⟨bx, ox + 2, none⟩ = some (.int .i64 y.t.k) ∧ W.cell? ⟨bx, ox + 3, none⟩ = some (.slice y.t.a y.t.l.length y.t.c) ∧ W.cell? ⟨bx, ox + 4, none⟩ = some (.int .i64 y.f.k) ∧ W.cell? ⟨bx, ox + 5, none⟩ = some (.slice y.f.a y.f.l.length y.f.c) ∧ W.cell? ⟨bx, ox + 6, none⟩ = some (.slice y.a y.l.length y.c) ∧ W.cell? ⟨w.heap.size + 1 + 1, 0, none⟩ = some (.slice ea E.length ec)) (by kernel_rfl) (HK.out _ hk0) (fun hHeld => ?_)
    refine takeHL (i := 0) (v := ?_) rfl (by kernel_rfl) (by kernel_rfl) (by kernel_rfl) (fun _ _ _ h => h) (Or.inl ⟨by rfl, ?_⟩) hHeld ?_; rotate_left; (focus (intro w' hSw; (try dsimp only at hSw); go_split_ands; first | (go_simp; done) | (go_simp; with_reducible rfl))); simp only [Act.put, List.setIfInBounds_toArray, List.set_cons_zero, List.set_cons_succ]
    refine takeHL (i := 1) (v := ?_) rfl (by kernel_rfl) (by kernel_rfl) (by kernel_rfl) (fun _ _ _ h => h) (Or.inl ⟨by rfl, ?_⟩) hHeld ?_; rotate_left; (focus (intro w' hSw; (try dsimp only at hSw); go_split_ands; first | (go_simp; done) | (go_simp; with_reducible rfl))); simp only [Act.put, List.setIfInBounds_toArray, List.set_cons_zero, List.set_cons_succ]
    refine takeHL (i := 2) (v := ?_) rfl (by kernel_rfl) (by kernel_rfl) (by kernel_rfl) (fun _ _ _ h => h) (Or.inl ⟨by rfl, ?_⟩) hHeld ?_; rotate_left; (focus (intro w' hSw; (try dsimp only at hSw); go_split_ands; first | (go_simp; done) | (go_simp; with_reducible rfl))); simp only [Act.put, List.setIfInBounds_toArray, List.set_cons_zero, List.set_cons_succ]
    refine takeHL (i := 3) (v := ?_) rfl (by kernel_rfl) (by kernel_rfl) (by kernel_rfl) (fun _ _ _ h => h) (Or.inl ⟨by rfl, ?_⟩) hHeld ?_; rotate_left; (focus (intro w' hSw; (try dsimp only at hSw); go_split_ands; first | (go_simp; done) | (go_simp; with_reducible rfl))); simp only [Act.put, List.setIfInBounds_toArray, List.set_cons_zero, List.set_cons_succ]
    refine takeHL (i := 4) (v := ?_) rfl (by kernel_rfl) (by kernel_rfl) (by kernel_rfl) (fun _ _ _ h => h) (Or.inl ⟨by rfl, ?_⟩) hHeld ?_; rotate_left; (focus (intro w' hSw; (try dsimp only at hSw); go_split_ands; first | (go_simp; done) | (go_simp; with_reducible rfl))); simp only [Act.put, List.setIfInBounds_toArray, List.set_cons_zero, List.set_cons_succ]
    refine takeHL (i := 5) (v := ?_) rfl (by kernel_rfl) (by kernel_rfl) (by kernel_rfl) (fun _ _ _ h => h) (Or.inl ⟨by rfl, ?_⟩) hHeld ?_; rotate_left; (focus (intro w' hSw; (try dsimp only at hSw); go_split_ands; first | (go_simp; done) | (go_simp; with_reducible rfl))); simp only [Act.put, List.setIfInBounds_toArray, List.set_cons_zero, List.set_cons_succ]
    refine twoHL (i := 6) (j := 7) rfl rfl (by kernel_rfl) (fun K hK => ?_) (fun K hK => ?_)
    · go_simp
      refine (HI.out w.heap.size _ hk0 hwl0 (Nat.le_refl _) (by show _ < W1.heap.size; omega)).mono ?_
      rintro e w2 ⟨h2, rr, VV, cc, hSS, hcc1, hcc2, hw2, hcase⟩
      have hk2 : Kept R none W1 w2 := hk0.trans h2
      have hsz2 := hk2.size
      rcases hcase with ⟨hr, rfl⟩ | ⟨rfl, z, rfl, hzi, hzv⟩
      · have hbV : Below w2.heap.size w2 (w2.alloc (.cells #[.int .i64 0, .int .i64 0, .nilFunc, .int .i64 0] 103)) := (Below.refl _ _).alloc (Nat.le_refl _) _
        have HN : Hid (PartP true M R F c Q w W1 y E x.f.ty w2.heap.size (w2.alloc (.cells #[.int .i64 0, .int .i64 0, .nilFunc, .int .i64 0] 103))) := ⟨by omega, hk2.trans (Kept.of_below hbV), rr, VV, cc, hSS, hcc1, hcc2, hw2.below hbV, .inl hr⟩
        clear hr hSS
        simp only [noV]
        refine hK.out _ _ (HK.out _ hk2) (fun hHeld => ?_)
        clear hK K
        (try simp only [Act.put, List.setIfInBounds_toArray, List.set_cons_zero, List.set_cons_succ])
        refine oneHL (i := 7) rfl (by kernel_rfl) (fun K hK => ?_)
        go_simp
        refine hK.out _ _ (HK.out _ (hk2.trans (Kept.of_below ((Below.refl _ _).alloc (Nat.le_refl _) _)))) (fun hHeld => ?_)
        clear hK K
        (try simp only [Act.put, List.setIfInBounds_toArray, List.set_cons_zero, List.set_cons_succ])
        refine oneHL (i := 8) rfl (by kernel_rfl) (fun K hK => ?_)
        go_simp
        refine hK.out _ _ (HK.out _ (hk2.trans (Kept.of_below hbV))) (fun hHeld => ?_)
        clear hK K
        (try simp only [Act.put, List.setIfInBounds_toArray, List.set_cons_zero, List.set_cons_succ])
        refine wpAnyH_done (by kernel_rfl) ?_ _
        clear hHeld hcc1 hcc2 hw2
        go_wp2_with fail
        go_meet
        case rel => exact ⟨_, rfl, HN⟩
      · have hone := hzi.one
        have hst4 : ∀ (a : Addr) (m : Mode) (W : World), (store a z.fn m).run Tryz.prog W = stored Tryz.prog W a z.fn m := fun a m W => run_storeOne hone
        have hbV : Below w2.heap.size w2 (w2.alloc (.cells #[.int .i64 z.k, .int .i64 z.n, z.fn, .int .i64 z.tag] 103)) := (Below.refl _ _).alloc (Nat.le_refl _) _
        have HN : Hid (PartP true M R F c Q w W1 y E x.f.ty w2.heap.size (w2.alloc (.cells #[.int .i64 z.k, .int .i64 z.n, z.fn, .int .i64 z.tag] 103))) := ⟨by omega, hk2.trans (Kept.of_below hbV), out0, VV, cc, hSS, hcc1, hcc2, hw2.below hbV, .inr ⟨rfl, z, ⟨by simp [go_sem], by simp [go_sem], by simp [go_sem], by simp [go_sem]⟩, (hzi.same (Same.of_below hbV)).mono (fun x _ hx => ⟨hx.1, hx.2.1⟩), hzv⟩⟩
        clear hSS hzi hzv hone
        simp only [Th.ag]
        refine hK.out _ _ (HK.out _ hk2) (fun hHeld => ?_)
        clear hK K
        (try simp only [Act.put, List.setIfInBounds_toArray, List.set_cons_zero, List.set_cons_succ])
        refine oneHL (i := 7) rfl (by kernel_rfl) (fun K hK => ?_)
        go_simp
        refine hK.out _ _ (HK.out _ (hk2.trans (Kept.of_below ((Below.refl _ _).alloc (Nat.le_refl _) _)))) (fun hHeld => ?_)
        clear hK K
        (try simp only [Act.put, List.setIfInBounds_toArray, List.set_cons_zero, List.set_cons_succ])
        refine oneHL (i := 8) rfl (by kernel_rfl) (fun K hK => ?_)
        go_simp
        refine hK.out _ _ (HK.out _ (hk2.trans (Kept.of_below hbV))) (fun hHeld => ?_)
        clear hK K
        (try simp only [Act.put, List.setIfInBounds_toArray, List.set_cons_zero, List.set_cons_succ])
        refine wpAnyH_done (by kernel_rfl) ?_ _
        clear hHeld hcc1 hcc2 hw2
        go_wp2_with fail
        go_meet
        case rel => exact ⟨_, rfl, HN⟩
    · go_simp
      have hk3 : Kept R none W1 (W1.alloc (.cells #[.int .i64 0, .int .i64 0, .nilFunc, .int .i64 0] 103)).drew := Kept.of_below (((Below.refl _ _).alloc (Nat.le_refl _) _).drew)
      refine hK.out _ _ (HK.out _ hk3) (fun hHeld => ?_)
      clear hK K
      (try simp only [Act.put, List.setIfInBounds_toArray, List.set_cons_zero, List.set_cons_succ])
      refine oneHL (i := 6) rfl (by kernel_rfl) (fun K hK => ?_)
      go_simp
      refine (HI.out W1.heap.size _ hk3 (HB.out.2.2.below (((Below.refl _ _).alloc (Nat.le_refl _) _).drew)) (by omega) (by show _ < (W1.alloc (.cells #[.int .i64 0, .int .i64 0, .nilFunc, .int .i64 0] 103)).heap.size; simp)).mono ?_
      rintro e w2 ⟨h2, rr, VV, cc, hSS, hcc1, hcc2, hw2, hcase⟩
      have hk2 : Kept R none W1 w2 := hk3.trans h2
      have q9 : Rb w2 W1.heap.size := ((Rb.new W1).below ((Below.refl _ _).drew)).kept h2 (by omega)
      rcases hcase with ⟨hr, rfl⟩ | ⟨rfl, z, rfl, hzi, hzv⟩
      · obtain ⟨⟨g0, g1, g2, g3⟩, hk9⟩ := q9.set (.int .i64 0) (.int .i64 0) .nilFunc (.int .i64 0)
        have HN : Hid (PartP true M R F c Q w W1 y E x.f.ty W1.heap.size ((((w2.setCell ⟨W1.heap.size, 0, none⟩ (.int .i64 0)).setCell ⟨W1.heap.size, 1, none⟩ (.int .i64 0)).setCell ⟨W1.heap.size, 2, none⟩ .nilFunc).setCell ⟨W1.heap.size, 3, none⟩ (.int .i64 0))) := ⟨by omega, hk2.new hk9 (Nat.le_refl _), rr, VV, cc, hSS, hcc1, hcc2, hw2.same hk9 (by omega), .inl hr⟩
        have hkV := hk2.new hk9 (Nat.le_refl _)
        clear hr hSS
        simp only [noV]
        obtain ⟨p0, p1, p2, p3, x0, x1, x2, x3⟩ := q9
        clear g0 g1 g2 g3 hk9
        refine hK.out _ _ (HK.out _ hk2) (fun hHeld => ?_)
        clear hK K
        (try simp only [Act.put, List.setIfInBounds_toArray, List.set_cons_zero, List.set_cons_succ])
        refine oneHL (i := 8) rfl (by kernel_rfl) (fun K hK => ?_)
        go_simp
        refine hK.out _ _ (HK.out _ hkV) (fun hHeld => ?_)
        clear hK K
        (try simp only [Act.put, List.setIfInBounds_toArray, List.set_cons_zero, List.set_cons_succ])
        refine wpAnyH_done (by kernel_rfl) ?_ _
        obtain ⟨V9, hV9⟩ : ∃ V9, V9 = (((w2.setCell ⟨W1.heap.size, 0, none⟩ (.int .i64 0)).setCell ⟨W1.heap.size, 1, none⟩ (.int .i64 0)).setCell ⟨W1.heap.size, 2, none⟩ .nilFunc).setCell ⟨W1.heap.size, 3, none⟩ (.int .i64 0) := ⟨_, rfl⟩
        rw [← hV9] at HN
        rw [← hV9]
        clear hV9 hHeld hkV p0 p1 p2 p3 x0 x1 x2 x3 hw2 hk2 h2 hcc1 hcc2
        go_wp2_with fail
        go_meet
        case rel => exact ⟨_, rfl, HN⟩
      · have hone := hzi.one
        have hst4 : ∀ (a : Addr) (m : Mode) (W : World), (store a z.fn m).run Tryz.prog W = stored Tryz.prog W a z.fn m := fun a m W => run_storeOne hone
        obtain ⟨⟨g0, g1, g2, g3⟩, hk9⟩ := q9.set (.int .i64 z.k) (.int .i64 z.n) z.fn (.int .i64 z.tag)
        have HN : Hid (PartP true M R F c Q w W1 y E x.f.ty W1.heap.size ((((w2.setCell ⟨W1.heap.size, 0, none⟩ (.int .i64 z.k)).setCell ⟨W1.heap.size, 1, none⟩ (.int .i64 z.n)).setCell ⟨W1.heap.size, 2, none⟩ z.fn).setCell ⟨W1.heap.size, 3, none⟩ (.int .i64 z.tag))) := ⟨by omega, hk2.new hk9 (Nat.le_refl _), out0, VV, cc, hSS, hcc1, hcc2, hw2.same hk9 (by omega), .inr ⟨rfl, z, ⟨g0, g1, g2, g3⟩, (hzi.same (Same.of_kept hk9 fun hx => hx.2.2 rfl)).mono (fun x _ hx => ⟨hx.1, hx.2.1⟩), hzv⟩⟩
        have hkV := hk2.new hk9 (Nat.le_refl _)
        clear hSS hzi hzv hone
        simp only [Th.ag]
        obtain ⟨p0, p1, p2, p3, x0, x1, x2, x3⟩ := q9
        clear g0 g1 g2 g3 hk9
        refine hK.out _ _ (HK.out _ hk2) (fun hHeld => ?_)
        clear hK K
        (try simp only [Act.put, List.setIfInBounds_toArray, List.set_cons_zero, List.set_cons_succ])
        refine oneHL (i := 8) rfl (by kernel_rfl) (fun K hK => ?_)
        go_simp
        refine hK.out _ _ (HK.out _ hkV) (fun hHeld => ?_)
        clear hK K
        (try simp only [Act.put, List.setIfInBounds_toArray, List.set_cons_zero, List.set_cons_succ])
        refine wpAnyH_done (by kernel_rfl) ?_ _
        obtain ⟨V9, hV9⟩ : ∃ V9, V9 = (((w2.setCell ⟨W1.heap.size, 0, none⟩ (.int .i64 z.k)).setCell ⟨W1.heap.size, 1, none⟩ (.int .i64 z.n)).setCell ⟨W1.heap.size, 2, none⟩ z.fn).setCell ⟨W1.heap.size, 3, none⟩ (.int .i64 z.tag) := ⟨_, rfl⟩
        rw [← hV9] at HN
        rw [← hV9]
        clear hV9 hHeld hkV p0 p1 p2 p3 x0 x1 x2 x3 hw2 hk2 h2 hcc1 hcc2
        go_wp2_with fail
        go_meet
        case rel => exact ⟨_, rfl, HN⟩
  case rest =>
  obtain ⟨b7, rfl, HP⟩ := hcut
  obtain ⟨lb7, hkc, r, V, c', hS, hc1, hc2, hwc, hcase⟩ := HP.out
  clear HP HI hk0 hwl0
  have hEB := HB.out.1.kept hkc hlr
  obtain ⟨w0, ⟨x0, x1, x2, x3, x4, x5, x6⟩, e0, hrb⟩ := hEB
  simp only [Nat.zero_add] at x1 x2 x3 x4 x5 x6
  have hnR : b7 ≠ R := by omega
  rcases hcase with hr | ⟨rfl, z, hz4, hzi, hzv, hzo⟩
  · have hgk : (r.k != 0) = true := by simpa using hr
    have HF : Hid (Kept R none W1 wc ∧ Wl R (F - c') r wc ∧ Rb wc (w.heap.size + 1 + 1 + 1) ∧ EvS true F x.tm (E.map Th.val) x.t.ty c r V c' ∧ c ≤ c' ∧ c' ≤ F ∧ r.k ≠ 0) := ⟨hkc, hwc, hrb, HE1.out _ _ _ hS hr, hc1, hc2, hr⟩
    obtain ⟨c0, c1, _, _, _, _, _, _⟩ := hwc
    obtain ⟨r0, r1, r2, r3, y0, y1, y2, y3⟩ := hrb
    clear hkc hS hr hc1 hc2
    apply_assumption
    go_wp2_with fail
    obtain ⟨⟨e0, e1, e2, e3⟩, hk⟩ := HF.out.2.2.1.set (.int .i64 0) (.int .i64 0) .nilFunc (.int .i64 0)
    refine bodyPost_ret (v := noV) ?_ rfl ⟨((Kept.of_below HB.out.2.1).trans HF.out.1).new hk (by omega), r, V, c', HF.out.2.2.2.1, HF.out.2.2.2.2.1, HF.out.2.2.2.2.2.1, HF.out.2.1.same hk (by omega), .inl ⟨HF.out.2.2.2.2.2.2, rfl⟩⟩
    simp [results, Tryz.results59, go_sem, noV, e0, e1, e2, e3]
  · have hzt : tyV z.val x.f.ty := (hzo rfl).2 ▸ (hzi.cty (hzo rfl).1).2
    have hszc := hkc.size
    have HC97 : Hid (Calls Tryz.prog 97 #[.pointer (some ⟨R, 0, none⟩), .agg #[.int .i64 z.k, .int .i64 z.n, z.fn, .int .i64 z.tag], .agg #[.int .i64 x.f.k, .slice x.f.a x.f.l.length x.f.c], .agg #[.int .i64 x.t.k, .slice x.t.a x.t.l.length x.t.c], .int .i64 x.n, .bool false] wc (CaPost M R (F - c') (fun x => Q x ∧ x ≠ w.heap.size + 1 + 1 + 1) wc (chg (castOf x.f.ty x.t.ty ⟨4, x.n, false⟩) z.val) (caP z x.f x.t))) :=
      rcast_any M R (F - c') (fun x => Q x ∧ x ≠ w.heap.size + 1 + 1 + 1) z x.f x.t x.n false wc hzi (HX.out _ hkc).1 (HX.out _ hkc).2 HG.out.1 HG.out.2.1 HG.out.2.2 hzt HXB.out.1 HXB.out.2.1 hwc (fun hx => HXB.out.2.2.1 hx.1) (fun b hb => ⟨HXB.out.2.2.2 b (by omega), by omega⟩)
    have HF : Hid (Kept R none W1 wc ∧ EvS true F x.tm (E.map Th.val) x.t.ty c (chg (castOf x.f.ty x.t.ty ⟨4, x.n, false⟩) z.val).1 (chg (castOf x.f.ty x.t.ty ⟨4, x.n, false⟩) z.val).2 c' ∧ c ≤ c' ∧ c' ≤ F ∧ okTh true x.f.ty z) := ⟨hkc, hzv ▸ HE2.out V c' hS, hc1, hc2, hzo⟩
    obtain ⟨z0, z1, z2, z3⟩ := hz4
    simp only [Nat.zero_add] at z1 z2 z3
    obtain ⟨c0, c1, _, _, _, _, _, _⟩ := hwc
    replace c1 : wc.cell? ⟨R, 1, none⟩ = some (.int .i64 0) := c1
    obtain ⟨P, hP⟩ : ∃ P, P = chg (castOf x.f.ty x.t.ty ⟨4, x.n, false⟩) z.val := ⟨_, rfl⟩
    rw [← hP] at HC97 HF
    by_cases hg : P.1.k = 0
    · have HC : Hid (Calls Tryz.prog 97 #[.pointer (some ⟨R, 0, none⟩), .agg #[.int .i64 z.k, .int .i64 z.n, z.fn, .int .i64 z.tag], .agg #[.int .i64 x.f.k, .slice x.f.a x.f.l.length x.f.c], .agg #[.int .i64 x.t.k, .slice x.t.a x.t.l.length x.t.c], .int .i64 x.n, .bool false] wc fun e w' => ∃ g : Th, e = .returned (.agg #[.int .i64 g.k, .int .i64 g.n, g.fn, .int .i64 g.tag]) ∧ Hid (Kept R none wc w' ∧ P.1 = out0 ∧ Wl R (F - c') out0 w' ∧ g.In true M R (fun x => Q x ∧ x ≠ w.heap.size + 1 + 1 + 1) w' ∧ g.val = P.2 ∧ okTh true x.t.ty g)) := HC97.out.mono (by
        rintro e w' ⟨h1, ⟨h2, _⟩ | ⟨h2, h3, g, h4, h5, h6, h7⟩⟩
        · exact absurd hg h2
        · exact ⟨g, h4, h1, h2, h3, h5, h6, fun _ => h7 (HF.out.2.2.2.2 rfl).1 (HF.out.2.2.2.2 rfl).2⟩)
      clear hkc hS hc1 hc2 hzi hzv hzo hzt HC97 hP hg hrb hszc lb7
      apply_assumption
      go_wp2_with (go_at_call 97; refine HC.out.mono ?_; rintro e w4 ⟨g, rfl, HZ⟩; have hst4 : ∀ (a : Addr) (m : Mode) (W : World), (store a g.fn m).run Tryz.prog W = stored Tryz.prog W a g.fn m := (fun a m W => run_storeOne HZ.out.2.2.2.1.one); obtain ⟨r0, r1, r2, r3, y0, y1, y2, y3⟩ := (HB.out.1.kept (HF.out.1.trans HZ.out.1) hlr).r; clear w0 x0 x1 x2 x3 x4 x5 x6 e0 z0 z1 z2 z3 c0 c1)
      obtain ⟨k1, k2, k3, k4, k5, k6⟩ := HZ.out
      have hend := th_end (m := true) (M := M) (Q := Q) (h := g) (HB.out.1.kept (HF.out.1.trans k1) hlr).r (by omega) hlr (((Kept.of_below HB.out.2.1).trans HF.out.1).trans k1) k3 k4 (fun x hx => hx)
      obtain ⟨⟨e0, e1, e2, e3⟩, hk, hW, hi⟩ := hend
      refine bodyPost_ret (v := g.ag) ?_ rfl ⟨hk, P.1, P.2, c', HF.out.2.1, HF.out.2.2.1, HF.out.2.2.2.1, by rw [k2]; exact hW, .inr ⟨k2, g, rfl, hi, k5, k6⟩⟩
      simp [results, Tryz.results59, go_sem, Th.ag, e0, e1, e2, e3]
    · have HC : Hid (Calls Tryz.prog 97 #[.pointer (some ⟨R, 0, none⟩), .agg #[.int .i64 z.k, .int .i64 z.n, z.fn, .int .i64 z.tag], .agg #[.int .i64 x.f.k, .slice x.f.a x.f.l.length x.f.c], .agg #[.int .i64 x.t.k, .slice x.t.a x.t.l.length x.t.c], .int .i64 x.n, .bool false] wc fun e w' => e = .returned (.agg #[.int .i64 0, .int .i64 0, .nilFunc, .int .i64 0]) ∧ Hid (Kept R none wc w' ∧ Wl R (F - c') P.1 w' ∧ P.1.k ≠ 0)) := HC97.out.mono (by
        rintro e w' ⟨h1, ⟨h2, h3, h4⟩ | ⟨h2, _⟩⟩
        · exact ⟨h3, h1, h4, h2⟩
        · exact absurd (by rw [h2]; rfl) hg)
      clear hkc hS hc1 hc2 hzi hzv hzo hzt HC97 hP hg hrb hszc lb7
      apply_assumption
      go_wp2_with (go_at_call 97; refine HC.out.mono ?_; rintro e w4 ⟨rfl, HZ⟩; obtain ⟨r0, r1, r2, r3, y0, y1, y2, y3⟩ := (HB.out.1.kept (HF.out.1.trans HZ.out.1) hlr).r; clear w0 x0 x1 x2 x3 x4 x5 x6 e0 z0 z1 z2 z3 c0 c1)
      obtain ⟨k1, k2, k3⟩ := HZ.out
      obtain ⟨⟨e0, e1, e2, e3⟩, hk⟩ := (HB.out.1.kept (HF.out.1.trans k1) hlr).r.set (.int .i64 0) (.int .i64 0) .nilFunc (.int .i64 0)
      refine bodyPost_ret (v := noV) ?_ rfl ⟨(((Kept.of_below HB.out.2.1).trans HF.out.1).trans k1).new hk (by omega), P.1, P.2, c', HF.out.2.1, HF.out.2.2.1, HF.out.2.2.2.1, k2.same hk (by omega), .inl ⟨k3, rfl⟩⟩
      simp [results, Tryz.results59, go_sem, noV, e0, e1, e2, e3]
end Go.Proofs.YtnddkmccagiclabGreatDoor
