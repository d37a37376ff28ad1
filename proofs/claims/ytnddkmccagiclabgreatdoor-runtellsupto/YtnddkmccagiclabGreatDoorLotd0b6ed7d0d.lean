/-
  What a call of ref's function comes to where a call is left.
-/
import Derived.Test.YtnddkmccagiclabGreatDoorLot4ae5b21284
import Derived.Test.YtnddkmccagiclabGreatDoorLot198e6357ab
namespace Go.Proofs.YtnddkmccagiclabGreatDoor
open Go.RowKit
set_option maxRecDepth 20000 in
set_option maxHeartbeats 2000000 in
theorem clo_on (m : Bool) (M R F c k : Nat) (Q : Nat → Prop) (h X : Th) (y : TT) (B : Ty) (w : World) (hp : Clo m M R Q w h) (he : ∀ e, e ∈ h.env → e.In m M R Q w) (hX : X.In m M R Q w) (hw : Wl R (F - c) out0 w) (hk : F - c = k + 1) (hF : F ≤ 1000) (hM : M ≤ 10000) (hQ : ¬ Q R) (nw : ∀ b, w.heap.size ≤ b → Q b) (hwy : h.wy = 1) (hy : h.x.l = [y])
    (ih : Hid (∀ (Q' : Nat → Prop) (ea : Option Addr) (ec : Nat) (W : World), y.In W → y.Bl Q' → Env m M R Q' W ea (X :: h.env) → Wl R (F - (c + 1)) out0 W → ¬ Q' R → (∀ b, W.heap.size ≤ b → Q' b) → Calls Tryz.prog 59 #[.pointer (some ⟨R, 0, none⟩), .agg #[.int .i64 y.k, .int .i64 y.n, .int .i64 y.t.k, .slice y.t.a y.t.l.length y.t.c, .int .i64 y.f.k, .slice y.f.a y.f.l.length y.f.c, .slice y.a y.l.length y.c], .slice ea (h.env.length + 1) ec] W (ThPost m M R F (c + 1) Q' W B (fun r V c' => EvR F y.tm (X.val :: h.env.map Th.val) (c + 1) r V c' ∧ (m = true → r.k = 0 → tyV V B))))) :
    Calls Tryz.prog 95 #[.agg #[.int .i64 X.k, .int .i64 X.n, X.fn, .int .i64 X.tag], .pointer (some ⟨h.b1, 0, none⟩), .pointer (some ⟨h.b2, 0, none⟩), .pointer (some ⟨h.b3, 0, none⟩)] w (ThPost m M R F c Q w B (fun r V c' => DoS m F h.cv X.val B c r V c')) := by
  have hlr := hw.lt
  obtain ⟨W1, hW1⟩ : ∃ W, W = (w.alloc (.cells #[.int .i64 X.k, .int .i64 X.n, X.fn, .int .i64 X.tag] 103)).alloc (.cells #[.int .i64 0, .int .i64 0, .nilFunc, .int .i64 0] 103) := ⟨_, rfl⟩
  have hB : PB X w W1 := by rw [hW1]; exact pb_start X w
  have hl1 : Below w.heap.size w W1 := by rw [hW1]; exact pb_low X w
  have hs1 : W1.heap.size = w.heap.size + 1 + 1 := by rw [hW1]; simp
  have hone := hX.one
  have hst : ∀ (a : Addr) (m : Mode) (W : World), (store a X.fn m).run Tryz.prog W = stored Tryz.prog W a X.fn m := fun a m W => run_storeOne hone
  have hne : h.b1 ≠ R := fun e => hQ (e ▸ hp.b1)
  have hw0 : Wl R (k + 1) out0 W1 := hk ▸ hw.below hl1
  have HB : Hid (PB X w W1 ∧ Below w.heap.size w W1 ∧ Wl R (k + 1) out0 W1) := ⟨hB, hl1, hw0⟩
  have q1 : W1.cell? ⟨h.b1, 0, none⟩ = some (.pointer (some ⟨R, 0, none⟩)) := cell_later hl1 hp.w1
  obtain ⟨c0, _, _, _, z0, _, _, _⟩ := hw0
  have k0 : ((k + 1 : Nat) : Int) ≠ 0 := by omega
  have k1 : (((k + 1 : Nat) : Int) == 0) = false := by simpa using k0
  obtain ⟨kk, hkk⟩ : ∃ kk : Int, kk = ((k + 1 : Nat) : Int) := ⟨_, rfl⟩
  rw [← hkk] at c0 k1
  have HKK : Hid (kk = ((k + 1 : Nat) : Int)) := hkk
  have hb1 : 0 ≤ kk := by omega
  have hb2 : kk ≤ 1000 := by omega
  have HP : Hid (Clo m M R Q w h ∧ (∀ e, e ∈ h.env → e.In m M R Q w) ∧ X.In m M R Q w ∧ ¬ Q R ∧ (∀ b, w.heap.size ≤ b → Q b) ∧ h.x.l = [y] ∧ F - c = k + 1 ∧ F ≤ 1000 ∧ M ≤ 10000 ∧ h.wy = 1) := ⟨hp, he, hX, hQ, nw, hy, hk, hF, hM, hwy⟩
  clear hp he hX hw hQ nw hwy hone hB hy hk hF hM k0 hkk
  go_enter Tryz.func95, Tryz.ntmps95
  go_upto_region 1 with fail
  rw [← hW1]
  clear hW1
  go_upto_region 4 with fail
  have hw4 : Wl R k out0 (W1.setCell ⟨R, 0, none⟩ (.int .i64 (kk - 1))) := by
    have := HB.out.2.2.spend
    rw [HKK.out]
    rw [show (((k + 1 : Nat) : Int) - 1) = (k : Int) by omega]
    exact this
  have hk4 : Kept R none W1 (W1.setCell ⟨R, 0, none⟩ (.int .i64 (kk - 1))) := setR_kept
  obtain ⟨V0, hV0⟩ : ∃ V, V = W1.setCell ⟨R, 0, none⟩ (.int .i64 (kk - 1)) := ⟨_, rfl⟩
  rw [← hV0] at hw4 hk4
  rw [← hV0]
  clear hV0 c0 z0 q1 k1 hb1 hb2
  have hs4 : V0.heap.size = w.heap.size + 1 + 1 ∨ w.heap.size + 1 + 1 ≤ V0.heap.size := by have := hk4.size; omega
  obtain ⟨bx, ox, hxa, hx7, hyi⟩ := HP.out.1.xi.part 0 (by rw [HP.out.2.2.2.2.2.1]; simp)
  have hx0 : h.x.l[0]'(by rw [HP.out.2.2.2.2.2.1]; simp) = y := by simp [HP.out.2.2.2.2.2.1]
  rw [hx0] at hx7 hyi
  simp only [Nat.zero_mul, Nat.add_zero] at hx7
  have hxl : h.x.l.length = 1 := by rw [HP.out.2.2.2.2.2.1]; rfl
  have hbx : Q bx := HP.out.1.xb.own (by rw [HP.out.2.2.2.2.2.1]; simp) _ hxa
  have hsm : ∀ W, Kept R none V0 W → Same Q w W := fun W hk b hb hq => by
    have hb1 := HB.out.2.1.size
    have hne : b ≠ R := fun e => HP.out.2.2.2.1 (e ▸ hq)
    have hs := hk4.size
    rw [hk.block b (by omega) hne (by simp), hk4.block b (by omega) hne (by simp)]
    exact HB.out.2.1.block b hb
  have HK : Hid (∀ W, SK R (w.heap.size + 1) V0 W → W.cell? ⟨h.b1, 0, none⟩ = some (.pointer (some ⟨R, 0, none⟩)) ∧ W.cell? ⟨h.b2, 6, none⟩ = some (.slice (some ⟨bx, ox, none⟩) 1 h.x.c) ∧ W.cell? ⟨bx, ox, none⟩ = some (.int .i64 y.k) ∧ W.cell? ⟨bx, ox + 1, none⟩ = some (.int .i64 y.n) ∧ W.cell? ⟨bx, ox + 2, none⟩ = some (.int .i64 y.t.k) ∧ W.cell? ⟨bx, ox + 3, none⟩ = some (.slice y.t.a y.t.l.length y.t.c) ∧ W.cell? ⟨bx, ox + 4, none⟩ = some (.int .i64 y.f.k) ∧ W.cell? ⟨bx, ox + 5, none⟩ = some (.slice y.f.a y.f.l.length y.f.c) ∧ W.cell? ⟨bx, ox + 6, none⟩ = some (.slice y.a y.l.length y.c) ∧ W.cell? ⟨w.heap.size, 0, none⟩ = some (.int .i64 X.k) ∧ W.cell? ⟨w.heap.size, 1, none⟩ = some (.int .i64 X.n) ∧ W.cell? ⟨w.heap.size, 2, none⟩ = some X.fn ∧ W.cell? ⟨w.heap.size, 3, none⟩ = some (.int .i64 X.tag) ∧ W.cell? ⟨h.b3, 0, none⟩ = some (.slice h.ea h.env.length h.ec)) := fun W hk => by
    have hp := HP.out.1
    have hcl : ∀ b i u, w.cell? ⟨b, i, none⟩ = some u → Q b → W.cell? ⟨b, i, none⟩ = some u := fun b i u e hb => hk b i u ((hsm V0 Kept.refl).cell e hb) (fun e => HP.out.2.2.2.1 (e ▸ hb)) (by have : b < w.heap.size := World.block_lt_of_cell? _ _ e; omega)
    have hc6 := hp.x7.c6
    rw [hxa, hxl] at hc6
    have hx4 := (HB.out.1.kept hk4 hlr).x4
    exact ⟨hcl _ _ _ hp.w1 hp.b1, hcl _ _ _ hc6 hp.b2, hcl _ _ _ hx7.c0 hbx, hcl _ _ _ hx7.c1 hbx, hcl _ _ _ hx7.c2 hbx, hcl _ _ _ hx7.c3 hbx, hcl _ _ _ hx7.c4 hbx, hcl _ _ _ hx7.c5 hbx, hcl _ _ _ hx7.c6 hbx, hk _ _ _ hx4.c0 (by omega) (by omega), hk _ _ _ hx4.c1 (by omega) (by omega), hk _ _ _ hx4.c2 (by omega) (by omega), hk _ _ _ hx4.c3 (by omega) (by omega), hcl _ _ _ hp.e3 hp.b3⟩
  have i0 : (0 : Int) < ((1 : Nat) : Int) := by omega
  have hk0 : Kept R none V0 V0.drew := Kept.of_below ((Below.refl _ _).drew)
  refine wp_region_held_drew (S := fun W => W.cell? ⟨h.b1, 0, none⟩ = some (.pointer (some ⟨R, 0, none⟩)) ∧ W.cell? ⟨h.b2, 6, none⟩ = some (.slice (some ⟨bx, ox, none⟩) 1 h.x.c) ∧ W.cell? ⟨bx, ox, none⟩ = some (.int .i64 y.k) ∧ W.cell? ⟨bx, ox + 1, none⟩ = some (.int .i64 y.n) ∧ W.cell? ⟨bx, ox + 2, none⟩ = some (.int .i64 y.t.k) ∧ W.cell? ⟨bx, ox + 3, none⟩ = some (.slice y.t.a y.t.l.length y.t.c) ∧ W.cell? ⟨bx, ox + 4, none⟩ = some (.int .i64 y.f.k) ∧ W.cell? ⟨bx, ox + 5, none⟩ = some (.slice y.f.a y.f.l.length y.f.c) ∧ W.cell? ⟨bx, ox + 6, none⟩ = some (.slice y.a y.l.length y.c) ∧ W.cell? ⟨w.heap.size, 0, none⟩ = some (.int .i64 X.k) ∧ W.cell? ⟨w.heap.size, 1, none⟩ = some (.int .i64 X.n) ∧ W.cell? ⟨w.heap.size, 2, none⟩ = some X.fn ∧ W.cell? ⟨w.heap.size, 3, none⟩ = some (.int .i64 X.tag) ∧ W.cell? ⟨h.b3, 0, none⟩ = some (.slice h.ea h.env.length h.ec)) (by kernel_rfl) (HK.out _ ((SK.refl _ _ _).kept hk0)) (fun hHeld => ?_)
  refine takeHL (i := 0) (v := ?_) rfl (by kernel_rfl) (by kernel_rfl) (by kernel_rfl) (fun _ _ _ h => h) (Or.inl ⟨by rfl, ?_⟩) hHeld ?_; rotate_left; (focus (intro w' hSw; (try dsimp only at hSw); go_split_ands; first | (go_simp; done) | (go_simp; with_reducible rfl))); simp only [Act.put, List.setIfInBounds_toArray, List.set_cons_zero, List.set_cons_succ]
  refine takeHL (i := 1) (v := ?_) rfl (by kernel_rfl) (by kernel_rfl) (by kernel_rfl) (fun _ _ _ h => h) (Or.inl ⟨by rfl, ?_⟩) hHeld ?_; rotate_left; (focus (intro w' hSw; (try dsimp only at hSw); go_split_ands; first | (go_simp; done) | (go_simp; with_reducible rfl))); simp only [Act.put, List.setIfInBounds_toArray, List.set_cons_zero, List.set_cons_succ]
  refine takeHL (i := 2) (v := ?_) rfl (by kernel_rfl) (by kernel_rfl) (by kernel_rfl) (fun _ _ _ h => h) (Or.inl ⟨by rfl, ?_⟩) hHeld ?_; rotate_left; (focus (intro w' hSw; (try dsimp only at hSw); go_split_ands; first | (go_simp; done) | (go_simp; with_reducible rfl))); simp only [Act.put, List.setIfInBounds_toArray, List.set_cons_zero, List.set_cons_succ]
  refine takeHL (i := 3) (v := ?_) rfl (by kernel_rfl) (by kernel_rfl) (by kernel_rfl) (fun _ _ _ h => h) (Or.inl ⟨by rfl, ?_⟩) hHeld ?_; rotate_left; (focus (intro w' hSw; (try dsimp only at hSw); go_split_ands; first | (go_simp; done) | (go_simp; with_reducible rfl))); simp only [Act.put, List.setIfInBounds_toArray, List.set_cons_zero, List.set_cons_succ]
  refine takeHL (i := 4) (v := ?_) rfl (by kernel_rfl) (by kernel_rfl) (by kernel_rfl) (fun _ _ _ h => h) (Or.inl ⟨by rfl, ?_⟩) hHeld ?_; rotate_left; (focus (intro w' hSw; (try dsimp only at hSw); go_split_ands; first | (go_simp; done) | (go_simp; with_reducible rfl))); simp only [Act.put, List.setIfInBounds_toArray, List.set_cons_zero, List.set_cons_succ]
  refine takeHL (i := 5) (v := ?_) rfl (by kernel_rfl) (by kernel_rfl) (by kernel_rfl) (fun _ _ _ h => h) (Or.inl ⟨by rfl, ?_⟩) hHeld ?_; rotate_left; (focus (intro w' hSw; (try dsimp only at hSw); go_split_ands; first | (go_simp; done) | (go_simp; with_reducible rfl))); simp only [Act.put, List.setIfInBounds_toArray, List.set_cons_zero, List.set_cons_succ]
  refine takeHL (i := 7) (v := ?_) rfl (by kernel_rfl) (by kernel_rfl) (by kernel_rfl) (fun _ _ _ h => h) (Or.inl ⟨by rfl, ?_⟩) hHeld ?_; rotate_left; (focus (intro w' hSw; (try dsimp only at hSw); go_split_ands; first | (go_simp; done) | (go_simp; with_reducible rfl))); simp only [Act.put, List.setIfInBounds_toArray, List.set_cons_zero, List.set_cons_succ]
  refine oneHL (i := 6) rfl (by kernel_rfl) (fun K hK => ?_)
  go_simp
  have hbV : Below V0.heap.size V0 (V0.alloc (.cells #[.int .i64 X.k, .int .i64 X.n, X.fn, .int .i64 X.tag] 103)).drew := ((Below.refl _ _).alloc (Nat.le_refl _) _).drew
  have hown : (V0.alloc (.cells #[.int .i64 X.k, .int .i64 X.n, X.fn, .int .i64 X.tag] 103)).drew.ownsRow V0.heap.size 103 4 (.slice (some ⟨V0.heap.size, 0, none⟩) 1 1) 1 (cells4 [X]) := by
    have := World.ownsRow_lit (base := V0.heap.size) (e := 103) (size := 4) V0 #[.int .i64 X.k, .int .i64 X.n, X.fn, .int .i64 X.tag] 1 (by simp) (by unfold maxLen; omega) (by simp)
    exact ownsRow_below (by simpa [cells4] using this) ((Below.refl _ _).drew)
  have hsV : (V0.alloc (.cells #[.int .i64 X.k, .int .i64 X.n, X.fn, .int .i64 X.tag] 103)).drew.heap.size = V0.heap.size + 1 := by simp
  obtain ⟨V1, hV1⟩ : ∃ V, V = (V0.alloc (.cells #[.int .i64 X.k, .int .i64 X.n, X.fn, .int .i64 X.tag] 103)).drew := ⟨_, rfl⟩
  rw [← hV1] at hbV hown hsV
  rw [← hV1]
  clear hV1
  have hkV : Kept R none V0 V1 := Kept.of_below hbV
  have hwV : Wl R k out0 V1 := hw4.below hbV
  refine hK.out _ _ (HK.out _ ((SK.refl _ _ _).kept hkV)) (fun hHeld => ?_)
  clear hK K
  (try simp only [Act.put, List.setIfInBounds_toArray, List.set_cons_zero, List.set_cons_succ])
  have hyb : y.Bl Q := HP.out.1.xb.mem (by rw [HP.out.2.2.2.2.2.1]; simp)
  have hsz0 : w.heap.size + 1 + 1 ≤ V0.heap.size := by have := hk4.size; omega
  have hins : ∀ W, Kept R none V0 W → ∀ e, e ∈ X :: h.env → e.In m M R (fun x => Q x ∧ x ≠ w.heap.size + 1) W := fun W hk e he => by
    have h1 : e.In m M R Q w := by
      rcases List.mem_cons.1 he with rfl | he
      · exact HP.out.2.2.1
      · exact HP.out.2.1 e he
    exact (h1.mono (Q' := (fun x => Q x ∧ x ≠ w.heap.size + 1)) fun x h1 h2 => ⟨h2, by omega⟩).same fun b h1 h2 => hsm W hk b h1 h2.1
  obtain ⟨j0, hi0, hz0, hz1, hz2⟩ := info_parts Tryz.info103s
  have hg0 : (fun x => Q x ∧ x ≠ w.heap.size + 1) V0.heap.size := ⟨HP.out.2.2.2.2.1 _ (by omega), by omega⟩
  by_cases h0 : h.env.length = 0
  · have he0 : h.env = [] := List.eq_nil_of_length_eq_zero h0
    have HENV : Hid (Env m M R (fun x => Q x ∧ x ≠ w.heap.size + 1) V1 (some ⟨V0.heap.size, 0, none⟩) (X :: h.env)) := env_of_row (n := 1) (by rw [he0]; exact hown) (by rw [he0]; rfl) hg0 (hins V1 hkV)
    refine oneHL (i := 8) rfl (by kernel_rfl) (fun K hK => ?_)
    refine step_append_void (by rfl) _ _ _ (by rfl) 103 j0 Tryz.underlying157 hi0 V0.heap.size 1 1 (by rfl) h.ea h.ec (by show Value.slice h.ea h.env.length h.ec = _; rw [h0]) (by omega) ?_
    refine hK.out _ _ (HK.out _ ((SK.refl _ _ _).kept hkV)) (fun hHeld => ?_)
    clear hK K
    (try simp only [Act.put, List.setIfInBounds_toArray, List.set_cons_zero, List.set_cons_succ])
    have hkW := hkV
    have hwW := hwV
    have HI : Hid (Calls Tryz.prog 59 #[.pointer (some ⟨R, 0, none⟩), .agg #[.int .i64 y.k, .int .i64 y.n, .int .i64 y.t.k, .slice y.t.a y.t.l.length y.t.c, .int .i64 y.f.k, .slice y.f.a y.f.l.length y.f.c, .slice y.a y.l.length y.c], .slice (some ⟨V0.heap.size, 0, none⟩) 1 1] V1 (ThPost m M R F (c + 1) (fun x => Q x ∧ x ≠ w.heap.size + 1) V1 B (fun r V c' => EvR F y.tm (X.val :: h.env.map Th.val) (c + 1) r V c' ∧ (m = true → r.k = 0 → tyV V B)))) := by
      have h1 := ih.out (fun x => Q x ∧ x ≠ w.heap.size + 1) (some ⟨V0.heap.size, 0, none⟩) 1 V1 (hyi.same (hsm V1 hkW) hyb) ((hyb.and hyi.bl).mono fun b hb => ⟨hb.1, by omega⟩) HENV.out ((show F - (c + 1) = k by have := HP.out.2.2.2.2.2.2.1; omega) ▸ hwW) (fun hx => HP.out.2.2.2.1 hx.1) (fun b hb => ⟨HP.out.2.2.2.2.1 b (by omega), by omega⟩)
      rw [h0] at h1
      exact h1
    refine oneHL (i := 9) rfl (by kernel_rfl) (fun K hK => ?_)
    go_simp
    refine HI.out.mono ?_
    rintro e w5 ⟨hk5, r, V, c', ⟨hS, hSt⟩, hc1, hc2, hw5, hcase⟩
    have HD : Hid (DoS m F h.cv X.val B c r V c') := by
      refine dos_of (by rw [clo_cv HP.out.2.2.2.2.2.2.2.2.2]; rfl) (ap_enter (by rw [clo_cv HP.out.2.2.2.2.2.2.2.2.2]; rfl) (by have := HP.out.2.2.2.2.2.2.1; omega) ?_) hSt
      rw [clo_cv HP.out.2.2.2.2.2.2.2.2.2]
      have e : h.x.tm.at 0 = y.tm := by rw [Tm.at, TT.tm_l, HP.out.2.2.2.2.2.1]; rfl
      show EvR F (h.x.tm.at 0) (X.val :: h.env.map Th.val) (c + 1) r V c'
      rw [e]
      exact hS
    have hkF : Kept R none V0 w5 := hkW.trans hk5
    have HF : Hid (Kept R none V0 w5 ∧ Wl R (F - c') r w5 ∧ Rb w5 (w.heap.size + 1)) := ⟨hkF, hw5, (HB.out.1.kept (hk4.trans hkF) hlr).r⟩
    have hsk5 : SK R (w.heap.size + 1) V0 w5 := (SK.refl _ _ _).kept hkF
    obtain ⟨r0, r1, r2, r3, y0, y1, y2, y3⟩ := HF.out.2.2
    clear hS hSt hw5 hk5 HI
    rcases hcase with ⟨hr, rfl⟩ | ⟨rfl, z, rfl, hzi, hzv⟩
    · simp only [noV]
      refine hK.out _ _ (HK.out _ hsk5) (fun hHeld => ?_)
      clear hK K
      (try simp only [Act.put, List.setIfInBounds_toArray, List.set_cons_zero, List.set_cons_succ])
      refine oneHL (i := 10) rfl (by kernel_rfl) (fun K hK => ?_)
      go_simp
      refine hK.out _ _ (HK.out _ ((((hsk5.set _ _).set _ _).set _ _).set _ _)) (fun hHeld => ?_)
      clear hK K
      (try simp only [Act.put, List.setIfInBounds_toArray, List.set_cons_zero, List.set_cons_succ])
      refine wpAnyH_done (by kernel_rfl) ?_ _
      clear hHeld
      go_wp2_with fail
      obtain ⟨⟨e0, e1, e2, e3⟩, hk⟩ := HF.out.2.2.set (.int .i64 0) (.int .i64 0) .nilFunc (.int .i64 0)
      refine bodyPost_ret (v := noV) ?_ rfl ⟨(((Kept.of_below HB.out.2.1).trans hk4).trans HF.out.1).new hk (by omega), r, V, c', HD.out, by omega, hc2, HF.out.2.1.same hk (by omega), .inl ⟨hr, rfl⟩⟩
      simp [results, Tryz.results95, go_sem, noV, e0, e1, e2, e3]
    · have hone := hzi.one
      have hst4 : ∀ (a : Addr) (m : Mode) (W : World), (store a z.fn m).run Tryz.prog W = stored Tryz.prog W a z.fn m := fun a m W => run_storeOne hone
      have hend := th_end (Q := Q) (h := z) HF.out.2.2 (by omega) hlr (((Kept.of_below HB.out.2.1).trans hk4).trans HF.out.1) HF.out.2.1 hzi (fun x hx => hx)
      have HE : Hid _ := hend
      clear hend hzi hone
      simp only [Th.ag]
      refine hK.out _ _ (HK.out _ hsk5) (fun hHeld => ?_)
      clear hK K
      (try simp only [Act.put, List.setIfInBounds_toArray, List.set_cons_zero, List.set_cons_succ])
      refine oneHL (i := 10) rfl (by kernel_rfl) (fun K hK => ?_)
      go_simp
      refine hK.out _ _ (HK.out _ ((((hsk5.set _ _).set _ _).set _ _).set _ _)) (fun hHeld => ?_)
      clear hK K
      (try simp only [Act.put, List.setIfInBounds_toArray, List.set_cons_zero, List.set_cons_succ])
      refine wpAnyH_done (by kernel_rfl) ?_ _
      clear hHeld
      go_wp2_with fail
      obtain ⟨⟨e0, e1, e2, e3⟩, hk, hW, hi⟩ := HE.out
      refine bodyPost_ret (v := z.ag) ?_ rfl ⟨hk, out0, V, c', HD.out, by omega, hc2, hW, .inr ⟨rfl, z, rfl, hi, hzv⟩⟩
      simp [results, Tryz.results95, go_sem, Th.ag, e0, e1, e2, e3]
  · have hEV : Env m M R Q V1 h.ea h.env := ⟨fun j l => by
      obtain ⟨b, o, e, hb, h4⟩ := HP.out.1.env j l
      exact ⟨b, o, e, hb, h4.same (hsm V1 hkV) hb⟩, fun e he => (HP.out.2.1 e he).same (hsm V1 hkV)⟩
    obtain ⟨bb, oo, hea, _, _⟩ := hEV.at4 0 (by omega)
    have hnews := fun j u hj => (hea ▸ hEV).news j u hj
    have hmM : h.env.length ≤ 10000 := by have := HP.out.1.sz; have := HP.out.2.2.2.2.2.2.2.2.1; omega
    have hones : ∀ u, u ∈ cells4 h.env → u.oneCell' = true := fun u hu => cells4_one _ u (fun e he => (HP.out.2.1 e he).one) hu
    refine oneHL (i := 8) rfl (by kernel_rfl) (fun K hK => ?_)
    refine step_append_lies _ (by rfl) _ _ _ (by rfl) V0.heap.size 103 j0 _ 4 32 Tryz.underlying157 hi0 hz0 hz1 hz2 rfl (by omega) (.slice (some ⟨V0.heap.size, 0, none⟩) 1 1) 1 (cells4 [X]) (by rfl) hown ⟨bb, oo, none⟩ h.env.length h.ec (cells4 h.env) (by show Value.slice h.ea h.env.length h.ec = _; rw [hea]) (cells4_length _) hnews hones (by omega) (by unfold maxLen; omega) (by omega) (by omega) (V0.heap.size + 1) hsV ?_
    intro gg cap1 w3 hown1 hgrow hat hlt3
    have hgg : V0.heap.size ≤ gg := by
      rcases hat with h | h
      · simp [Value.ownBlock] at h; omega
      · omega
    have hszg := hgrow.size
    have hbW : Below V0.heap.size V0 w3 := hbV.trans ⟨hgrow.os, hgrow.tape, hgrow.output, hgrow.size, fun q hq => hgrow.block q (by omega) (by simp [Value.ownBlock]; omega)⟩
    have hkW : Kept R none V0 w3 := Kept.of_below hbW
    have hwW : Wl R k out0 w3 := hw4.below hbW
    have HENV : Hid (Env m M R (fun x => Q x ∧ x ≠ w.heap.size + 1) w3 (some ⟨gg, 0, none⟩) (X :: h.env)) := env_of_row (n := 1 + h.env.length) (by simpa [cells4] using hown1) (by simp; omega) ⟨HP.out.2.2.2.2.1 _ (by omega), by omega⟩ (hins w3 hkW)
    refine hK.out _ _ (HK.out _ ((SK.refl _ _ _).kept hkW)) (fun hHeld => ?_)
    clear hK K hown1 hgrow hat hlt3 hnews hones hEV
    (try simp only [Act.put, List.setIfInBounds_toArray, List.set_cons_zero, List.set_cons_succ])
    have HI : Hid (Calls Tryz.prog 59 #[.pointer (some ⟨R, 0, none⟩), .agg #[.int .i64 y.k, .int .i64 y.n, .int .i64 y.t.k, .slice y.t.a y.t.l.length y.t.c, .int .i64 y.f.k, .slice y.f.a y.f.l.length y.f.c, .slice y.a y.l.length y.c], .slice (some ⟨gg, 0, none⟩) (1 + h.env.length) cap1] w3 (ThPost m M R F (c + 1) (fun x => Q x ∧ x ≠ w.heap.size + 1) w3 B (fun r V c' => EvR F y.tm (X.val :: h.env.map Th.val) (c + 1) r V c' ∧ (m = true → r.k = 0 → tyV V B)))) := by
      have h1 := ih.out (fun x => Q x ∧ x ≠ w.heap.size + 1) (some ⟨gg, 0, none⟩) cap1 w3 (hyi.same (hsm w3 hkW) hyb) ((hyb.and hyi.bl).mono fun b hb => ⟨hb.1, by omega⟩) HENV.out ((show F - (c + 1) = k by have := HP.out.2.2.2.2.2.2.1; omega) ▸ hwW) (fun hx => HP.out.2.2.2.1 hx.1) (fun b hb => ⟨HP.out.2.2.2.2.1 b (by omega), by omega⟩)
      rw [Nat.add_comm] at h1
      exact h1
    refine oneHL (i := 9) rfl (by kernel_rfl) (fun K hK => ?_)
    go_simp
    refine HI.out.mono ?_
    rintro e w5 ⟨hk5, r, V, c', ⟨hS, hSt⟩, hc1, hc2, hw5, hcase⟩
    have HD : Hid (DoS m F h.cv X.val B c r V c') := by
      refine dos_of (by rw [clo_cv HP.out.2.2.2.2.2.2.2.2.2]; rfl) (ap_enter (by rw [clo_cv HP.out.2.2.2.2.2.2.2.2.2]; rfl) (by have := HP.out.2.2.2.2.2.2.1; omega) ?_) hSt
      rw [clo_cv HP.out.2.2.2.2.2.2.2.2.2]
      have e : h.x.tm.at 0 = y.tm := by rw [Tm.at, TT.tm_l, HP.out.2.2.2.2.2.1]; rfl
      show EvR F (h.x.tm.at 0) (X.val :: h.env.map Th.val) (c + 1) r V c'
      rw [e]
      exact hS
    have hkF : Kept R none V0 w5 := hkW.trans hk5
    have HF : Hid (Kept R none V0 w5 ∧ Wl R (F - c') r w5 ∧ Rb w5 (w.heap.size + 1)) := ⟨hkF, hw5, (HB.out.1.kept (hk4.trans hkF) hlr).r⟩
    have hsk5 : SK R (w.heap.size + 1) V0 w5 := (SK.refl _ _ _).kept hkF
    obtain ⟨r0, r1, r2, r3, y0, y1, y2, y3⟩ := HF.out.2.2
    clear hS hSt hw5 hk5 HI
    rcases hcase with ⟨hr, rfl⟩ | ⟨rfl, z, rfl, hzi, hzv⟩
    · simp only [noV]
      refine hK.out _ _ (HK.out _ hsk5) (fun hHeld => ?_)
      clear hK K
      (try simp only [Act.put, List.setIfInBounds_toArray, List.set_cons_zero, List.set_cons_succ])
      refine oneHL (i := 10) rfl (by kernel_rfl) (fun K hK => ?_)
      go_simp
      refine hK.out _ _ (HK.out _ ((((hsk5.set _ _).set _ _).set _ _).set _ _)) (fun hHeld => ?_)
      clear hK K
      (try simp only [Act.put, List.setIfInBounds_toArray, List.set_cons_zero, List.set_cons_succ])
      refine wpAnyH_done (by kernel_rfl) ?_ _
      clear hHeld
      go_wp2_with fail
      obtain ⟨⟨e0, e1, e2, e3⟩, hk⟩ := HF.out.2.2.set (.int .i64 0) (.int .i64 0) .nilFunc (.int .i64 0)
      refine bodyPost_ret (v := noV) ?_ rfl ⟨(((Kept.of_below HB.out.2.1).trans hk4).trans HF.out.1).new hk (by omega), r, V, c', HD.out, by omega, hc2, HF.out.2.1.same hk (by omega), .inl ⟨hr, rfl⟩⟩
      simp [results, Tryz.results95, go_sem, noV, e0, e1, e2, e3]
    · have hone := hzi.one
      have hst4 : ∀ (a : Addr) (m : Mode) (W : World), (store a z.fn m).run Tryz.prog W = stored Tryz.prog W a z.fn m := fun a m W => run_storeOne hone
      have hend := th_end (Q := Q) (h := z) HF.out.2.2 (by omega) hlr (((Kept.of_below HB.out.2.1).trans hk4).trans HF.out.1) HF.out.2.1 hzi (fun x hx => hx)
      have HE : Hid _ := hend
      clear hend hzi hone
      simp only [Th.ag]
      refine hK.out _ _ (HK.out _ hsk5) (fun hHeld => ?_)
      clear hK K
      (try simp only [Act.put, List.setIfInBounds_toArray, List.set_cons_zero, List.set_cons_succ])
      refine oneHL (i := 10) rfl (by kernel_rfl) (fun K hK => ?_)
      go_simp
      refine hK.out _ _ (HK.out _ ((((hsk5.set _ _).set _ _).set _ _).set _ _)) (fun hHeld => ?_)
      clear hK K
      (try simp only [Act.put, List.setIfInBounds_toArray, List.set_cons_zero, List.set_cons_succ])
      refine wpAnyH_done (by kernel_rfl) ?_ _
      clear hHeld
      go_wp2_with fail
      obtain ⟨⟨e0, e1, e2, e3⟩, hk, hW, hi⟩ := HE.out
      refine bodyPost_ret (v := z.ag) ?_ rfl ⟨hk, out0, V, c', HD.out, by omega, hc2, hW, .inr ⟨rfl, z, rfl, hi, hzv⟩⟩
      simp [results, Tryz.results95, go_sem, Th.ag, e0, e1, e2, e3]
end Go.Proofs.YtnddkmccagiclabGreatDoor

/-
  Behind the entry of ref's eval: its boxes; what it answers at a number and at a truth.
-/
namespace Go.Proofs.YtnddkmccagiclabGreatDoor
open Go.RowKit
/-- What looking at a term makes, said of the machine; typed: a value of that type. -/
def EvS (m : Bool) (F : Nat) (x : Tm) (E : List Val) (i : Ty) (c : Nat) (r : Out) (V : Val) (c' : Nat) : Prop := EvR F x E c r V c' ∧ (m = true → r.k = 0 → tyV V i)
/-- The boxes. -/
structure EB (R : Nat) (x : TT) (ea : Option Addr) (n ec : Nat) (w W : World) : Prop where
  w0 : W.cell? ⟨w.heap.size, 0, none⟩ = some (.pointer (some ⟨R, 0, none⟩))
  x7 : At7 W (w.heap.size + 1) 0 x
  e0 : W.cell? ⟨w.heap.size + 1 + 1, 0, none⟩ = some (.slice ea n ec)
  r : Rb W (w.heap.size + 1 + 1 + 1)
def ebW (R : Nat) (x : TT) (ea : Option Addr) (n ec : Nat) (w : World) : World :=
  (((w.alloc (.cells #[.pointer (some ⟨R, 0, none⟩)] 98)).alloc (.cells #[.int .i64 x.k, .int .i64 x.n, .int .i64 x.t.k, .slice x.t.a x.t.l.length x.t.c, .int .i64 x.f.k, .slice x.f.a x.f.l.length x.f.c, .slice x.a x.l.length x.c] 27)).alloc (.cells #[.slice ea n ec] 157)).alloc (.cells #[.int .i64 0, .int .i64 0, .nilFunc, .int .i64 0] 103)
theorem eb_start (R : Nat) (x : TT) (ea : Option Addr) (n ec : Nat) (w : World) : EB R x ea n ec w (ebW R x ea n ec w) ∧ Below w.heap.size w (ebW R x ea n ec w) ∧ (ebW R x ea n ec w).heap.size = w.heap.size + 1 + 1 + 1 + 1 := by
  have hb : Below w.heap.size w (ebW R x ea n ec w) := by
    unfold ebW
    exact ((((Below.refl _ _).alloc (Nat.le_refl _) _).alloc (by simp) _).alloc (by simp; omega) _).alloc (by simp; omega) _
  refine ⟨⟨?_, ⟨?_, ?_, ?_, ?_, ?_, ?_, ?_⟩, ?_, ⟨?_, ?_, ?_, ?_, ?_, ?_, ?_, ?_⟩⟩, hb, ?_⟩
  all_goals (unfold ebW; simp [go_sem])
theorem EB.kept {R : Nat} {x : TT} {ea : Option Addr} {n ec : Nat} {w W V : World} (h : EB R x ea n ec w W) (hk : Kept R none W V) (lr : R < w.heap.size) : EB R x ea n ec w V :=
  ⟨hk.cell h.w0 (by omega), h.x7.keptR hk (by omega), hk.cell h.e0 (by omega), h.r.kept hk (by omega)⟩
/-- A number or a truth. -/
def litT (k n : Int) (x : TT) (i : Ty) : Th := ⟨k, n, .nilFunc, 0, 0, 0, 0, 0, 0, 0, 0, x, none, 0, [], x.t, trOf i, 0, false, []⟩
set_option maxRecDepth 20000 in
set_option maxHeartbeats 2000000 in
theorem eval_lit (m : Bool) (M R F c : Nat) (Q : Nat → Prop) (x : TT) (E : List Th) (i : Ty) (ea : Option Addr) (ec : Nat) (w : World) (hk : x.k = 2 ∨ x.k = 3) (hn : -1000000 ≤ x.n ∧ x.n ≤ 1000000) (hty : m = true → ∃ G, tyM x.tm G i) (hc : c ≤ F) (hw : Wl R (F - c) out0 w) :
    Calls Tryz.prog 59 #[.pointer (some ⟨R, 0, none⟩), .agg #[.int .i64 x.k, .int .i64 x.n, .int .i64 x.t.k, .slice x.t.a x.t.l.length x.t.c, .int .i64 x.f.k, .slice x.f.a x.f.l.length x.f.c, .slice x.a x.l.length x.c], .slice ea E.length ec] w (ThPost m M R F c Q w i (EvS m F x.tm (E.map Th.val) i c)) := by
  have hlr := hw.lt
  obtain ⟨W1, hW1⟩ : ∃ W, W = ebW R x ea E.length ec w := ⟨_, rfl⟩
  obtain ⟨hB, hl1, hs1⟩ := eb_start R x ea E.length ec w
  rw [← hW1] at hB hl1 hs1
  have hw1 := hw.below hl1
  have HB : Hid (EB R x ea E.length ec w W1 ∧ Below w.heap.size w W1 ∧ Wl R (F - c) out0 W1) := ⟨hB, hl1, hw1⟩
  have HE : Hid (EvS m F x.tm (E.map Th.val) i c out0 (litT (x.k - 1) x.n x i).val c ∧ Plain (litT (x.k - 1) x.n x i) ∧ okTh m i (litT (x.k - 1) x.n x i)) := by
    have hv : (litT (x.k - 1) x.n x i).val = if x.k = 2 then numV x.n else truthV x.n := by
      unfold Th.val
      rw [if_pos (show (litT (x.k - 1) x.n x i).tag = 0 from rfl), Th.cv_eq]
      rw [if_neg (show ¬ (litT (x.k - 1) x.n x i).wy = 1 by simp [litT]), if_neg (show ¬ (litT (x.k - 1) x.n x i).wy = 2 by simp [litT])]
      show (if x.k - 1 = 1 then numV x.n else truthV x.n) = _
      rcases hk with h | h <;> rw [h] <;> rfl
    refine ⟨⟨?_, fun hm _ => ?_⟩, ⟨rfl, ?_, hn⟩, fun hm => ?_⟩
    · rw [hv]
      rcases hk with h | h
      · rw [if_pos h]; have := ev_num (F := F) (x := x.tm) (E := E.map Th.val) (c := c) (by rw [TT.tm_k]; exact h); rwa [TT.tm_n] at this
      · rw [if_neg (by omega)]; have := ev_truth (F := F) (x := x.tm) (E := E.map Th.val) (c := c) (by rw [TT.tm_k]; exact h); rwa [TT.tm_n] at this
    · obtain ⟨G, hG⟩ := hty hm
      obtain ⟨ps, _, _, hr⟩ := tyM_parts hG
      rw [TT.tm_k] at hr
      rw [hv]
      rcases hk with h | h
      · rw [if_pos h]
        rcases hr with ⟨h', _⟩ | ⟨_, _, rfl⟩ | ⟨h', _⟩ | ⟨h', _⟩ | ⟨h', _⟩ | ⟨h', _⟩ | ⟨h', _⟩ | ⟨h', _⟩ | ⟨h', _⟩ | ⟨h', _⟩ <;> first | omega | exact tyV_mkNum _
      · rw [if_neg (by omega)]
        rcases hr with ⟨h', _⟩ | ⟨h', _⟩ | ⟨_, _, rfl⟩ | ⟨h', _⟩ | ⟨h', _⟩ | ⟨h', _⟩ | ⟨h', _⟩ | ⟨h', _⟩ | ⟨h', _⟩ | ⟨h', _⟩ <;> first | omega | exact tyV_mkTruth _
    · show x.k - 1 = 1 ∨ x.k - 1 = 2
      omega
    · obtain ⟨G, hG⟩ := hty hm
      obtain ⟨ps, _, _, hr⟩ := tyM_parts hG
      rw [TT.tm_k] at hr
      have e : (litT (x.k - 1) x.n x i).t.ty = i := trOf_ty i
      refine ⟨Th.ok_iff.2 ⟨.inl rfl, .inl ⟨rfl, ?_⟩⟩, e⟩
      rw [e]
      show (x.k - 1 = 1 ∧ i = numY) ∨ (x.k - 1 = 2 ∧ i = truthY)
      rcases hk with h | h
      · rcases hr with ⟨h', _⟩ | ⟨_, _, rfl⟩ | ⟨h', _⟩ | ⟨h', _⟩ | ⟨h', _⟩ | ⟨h', _⟩ | ⟨h', _⟩ | ⟨h', _⟩ | ⟨h', _⟩ | ⟨h', _⟩ <;> first | omega | exact .inl ⟨by omega, rfl⟩
      · rcases hr with ⟨h', _⟩ | ⟨h', _⟩ | ⟨_, _, rfl⟩ | ⟨h', _⟩ | ⟨h', _⟩ | ⟨h', _⟩ | ⟨h', _⟩ | ⟨h', _⟩ | ⟨h', _⟩ | ⟨h', _⟩ <;> first | omega | exact .inr ⟨by omega, rfl⟩
  obtain ⟨c0, c1, _, _, _, _, _, _⟩ := hw1
  replace c1 : W1.cell? ⟨R, 1, none⟩ = some (.int .i64 0) := c1
  obtain ⟨w0, ⟨x0, x1, x2, x3, x4, x5, x6⟩, e0, ⟨r0, r1, r2, r3, y0, y1, y2, y3⟩⟩ := hB
  simp only [Nat.zero_add] at x1 x2 x3 x4 x5 x6
  have k1 : (x.k == 1) = false := by rcases hk with h | h <;> rw [h] <;> decide
  have b1 : 0 ≤ x.k := by omega
  have b2 : x.k ≤ 10 := by omega
  obtain ⟨kb, hkb⟩ : ∃ kb, (x.k == 2) = kb := ⟨_, rfl⟩
  have k3 : kb = false → (x.k == 3) = true := fun h => by
    rw [h] at hkb
    have : x.k ≠ 2 := by simpa using hkb
    have : x.k = 3 := by omega
    rw [this]; decide
  clear hk hn hty hw hl1 hs1
  cases kb
  all_goals
    (try have k4 := k3 rfl)
    clear k3
    go_enter Tryz.func59, Tryz.ntmps59
    go_upto_region 1 with fail
    unfold ebW at hW1
    rw [← hW1]
    clear hW1
    go_wp2_with fail
    have hend := th_end (m := m) (M := M) (Q := Q) (Q1 := fun _ => False) (h := litT (x.k - 1) x.n x i) HB.out.1.r (by omega) hlr (Kept.of_below HB.out.2.1) HB.out.2.2 (Th.In_iff.2 (.inl ⟨rfl, HE.out.2.1⟩)) (fun x hx => hx.elim)
    obtain ⟨⟨e0, e1, e2, e3⟩, hk, hW, hi⟩ := hend
    refine bodyPost_ret (v := (litT (x.k - 1) x.n x i).ag) ?_ rfl ⟨hk, out0, _, c, HE.out.1, Nat.le_refl _, hc, hW, .inr ⟨rfl, _, rfl, hi, rfl, HE.out.2.2⟩⟩
    simp only [litT] at e0 e1 e2 e3
    simp [results, Tryz.results59, go_sem, Th.ag, litT, e0, e1, e2, e3]
end Go.Proofs.YtnddkmccagiclabGreatDoor

/-
  What is asked of ref's eval at a term, and of a call of its functions; no run of the program in it.
-/
namespace Go.Proofs.YtnddkmccagiclabGreatDoor
open Go.RowKit
/-- eval of the term in that scope, whatever lies there besides. -/
def EvC (m : Bool) (M R F c : Nat) (x : TT) (E : List Th) (i : Ty) (ea : Option Addr) (ec : Nat) : Prop :=
  ∀ (Q : Nat → Prop) (W : World), x.In W → x.Bl Q → Env m M R Q W ea E → Wl R (F - c) out0 W → ¬ Q R → (∀ b, W.heap.size ≤ b → Q b) → Calls Tryz.prog 59 #[.pointer (some ⟨R, 0, none⟩), .agg #[.int .i64 x.k, .int .i64 x.n, .int .i64 x.t.k, .slice x.t.a x.t.l.length x.t.c, .int .i64 x.f.k, .slice x.f.a x.f.l.length x.f.c, .slice x.a x.l.length x.c], .slice ea E.length ec] W (ThPost m M R F c Q W i (EvS m F x.tm (E.map Th.val) i c))
/-- A call of the function. -/
def DoC (m : Bool) (M R F c : Nat) (h : Th) (A B : Ty) (j : Nat) (caps : Array Value) : Prop :=
  ∀ (Q : Nat → Prop) (X : Th) (W : World), h.In m M R Q W → X.In m M R Q W → okTh m A X → Wl R (F - c) out0 W → ¬ Q R → (∀ b, W.heap.size ≤ b → Q b) → Calls Tryz.prog j (#[.agg #[.int .i64 X.k, .int .i64 X.n, X.fn, .int .i64 X.tag]] ++ caps) W (ThPost m M R F c Q W B (fun r V c' => DoS m F h.cv X.val B c r V c'))
/-- Any function's call. -/
def DoAt (m : Bool) (M R F c : Nat) : Prop :=
  ∀ (h : Th) (A B : Ty) (j : Nat) (caps : Array Value), (h.wy = 1 ∨ h.wy = 2) → h.fn = .func (.func j) #[] caps → (m = true → h.ok ∧ h.t.ty = funY A B) → DoC m M R F c h A B j caps
/-- A part was looked at: the run has ended, or its thing lies in that box. -/
def PartP (m : Bool) (M R F c : Nat) (Q : Nat → Prop) (w W : World) (y : TT) (E : List Th) (p : Ty) (b : Nat) (wx : World) : Prop :=
  w.heap.size + 1 + 1 + 1 < b ∧ Kept R none W wx ∧ ∃ (r : Out) (V : Val) (c' : Nat), EvS m F y.tm (E.map Th.val) p c r V c' ∧ c ≤ c' ∧ c' ≤ F ∧ Wl R (F - c') r wx ∧
    (r.k ≠ 0 ∨ (r = out0 ∧ ∃ z : Th, At4 wx b 0 z ∧ z.In m M R (fun x => Q x ∧ x ≠ w.heap.size + 1 + 1 + 1) wx ∧ z.val = V ∧ okTh m p z))
/-- What is asked of a term and its scope. -/
structure Fit (m : Bool) (M : Nat) (x : Tm) (E : List Th) (i : Ty) : Prop where
  sh : shp x ∧ (m = false → noC x)
  sz : x.tsz + E.length ≤ M
  ty : m = true → tyM x (E.map Th.tyo) i ∧ ∀ e, e ∈ E → e.ok
/-- Any term. -/
def EvAt (m : Bool) (M R F c : Nat) : Prop := ∀ (x : TT) (E : List Th) (i : Ty) (ea : Option Addr) (ec : Nat), Fit m M x.tm E i → EvC m M R F c x E i ea ec
end Go.Proofs.YtnddkmccagiclabGreatDoor

/-
  What a call of ref's function that casts comes to.
-/
namespace Go.Proofs.YtnddkmccagiclabGreatDoor
open Go.RowKit
set_option maxRecDepth 20000 in
set_option maxHeartbeats 4000000 in
theorem pro_ended (M R F c : Nat) (Q : Nat → Prop) (h v X : Th) (w : World) (hp : Pro R Q w h v) (hX : X.In true M R Q w) (hXt : tyV X.val (h.t.ty.l.getD 0 anyY)) (hw : Wl R (F - c) out0 w) (hc : c ≤ F) (hQ : ¬ Q R) (nw : ∀ b, w.heap.size ≤ b → Q b) (hwy : h.wy = 2) (hg : (chg (castOf (h.t.ty.l.getD 0 anyY) (h.f.ty.l.getD 0 anyY) ⟨4, h.no, !h.back⟩) X.val).1.k ≠ 0)
    :
    Calls Tryz.prog 131 #[.agg #[.int .i64 X.k, .int .i64 X.n, X.fn, .int .i64 X.tag], .pointer (some ⟨h.b1, 0, none⟩), .pointer (some ⟨h.b2, 0, none⟩), .pointer (some ⟨h.b3, 0, none⟩), .pointer (some ⟨h.b4, 0, none⟩), .pointer (some ⟨h.b5, 0, none⟩), .pointer (some ⟨h.b6, 0, none⟩)] w (ThPost true M R F c Q w (h.t.ty.l.getD 1 anyY) (fun r V c' => DoS true F h.cv X.val (h.t.ty.l.getD 1 anyY) c r V c')) := by
  obtain ⟨t0, t1, bt, ot, htl, hta, htn, a0, a1, a2, a3, ti0, ti1, htt, tg0, tg1, htB⟩ := fun_parts hp.ti hp.tg hp.tk
  obtain ⟨f0, f1, bf, of, hfl, hfa, hfn2, d0, d1, d2, d3, fi0, fi1, hft, fg0, fg1, hfB⟩ := fun_parts hp.fi hp.fg hp.fk
  obtain ⟨qbt, tb0, tb1⟩ := htB Q hp.tb
  obtain ⟨qbf, fb0, fb1⟩ := hfB Q hp.fb
  have hlr := hw.lt
  have e0 : h.t.ty.l.getD 0 anyY = t0.ty := by rw [htt]; rfl
  have e1 : h.t.ty.l.getD 1 anyY = t1.ty := by rw [htt]; rfl
  have e2 : h.f.ty.l.getD 0 anyY = f0.ty := by rw [hft]; rfl
  have e3 : h.f.ty.l.getD 1 anyY = f1.ty := by rw [hft]; rfl
  rw [e0] at hXt
  have hfit := hp.fits
  rw [hft, htt, funY, funY, two _ _ _ _ _ rfl] at hfit
  obtain ⟨hfit0, hfit1⟩ : relY escFits f0.ty t0.ty = true ∧ relY escFits f1.ty t1.ty = true := by simpa using hfit
  have hfit0' : relY escFits t0.ty f0.ty = true := by rw [fits_sym 45 _ _ tg0 fg0]; exact hfit0
  replace tg0 := goodY_more 45 46 _ (by omega) tg0
  replace tg1 := goodY_more 45 46 _ (by omega) tg1
  replace fg0 := goodY_more 45 46 _ (by omega) fg0
  replace fg1 := goodY_more 45 46 _ (by omega) fg1
  have hcv : h.cv = withV v.cv (castOf t0.ty f0.ty ⟨4, h.no, !h.back⟩) (castOf f1.ty t1.ty ⟨4, h.no, h.back⟩) := by
    rw [Th.cv_eq, hwy, if_neg (by decide), if_pos rfl, hp.inn, e0, e1, e2, e3]
    rfl
  have hG : tyC (castOf t0.ty f0.ty ⟨4, h.no, !h.back⟩) t0.ty f0.ty := castOf_ty tg0 fg0 hfit0' rfl
  have hA : tyC (castOf f1.ty t1.ty ⟨4, h.no, h.back⟩) f1.ty t1.ty := castOf_ty fg1 tg1 hfit1 rfl
  have hU : tyV v.cv (funY f0.ty f1.ty) := hft ▸ hp.ty
  rw [e1, hcv]
  obtain ⟨W1, hW1⟩ : ∃ W, W = (w.alloc (.cells #[.int .i64 X.k, .int .i64 X.n, X.fn, .int .i64 X.tag] 103)).alloc (.cells #[.int .i64 0, .int .i64 0, .nilFunc, .int .i64 0] 103) := ⟨_, rfl⟩
  have hB : PB X w W1 := by rw [hW1]; exact pb_start X w
  have hl1 : Below w.heap.size w W1 := by rw [hW1]; exact pb_low X w
  have hs1 : W1.heap.size = w.heap.size + 1 + 1 := by rw [hW1]; simp
  have HB : Hid (PB X w W1 ∧ Below w.heap.size w W1 ∧ Wl R (F - c) out0 W1) := ⟨hB, hl1, hw.below hl1⟩
  have hone := hX.one
  have hst : ∀ (a : Addr) (m : Mode) (W : World), (store a X.fn m).run Tryz.prog W = stored Tryz.prog W a X.fn m := fun a m W => run_storeOne hone
  have hne : ∀ b, Q b → b ≠ R := fun b hb e => hQ (e ▸ hb)
  have hcell : ∀ W, Kept R none W1 W → ∀ b i u, w.cell? ⟨b, i, none⟩ = some u → Q b → W.cell? ⟨b, i, none⟩ = some u := fun W hk b i u e hb => hk.cell ((hl1.cell (p := ⟨b, i, none⟩) (World.block_lt_of_cell? _ _ e)).trans e) (hne b hb)
  have ht1 := hp.t1
  rw [hta, htn] at ht1
  have hf1 := hp.f1
  rw [hfa, hfn2] at hf1
  have HK : Hid (∀ W, Kept R none W1 W → W.cell? ⟨h.b1, 0, none⟩ = some (.pointer (some ⟨R, 0, none⟩)) ∧ W.cell? ⟨w.heap.size, 0, none⟩ = some (.int .i64 X.k) ∧ W.cell? ⟨w.heap.size, 1, none⟩ = some (.int .i64 X.n) ∧ W.cell? ⟨w.heap.size, 2, none⟩ = some X.fn ∧ W.cell? ⟨w.heap.size, 3, none⟩ = some (.int .i64 X.tag) ∧ W.cell? ⟨h.b2, 1, none⟩ = some (.slice (some ⟨bt, ot, none⟩) 2 h.t.c) ∧ W.cell? ⟨bt, ot, none⟩ = some (.int .i64 t0.k) ∧ W.cell? ⟨bt, ot + 1, none⟩ = some (.slice t0.a t0.l.length t0.c) ∧ W.cell? ⟨h.b3, 1, none⟩ = some (.slice (some ⟨bf, of, none⟩) 2 h.f.c) ∧ W.cell? ⟨bf, of, none⟩ = some (.int .i64 f0.k) ∧ W.cell? ⟨bf, of + 1, none⟩ = some (.slice f0.a f0.l.length f0.c) ∧ W.cell? ⟨h.b4, 0, none⟩ = some (.int .i64 h.no) ∧ W.cell? ⟨h.b5, 0, none⟩ = some (.bool h.back)) := fun W hk =>
    ⟨hcell W hk _ _ _ hp.w1 hp.b1, hk.cell hB.x4.c0 (by omega), hk.cell hB.x4.c1 (by omega), hk.cell hB.x4.c2 (by omega), hk.cell hB.x4.c3 (by omega), hcell W hk _ _ _ ht1 hp.b2, hcell W hk _ _ _ a0 qbt, hcell W hk _ _ _ a1 qbt, hcell W hk _ _ _ hf1 hp.b3, hcell W hk _ _ _ d0 qbf, hcell W hk _ _ _ d1 qbf, hcell W hk _ _ _ hp.n4 hp.b4, hcell W hk _ _ _ hp.k5 hp.b5⟩
  have hsm : ∀ W, Kept R none W1 W → Same Q w W := fun W hk b hb hq => by
    rw [hk.block b (by have := hl1.size; omega) (hne b hq) (by simp)]
    exact hl1.block b hb
  have hsQ : ∀ W, Kept R none W1 W → ∀ Z : Th, Z.In true M R Q w → Z.In true M R (fun x => Q x ∧ x ≠ w.heap.size + 1) W := fun W hk Z hZ => (hZ.mono (Q' := fun x => Q x ∧ x ≠ w.heap.size + 1) fun x h1 h2 => ⟨h2, by omega⟩).same fun b h1 h2 => hsm W hk b h1 h2.1
  have HC1 : Hid (∀ W, Kept R none W1 W → Wl R (F - c) out0 W → Calls Tryz.prog 97 #[.pointer (some ⟨R, 0, none⟩), .agg #[.int .i64 X.k, .int .i64 X.n, X.fn, .int .i64 X.tag], .agg #[.int .i64 t0.k, .slice t0.a t0.l.length t0.c], .agg #[.int .i64 f0.k, .slice f0.a f0.l.length f0.c], .int .i64 h.no, .bool (!h.back)] W (CaPost M R (F - c) (fun x => Q x ∧ x ≠ w.heap.size + 1) W (chg (castOf t0.ty f0.ty ⟨4, h.no, !h.back⟩) X.val) (caP X t0 f0))) := fun W hk hwl =>
    rcast_any M R (F - c) (fun x => Q x ∧ x ≠ w.heap.size + 1) X t0 f0 h.no (!h.back) W (hsQ W hk X hX) (ti0.same (hsm W hk) tb0) (fi0.same (hsm W hk) fb0) tg0 fg0 hfit0' hXt ((tb0.and ti0.bl).mono fun b hb => ⟨hb.1, by omega⟩) ((fb0.and fi0.bl).mono fun b hb => ⟨hb.1, by omega⟩) hwl (fun hx => hQ hx.1) (fun b hb => ⟨nw b (by have := hk.size; omega), by have := hk.size; omega⟩)
  have i0 : (0 : Int) < ((2 : Nat) : Int) := by omega
  have nR : ∀ b, w.heap.size ≤ b → b ≠ R := fun b hb => by omega
  rw [e0, e2] at hg
  · have HC2 : Hid (∀ W, Kept R none W1 W → Wl R (F - c) out0 W → Calls Tryz.prog 97 #[.pointer (some ⟨R, 0, none⟩), .agg #[.int .i64 X.k, .int .i64 X.n, X.fn, .int .i64 X.tag], .agg #[.int .i64 t0.k, .slice t0.a t0.l.length t0.c], .agg #[.int .i64 f0.k, .slice f0.a f0.l.length f0.c], .int .i64 h.no, .bool (!h.back)] W fun e w' => e = .returned (.agg #[.int .i64 0, .int .i64 0, .nilFunc, .int .i64 0]) ∧ Kept R none W w' ∧ Wl R (F - c) (chg (castOf t0.ty f0.ty ⟨4, h.no, !h.back⟩) X.val).1 w') := fun W hk hwl => (HC1.out W hk hwl).mono (by
      rintro e w' ⟨h1, ⟨h2, h3, h4⟩ | ⟨h2, _⟩⟩
      · exact ⟨h3, h1, h4⟩
      · exact absurd (by rw [h2]; rfl) hg)
    obtain ⟨o, ho⟩ : ∃ o, o = (chg (castOf t0.ty f0.ty ⟨4, h.no, !h.back⟩) X.val).1 := ⟨_, rfl⟩
    rw [← ho] at HC2 hg
    have hgk : (o.k != 0) = true := by simpa using hg
    have HD : Hid (ApX F (withV v.cv (castOf t0.ty f0.ty ⟨4, h.no, !h.back⟩) (castOf f1.ty t1.ty ⟨4, h.no, h.back⟩)) X.val t1.ty c o (numV 0) c ∧ o.k ≠ 0) := ⟨by rw [ho]; exact ap_prox1 hU hG hA hXt (by rw [← ho]; exact hg), hg⟩
    have hk0 : Kept R none W1 W1.drew := Kept.of_below ((Below.refl _ _).drew)
    have hwl0 : Wl R (F - c) out0 W1.drew := HB.out.2.2.below ((Below.refl _ _).drew)
    have HX2 : Hid (∀ b, Q b → b ≠ R) := hne
    clear ho hg hcell hsm hsQ HC1 hp hX hXt hw hQ nw ti0 ti1 fi0 fi1 tb0 tb1 fb0 fb1 tg0 tg1 fg0 fg1 hfit hfit0 hfit0' hfit1 hcv hG hA hU htt hft htB hfB e0 e1 e2 e3 htl hfl hta hfa htn hfn2 a0 a1 a2 a3 d0 d1 d2 d3 ht1 hf1 hone qbt qbf hwy hB hne
    go_enter Tryz.func131, Tryz.ntmps131
    go_upto_region 1 with fail
    rw [← hW1]
    clear hW1
    refine wp_region_held_drew (S := fun W => W.cell? ⟨h.b1, 0, none⟩ = some (.pointer (some ⟨R, 0, none⟩)) ∧ W.cell? ⟨w.heap.size, 0, none⟩ = some (.int .i64 X.k) ∧ W.cell? ⟨w.heap.size, 1, none⟩ = some (.int .i64 X.n) ∧ W.cell? ⟨w.heap.size, 2, none⟩ = some X.fn ∧ W.cell? ⟨w.heap.size, 3, none⟩ = some (.int .i64 X.tag) ∧ W.cell? ⟨h.b2, 1, none⟩ = some (.slice (some ⟨bt, ot, none⟩) 2 h.t.c) ∧ W.cell? ⟨bt, ot, none⟩ = some (.int .i64 t0.k) ∧ W.cell? ⟨bt, ot + 1, none⟩ = some (.slice t0.a t0.l.length t0.c) ∧ W.cell? ⟨h.b3, 1, none⟩ = some (.slice (some ⟨bf, of, none⟩) 2 h.f.c) ∧ W.cell? ⟨bf, of, none⟩ = some (.int .i64 f0.k) ∧ W.cell? ⟨bf, of + 1, none⟩ = some (.slice f0.a f0.l.length f0.c) ∧ W.cell? ⟨h.b4, 0, none⟩ = some (.int .i64 h.no) ∧ W.cell? ⟨h.b5, 0, none⟩ = some (.bool h.back)) (by kernel_rfl) (HK.out _ hk0) (fun hHeld => ?_)
    refine takeHL (i := 0) (v := ?_) rfl (by kernel_rfl) (by kernel_rfl) (by kernel_rfl) (fun _ _ _ h => h) (Or.inl ⟨by rfl, ?_⟩) hHeld ?_; rotate_left; (focus (intro w' hSw; (try dsimp only at hSw); go_split_ands; first | (go_simp; done) | (go_simp; with_reducible rfl))); simp only [Act.put, List.setIfInBounds_toArray, List.set_cons_zero, List.set_cons_succ]
    refine takeHL (i := 1) (v := ?_) rfl (by kernel_rfl) (by kernel_rfl) (by kernel_rfl) (fun _ _ _ h => h) (Or.inl ⟨by rfl, ?_⟩) hHeld ?_; rotate_left; (focus (intro w' hSw; (try dsimp only at hSw); go_split_ands; first | (go_simp; done) | (go_simp; with_reducible rfl))); simp only [Act.put, List.setIfInBounds_toArray, List.set_cons_zero, List.set_cons_succ]
    refine takeHL (i := 2) (v := ?_) rfl (by kernel_rfl) (by kernel_rfl) (by kernel_rfl) (fun _ _ _ h => h) (Or.inl ⟨by rfl, ?_⟩) hHeld ?_; rotate_left; (focus (intro w' hSw; (try dsimp only at hSw); go_split_ands; first | (go_simp; done) | (go_simp; with_reducible rfl))); simp only [Act.put, List.setIfInBounds_toArray, List.set_cons_zero, List.set_cons_succ]
    refine takeHL (i := 3) (v := ?_) rfl (by kernel_rfl) (by kernel_rfl) (by kernel_rfl) (fun _ _ _ h => h) (Or.inl ⟨by rfl, ?_⟩) hHeld ?_; rotate_left; (focus (intro w' hSw; (try dsimp only at hSw); go_split_ands; first | (go_simp; done) | (go_simp; with_reducible rfl))); simp only [Act.put, List.setIfInBounds_toArray, List.set_cons_zero, List.set_cons_succ]
    refine takeHL (i := 4) (v := ?_) rfl (by kernel_rfl) (by kernel_rfl) (by kernel_rfl) (fun _ _ _ h => h) (Or.inl ⟨by rfl, ?_⟩) hHeld ?_; rotate_left; (focus (intro w' hSw; (try dsimp only at hSw); go_split_ands; first | (go_simp; done) | (go_simp; with_reducible rfl))); simp only [Act.put, List.setIfInBounds_toArray, List.set_cons_zero, List.set_cons_succ]
    refine takeHL (i := 5) (v := ?_) rfl (by kernel_rfl) (by kernel_rfl) (by kernel_rfl) (fun _ _ _ h => h) (Or.inl ⟨by rfl, ?_⟩) hHeld ?_; rotate_left; (focus (intro w' hSw; (try dsimp only at hSw); go_split_ands; first | (go_simp; done) | (go_simp; with_reducible rfl))); simp only [Act.put, List.setIfInBounds_toArray, List.set_cons_zero, List.set_cons_succ]
    refine takeHL (i := 6) (v := ?_) rfl (by kernel_rfl) (by kernel_rfl) (by kernel_rfl) (fun _ _ _ h => h) (Or.inl ⟨by rfl, ?_⟩) hHeld ?_; rotate_left; (focus (intro w' hSw; (try dsimp only at hSw); go_split_ands; first | (go_simp; done) | (go_simp; with_reducible rfl))); simp only [Act.put, List.setIfInBounds_toArray, List.set_cons_zero, List.set_cons_succ]
    refine takeHL (i := 7) (v := ?_) rfl (by kernel_rfl) (by kernel_rfl) (by kernel_rfl) (fun _ _ _ h => h) (Or.inl ⟨by rfl, ?_⟩) hHeld ?_; rotate_left; (focus (intro w' hSw; (try dsimp only at hSw); go_split_ands; first | (go_simp; done) | (go_simp; with_reducible rfl))); simp only [Act.put, List.setIfInBounds_toArray, List.set_cons_zero, List.set_cons_succ]
    refine takeHL (i := 8) (v := ?_) rfl (by kernel_rfl) (by kernel_rfl) (by kernel_rfl) (fun _ _ _ h => h) (Or.inl ⟨by rfl, ?_⟩) hHeld ?_; rotate_left; (focus (intro w' hSw; (try dsimp only at hSw); go_split_ands; first | (go_simp; done) | (go_simp; with_reducible rfl))); simp only [Act.put, List.setIfInBounds_toArray, List.set_cons_zero, List.set_cons_succ]
    refine takeHL (i := 9) (v := ?_) rfl (by kernel_rfl) (by kernel_rfl) (by kernel_rfl) (fun _ _ _ h => h) (Or.inl ⟨by rfl, ?_⟩) hHeld ?_; rotate_left; (focus (intro w' hSw; (try dsimp only at hSw); go_split_ands; first | (go_simp; done) | (go_simp; with_reducible rfl))); simp only [Act.put, List.setIfInBounds_toArray, List.set_cons_zero, List.set_cons_succ]
    refine takeHL (i := 10) (v := ?_) rfl (by kernel_rfl) (by kernel_rfl) (by kernel_rfl) (fun _ _ _ h => h) (Or.inl ⟨by rfl, ?_⟩) hHeld ?_; rotate_left; (focus (intro w' hSw; (try dsimp only at hSw); go_split_ands; first | (go_simp; done) | (go_simp; with_reducible rfl))); simp only [Act.put, List.setIfInBounds_toArray, List.set_cons_zero, List.set_cons_succ]
    refine takeHL (i := 11) (v := ?_) rfl (by kernel_rfl) (by kernel_rfl) (by kernel_rfl) (fun _ _ _ h => h) (Or.inl ⟨by rfl, ?_⟩) hHeld ?_; rotate_left; (focus (intro w' hSw; (try dsimp only at hSw); go_split_ands; first | (go_simp; done) | (go_simp; with_reducible rfl))); simp only [Act.put, List.setIfInBounds_toArray, List.set_cons_zero, List.set_cons_succ]
    refine takeHL (i := 12) (v := ?_) rfl (by kernel_rfl) (by kernel_rfl) (by kernel_rfl) (fun _ _ _ h => h) (Or.inl ⟨by rfl, ?_⟩) hHeld ?_; rotate_left; (focus (intro w' hSw; (try dsimp only at hSw); go_split_ands; first | (go_simp; done) | (go_simp; with_reducible rfl))); simp only [Act.put, List.setIfInBounds_toArray, List.set_cons_zero, List.set_cons_succ]
    refine twoHL (i := 13) (j := 14) rfl rfl (by kernel_rfl) (fun K hK => ?_) (fun K hK => ?_)
    · go_simp
      refine (HC2.out _ hk0 hwl0).mono ?_
      rintro e w2 ⟨rfl, h2, hw2⟩
      have hk2 : Kept R none W1 w2 := hk0.trans h2
      dsimp only
      refine hK.out _ _ (HK.out _ hk2) (fun hHeld => ?_)
      clear hK K
      (try simp only [Act.put, List.setIfInBounds_toArray, List.set_cons_zero, List.set_cons_succ])
      refine oneHL (i := 14) rfl (by kernel_rfl) (fun K hK => ?_)
      go_simp
      refine hK.out _ _ (HK.out _ (hk2.trans (Kept.of_below ((Below.refl _ _).alloc (Nat.le_refl _) _)))) (fun hHeld => ?_)
      clear hK K
      (try simp only [Act.put, List.setIfInBounds_toArray, List.set_cons_zero, List.set_cons_succ])
      refine oneHL (i := 15) rfl (by kernel_rfl) (fun K hK => ?_)
      go_simp
      refine hK.out _ _ (HK.out _ (hk2.trans (Kept.of_below ((Below.refl _ _).alloc (Nat.le_refl _) _)))) (fun hHeld => ?_)
      clear hK K
      (try simp only [Act.put, List.setIfInBounds_toArray, List.set_cons_zero, List.set_cons_succ])
      refine wpAnyH_done (by kernel_rfl) ?_ _
      have hkV : Kept R none W1 (w2.alloc (.cells #[.int .i64 0, .int .i64 0, .nilFunc, .int .i64 0] 103)) := hk2.trans (Kept.of_below ((Below.refl _ _).alloc (Nat.le_refl _) _))
      have hwV : Wl R (F - c) o (w2.alloc (.cells #[.int .i64 0, .int .i64 0, .nilFunc, .int .i64 0] 103)) := hw2.below ((Below.refl _ _).alloc (Nat.le_refl _) _)
      obtain ⟨V, hV⟩ : ∃ V, V = w2.alloc (.cells #[.int .i64 0, .int .i64 0, .nilFunc, .int .i64 0] 103) := ⟨_, rfl⟩
      rw [← hV] at hkV hwV
      rw [← hV]
      clear hV hHeld hw2 hk2 h2
      obtain ⟨q1, _⟩ := HK.out _ hkV
      have HF : Hid (Kept R none W1 V ∧ Wl R (F - c) o V ∧ Rb V (w.heap.size + 1)) := ⟨hkV, hwV, (HB.out.1.kept hkV hlr).r⟩
      obtain ⟨c0, c1, _, _, _, _, _, _⟩ := hwV
      obtain ⟨r0, r1, r2, r3, y0, y1, y2, y3⟩ := HF.out.2.2
      clear hkV
      go_wp2_with fail
      obtain ⟨⟨e0, e1, e2, e3⟩, hk⟩ := HF.out.2.2.set (.int .i64 0) (.int .i64 0) .nilFunc (.int .i64 0)
      refine bodyPost_ret (v := noV) ?_ rfl ⟨((Kept.of_below HB.out.2.1).trans HF.out.1).new hk (by omega), o, numV 0, c, .inl ⟨rfl, HD.out.1, fun h0 => absurd h0 HD.out.2⟩, Nat.le_refl _, hc, HF.out.2.1.same hk (by omega), .inl ⟨HD.out.2, rfl⟩⟩
      simp [results, Tryz.results131, go_sem, noV, e0, e1, e2, e3]
    · go_simp
      have hk3 : Kept R none W1 (W1.alloc (.cells #[.int .i64 0, .int .i64 0, .nilFunc, .int .i64 0] 103)).drew := Kept.of_below (((Below.refl _ _).alloc (Nat.le_refl _) _).drew)
      refine hK.out _ _ (HK.out _ hk3) (fun hHeld => ?_)
      clear hK K
      (try simp only [Act.put, List.setIfInBounds_toArray, List.set_cons_zero, List.set_cons_succ])
      refine oneHL (i := 13) rfl (by kernel_rfl) (fun K hK => ?_)
      go_simp
      refine (HC2.out _ hk3 (HB.out.2.2.below (((Below.refl _ _).alloc (Nat.le_refl _) _).drew))).mono ?_
      rintro e w2 ⟨rfl, h2, hw2⟩
      have hk2 : Kept R none W1 w2 := hk3.trans h2
      have q9 : Rb w2 (w.heap.size + 1 + 1) := by
        have q8 : Rb (W1.alloc (.cells #[.int .i64 0, .int .i64 0, .nilFunc, .int .i64 0] 103)).drew W1.heap.size := (Rb.new W1).below ((Below.refl _ _).drew)
        rw [hs1] at q8
        exact q8.kept h2 (by omega)
      obtain ⟨⟨_, _, _, _⟩, hk9⟩ := q9.set (.int .i64 0) (.int .i64 0) .nilFunc (.int .i64 0)
      obtain ⟨p0, p1, p2, p3, x0, x1, x2, x3⟩ := q9
      dsimp only
      refine hK.out _ _ (HK.out _ hk2) (fun hHeld => ?_)
      clear hK K
      (try simp only [Act.put, List.setIfInBounds_toArray, List.set_cons_zero, List.set_cons_succ])
      refine oneHL (i := 15) rfl (by kernel_rfl) (fun K hK => ?_)
      go_simp
      have hkV := hk2.new hk9 (by omega)
      have hwV := hw2.same hk9 (by omega)
      refine hK.out _ _ (HK.out _ hkV) (fun hHeld => ?_)
      clear hK K
      (try simp only [Act.put, List.setIfInBounds_toArray, List.set_cons_zero, List.set_cons_succ])
      refine wpAnyH_done (by kernel_rfl) ?_ _
      obtain ⟨V, hV⟩ : ∃ V, V = (((w2.setCell ⟨w.heap.size + 1 + 1, 0, none⟩ (.int .i64 0)).setCell ⟨w.heap.size + 1 + 1, 1, none⟩ (.int .i64 0)).setCell ⟨w.heap.size + 1 + 1, 2, none⟩ .nilFunc).setCell ⟨w.heap.size + 1 + 1, 3, none⟩ (.int .i64 0) := ⟨_, rfl⟩
      clear p0 p1 p2 p3 x0 x1 x2 x3 hk9
      rw [← hV] at hkV hwV
      rw [← hV]
      clear hV hHeld hw2 hk2 h2
      obtain ⟨q1, _⟩ := HK.out _ hkV
      have HF : Hid (Kept R none W1 V ∧ Wl R (F - c) o V ∧ Rb V (w.heap.size + 1)) := ⟨hkV, hwV, (HB.out.1.kept hkV hlr).r⟩
      obtain ⟨c0, c1, _, _, _, _, _, _⟩ := hwV
      obtain ⟨r0, r1, r2, r3, y0, y1, y2, y3⟩ := HF.out.2.2
      clear hkV
      go_wp2_with fail
      obtain ⟨⟨e0, e1, e2, e3⟩, hk⟩ := HF.out.2.2.set (.int .i64 0) (.int .i64 0) .nilFunc (.int .i64 0)
      refine bodyPost_ret (v := noV) ?_ rfl ⟨((Kept.of_below HB.out.2.1).trans HF.out.1).new hk (by omega), o, numV 0, c, .inl ⟨rfl, HD.out.1, fun h0 => absurd h0 HD.out.2⟩, Nat.le_refl _, hc, HF.out.2.1.same hk (by omega), .inl ⟨HD.out.2, rfl⟩⟩
      simp [results, Tryz.results131, go_sem, noV, e0, e1, e2, e3]
end Go.Proofs.YtnddkmccagiclabGreatDoor
