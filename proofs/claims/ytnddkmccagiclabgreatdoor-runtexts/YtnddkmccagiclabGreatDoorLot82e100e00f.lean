/-
  What ref's eval answers at a choice.
-/
import Derived.Test.YtnddkmccagiclabGreatDoorLot903dfa2b37
import Derived.Test.YtnddkmccagiclabGreatDoorLotd0b6ed7d0d
namespace Go.Proofs.YtnddkmccagiclabGreatDoor
open Go.RowKit
set_option maxRecDepth 20000 in
set_option maxHeartbeats 4000000 in
theorem eval_if (m : Bool) (M R F c : Nat) (Q : Nat → Prop) (x u0 u1 u2 : TT) (E : List Th) (i : Ty) (ea : Option Addr) (ec : Nat) (w : World) (hk : x.k = 6) (hy : x.l = [u0, u1, u2]) (hx : x.In w) (hxb : x.Bl Q) (hE : Env m M R Q w ea E) (hw : Wl R (F - c) out0 w) (hQ : ¬ Q R) (nw : ∀ b, w.heap.size ≤ b → Q b) (ih0 : EvC m M R F c u0 E truthY ea ec) (ih1 : ∀ c', c ≤ c' → c' ≤ F → EvC m M R F c' u1 E i ea ec) (ih2 : ∀ c', c ≤ c' → c' ≤ F → EvC m M R F c' u2 E i ea ec) :
    Calls Tryz.prog 59 #[.pointer (some ⟨R, 0, none⟩), .agg #[.int .i64 x.k, .int .i64 x.n, .int .i64 x.t.k, .slice x.t.a x.t.l.length x.t.c, .int .i64 x.f.k, .slice x.f.a x.f.l.length x.f.c, .slice x.a x.l.length x.c], .slice ea E.length ec] w (ThPost m M R F c Q w i (EvS m F x.tm (E.map Th.val) i c)) := by
  have hlr := hw.lt
  obtain ⟨W1, hW1⟩ : ∃ W, W = ebW R x ea E.length ec w := ⟨_, rfl⟩
  obtain ⟨hB, hl1, hs1⟩ := eb_start R x ea E.length ec w
  rw [← hW1] at hB hl1 hs1
  have hw1 := hw.below hl1
  have HB : Hid (EB R x ea E.length ec w W1 ∧ Below w.heap.size w W1 ∧ Wl R (F - c) out0 W1) := ⟨hB, hl1, hw1⟩
  have hxl : x.l.length = 3 := by rw [hy]; rfl
  obtain ⟨bx, ox, hxa⟩ : ∃ bx ox, x.a = some ⟨bx, ox, none⟩ := by
    obtain ⟨b, o, e, _⟩ := hx.part 0 (by omega)
    exact ⟨b, o, e⟩
  have hbx : Q bx := hxb.own (by rw [hy]; simp) _ hxa
  have hsm : ∀ W, Kept R none W1 W → Same Q w W := fun W hk b hb hq => by
    have hs := hl1.size
    rw [hk.block b (by omega) (fun e => hQ (e ▸ hq)) (by simp)]
    exact hl1.block b hb
  have hsz1 : w.heap.size + 1 + 1 + 1 + 1 ≤ W1.heap.size := by omega
  obtain ⟨h7u0, hiu0⟩ : At7 w bx (ox) u0 ∧ u0.In w := by
    obtain ⟨b', o', e', h7, hi⟩ := hx.part 0 (by omega)
    rw [hxa] at e'
    obtain ⟨rfl, rfl⟩ : bx = b' ∧ ox = o' := by simpa using e'
    exact ⟨by simpa [hy] using h7, by simpa [hy] using hi⟩
  have hbu0 : u0.Bl Q := hxb.mem (by rw [hy]; simp)
  obtain ⟨h7u1, hiu1⟩ : At7 w bx (ox + 7) u1 ∧ u1.In w := by
    obtain ⟨b', o', e', h7, hi⟩ := hx.part 1 (by omega)
    rw [hxa] at e'
    obtain ⟨rfl, rfl⟩ : bx = b' ∧ ox = o' := by simpa using e'
    exact ⟨by simpa [hy] using h7, by simpa [hy] using hi⟩
  have hbu1 : u1.Bl Q := hxb.mem (by rw [hy]; simp)
  obtain ⟨h7u2, hiu2⟩ : At7 w bx (ox + 14) u2 ∧ u2.In w := by
    obtain ⟨b', o', e', h7, hi⟩ := hx.part 2 (by omega)
    rw [hxa] at e'
    obtain ⟨rfl, rfl⟩ : bx = b' ∧ ox = o' := by simpa using e'
    exact ⟨by simpa [hy] using h7, by simpa [hy] using hi⟩
  have hbu2 : u2.Bl Q := hxb.mem (by rw [hy]; simp)
  have HK : Hid (∀ W, Kept R none W1 W → W.cell? ⟨w.heap.size, 0, none⟩ = some (.pointer (some ⟨R, 0, none⟩)) ∧ W.cell? ⟨w.heap.size + 1, 6, none⟩ = some (.slice (some ⟨bx, ox, none⟩) 3 x.c) ∧ W.cell? ⟨bx, ox, none⟩ = some (.int .i64 u0.k) ∧ W.cell? ⟨bx, ox + 1, none⟩ = some (.int .i64 u0.n) ∧ W.cell? ⟨bx, ox + 2, none⟩ = some (.int .i64 u0.t.k) ∧ W.cell? ⟨bx, ox + 3, none⟩ = some (.slice u0.t.a u0.t.l.length u0.t.c) ∧ W.cell? ⟨bx, ox + 4, none⟩ = some (.int .i64 u0.f.k) ∧ W.cell? ⟨bx, ox + 5, none⟩ = some (.slice u0.f.a u0.f.l.length u0.f.c) ∧ W.cell? ⟨bx, ox + 6, none⟩ = some (.slice u0.a u0.l.length u0.c) ∧ W.cell? ⟨w.heap.size + 1 + 1, 0, none⟩ = some (.slice ea E.length ec)) := fun W hk => by
    have hcl : ∀ b i u, w.cell? ⟨b, i, none⟩ = some u → Q b → W.cell? ⟨b, i, none⟩ = some u := fun b i u e hb => (hsm W hk).cell e hb
    have hc6 := hB.x7.c6
    rw [hxa, hxl] at hc6
    exact ⟨hk.cell hB.w0 (by omega), hk.cell hc6 (by omega), hcl _ _ _ h7u0.c0 hbx, hcl _ _ _ h7u0.c1 hbx, hcl _ _ _ h7u0.c2 hbx, hcl _ _ _ h7u0.c3 hbx, hcl _ _ _ h7u0.c4 hbx, hcl _ _ _ h7u0.c5 hbx, hcl _ _ _ h7u0.c6 hbx, hk.cell hB.e0 (by omega)⟩
  have HK1 : Hid (∀ V W, Kept R none W1 V → SK R (w.heap.size + 1 + 1 + 1) V W → W.cell? ⟨w.heap.size, 0, none⟩ = some (.pointer (some ⟨R, 0, none⟩)) ∧ W.cell? ⟨w.heap.size + 1, 6, none⟩ = some (.slice (some ⟨bx, ox, none⟩) 3 x.c) ∧ W.cell? ⟨bx, ox + 7, none⟩ = some (.int .i64 u1.k) ∧ W.cell? ⟨bx, ox + 8, none⟩ = some (.int .i64 u1.n) ∧ W.cell? ⟨bx, ox + 9, none⟩ = some (.int .i64 u1.t.k) ∧ W.cell? ⟨bx, ox + 10, none⟩ = some (.slice u1.t.a u1.t.l.length u1.t.c) ∧ W.cell? ⟨bx, ox + 11, none⟩ = some (.int .i64 u1.f.k) ∧ W.cell? ⟨bx, ox + 12, none⟩ = some (.slice u1.f.a u1.f.l.length u1.f.c) ∧ W.cell? ⟨bx, ox + 13, none⟩ = some (.slice u1.a u1.l.length u1.c) ∧ W.cell? ⟨w.heap.size + 1 + 1, 0, none⟩ = some (.slice ea E.length ec)) := fun V W hkV hk => by
    have hcl : ∀ b i u, w.cell? ⟨b, i, none⟩ = some u → Q b → W.cell? ⟨b, i, none⟩ = some u := fun b i u e hb => hk b i u ((hsm V hkV).cell e hb) (fun e => hQ (e ▸ hb)) (by have : b < w.heap.size := World.block_lt_of_cell? _ _ e; omega)
    have hc6 := hB.x7.c6
    rw [hxa, hxl] at hc6
    exact ⟨hk _ _ _ (hkV.cell hB.w0 (by omega)) (by omega) (by omega), hk _ _ _ (hkV.cell hc6 (by omega)) (by omega) (by omega), hcl _ _ _ h7u1.c0 hbx, hcl _ _ _ h7u1.c1 hbx, hcl _ _ _ h7u1.c2 hbx, hcl _ _ _ h7u1.c3 hbx, hcl _ _ _ h7u1.c4 hbx, hcl _ _ _ h7u1.c5 hbx, hcl _ _ _ h7u1.c6 hbx, hk _ _ _ (hkV.cell hB.e0 (by omega)) (by omega) (by omega)⟩
  have HK2 : Hid (∀ V W, Kept R none W1 V → SK R (w.heap.size + 1 + 1 + 1) V W → W.cell? ⟨w.heap.size, 0, none⟩ = some (.pointer (some ⟨R, 0, none⟩)) ∧ W.cell? ⟨w.heap.size + 1, 6, none⟩ = some (.slice (some ⟨bx, ox, none⟩) 3 x.c) ∧ W.cell? ⟨bx, ox + 14, none⟩ = some (.int .i64 u2.k) ∧ W.cell? ⟨bx, ox + 15, none⟩ = some (.int .i64 u2.n) ∧ W.cell? ⟨bx, ox + 16, none⟩ = some (.int .i64 u2.t.k) ∧ W.cell? ⟨bx, ox + 17, none⟩ = some (.slice u2.t.a u2.t.l.length u2.t.c) ∧ W.cell? ⟨bx, ox + 18, none⟩ = some (.int .i64 u2.f.k) ∧ W.cell? ⟨bx, ox + 19, none⟩ = some (.slice u2.f.a u2.f.l.length u2.f.c) ∧ W.cell? ⟨bx, ox + 20, none⟩ = some (.slice u2.a u2.l.length u2.c) ∧ W.cell? ⟨w.heap.size + 1 + 1, 0, none⟩ = some (.slice ea E.length ec)) := fun V W hkV hk => by
    have hcl : ∀ b i u, w.cell? ⟨b, i, none⟩ = some u → Q b → W.cell? ⟨b, i, none⟩ = some u := fun b i u e hb => hk b i u ((hsm V hkV).cell e hb) (fun e => hQ (e ▸ hb)) (by have : b < w.heap.size := World.block_lt_of_cell? _ _ e; omega)
    have hc6 := hB.x7.c6
    rw [hxa, hxl] at hc6
    exact ⟨hk _ _ _ (hkV.cell hB.w0 (by omega)) (by omega) (by omega), hk _ _ _ (hkV.cell hc6 (by omega)) (by omega) (by omega), hcl _ _ _ h7u2.c0 hbx, hcl _ _ _ h7u2.c1 hbx, hcl _ _ _ h7u2.c2 hbx, hcl _ _ _ h7u2.c3 hbx, hcl _ _ _ h7u2.c4 hbx, hcl _ _ _ h7u2.c5 hbx, hcl _ _ _ h7u2.c6 hbx, hk _ _ _ (hkV.cell hB.e0 (by omega)) (by omega) (by omega)⟩
  have HI : Hid (∀ (z : Nat) (W : World), Kept R none W1 W → Wl R (F - c) out0 W → w.heap.size ≤ z → z < W.heap.size → Calls Tryz.prog 59 #[.pointer (some ⟨R, 0, none⟩), .agg #[.int .i64 u0.k, .int .i64 u0.n, .int .i64 u0.t.k, .slice u0.t.a u0.t.l.length u0.t.c, .int .i64 u0.f.k, .slice u0.f.a u0.f.l.length u0.f.c, .slice u0.a u0.l.length u0.c], .slice ea E.length ec] W (ThPost m M R F c (fun b => Q b ∧ b ≠ w.heap.size + 1 + 1 + 1 ∧ b ≠ z) W truthY (EvS m F u0.tm (E.map Th.val) truthY c))) := fun z W hk hwl hz1 hz2 => by
    have hsz := hk.size
    exact ih0 (fun b => Q b ∧ b ≠ w.heap.size + 1 + 1 + 1 ∧ b ≠ z) W (hiu0.same (hsm W hk) hbu0) ((hbu0.and hiu0.bl).mono fun b hb => ⟨hb.1, by omega, by omega⟩) ((hE.mono (Q' := (fun b => Q b ∧ b ≠ w.heap.size + 1 + 1 + 1 ∧ b ≠ z)) fun x h1 h2 => ⟨h2, by omega, by omega⟩).same fun b h1 h2 => hsm W hk b h1 h2.1) hwl (fun hx => hQ hx.1) (fun b hb => ⟨nw b (by omega), by omega, by omega⟩)
  have HI1 : Hid (∀ (c' : Nat) (h1 : c ≤ c') (h2 : c' ≤ F) (z : Nat) (W : World), Kept R none W1 W → Wl R (F - c') out0 W → w.heap.size ≤ z → z < W.heap.size → Calls Tryz.prog 59 #[.pointer (some ⟨R, 0, none⟩), .agg #[.int .i64 u1.k, .int .i64 u1.n, .int .i64 u1.t.k, .slice u1.t.a u1.t.l.length u1.t.c, .int .i64 u1.f.k, .slice u1.f.a u1.f.l.length u1.f.c, .slice u1.a u1.l.length u1.c], .slice ea E.length ec] W (ThPost m M R F c' (fun b => Q b ∧ b ≠ w.heap.size + 1 + 1 + 1 ∧ b ≠ z) W i (EvS m F u1.tm (E.map Th.val) i c'))) := fun c' h1 h2 z W hk hwl hz1 hz2 => by
    have hsz := hk.size
    exact ih1 c' h1 h2 (fun b => Q b ∧ b ≠ w.heap.size + 1 + 1 + 1 ∧ b ≠ z) W (hiu1.same (hsm W hk) hbu1) ((hbu1.and hiu1.bl).mono fun b hb => ⟨hb.1, by omega, by omega⟩) ((hE.mono (Q' := (fun b => Q b ∧ b ≠ w.heap.size + 1 + 1 + 1 ∧ b ≠ z)) fun x h1 h2 => ⟨h2, by omega, by omega⟩).same fun b h1 h2 => hsm W hk b h1 h2.1) hwl (fun hx => hQ hx.1) (fun b hb => ⟨nw b (by omega), by omega, by omega⟩)
  have HI2 : Hid (∀ (c' : Nat) (h1 : c ≤ c') (h2 : c' ≤ F) (z : Nat) (W : World), Kept R none W1 W → Wl R (F - c') out0 W → w.heap.size ≤ z → z < W.heap.size → Calls Tryz.prog 59 #[.pointer (some ⟨R, 0, none⟩), .agg #[.int .i64 u2.k, .int .i64 u2.n, .int .i64 u2.t.k, .slice u2.t.a u2.t.l.length u2.t.c, .int .i64 u2.f.k, .slice u2.f.a u2.f.l.length u2.f.c, .slice u2.a u2.l.length u2.c], .slice ea E.length ec] W (ThPost m M R F c' (fun b => Q b ∧ b ≠ w.heap.size + 1 + 1 + 1 ∧ b ≠ z) W i (EvS m F u2.tm (E.map Th.val) i c'))) := fun c' h1 h2 z W hk hwl hz1 hz2 => by
    have hsz := hk.size
    exact ih2 c' h1 h2 (fun b => Q b ∧ b ≠ w.heap.size + 1 + 1 + 1 ∧ b ≠ z) W (hiu2.same (hsm W hk) hbu2) ((hbu2.and hiu2.bl).mono fun b hb => ⟨hb.1, by omega, by omega⟩) ((hE.mono (Q' := (fun b => Q b ∧ b ≠ w.heap.size + 1 + 1 + 1 ∧ b ≠ z)) fun x h1 h2 => ⟨h2, by omega, by omega⟩).same fun b h1 h2 => hsm W hk b h1 h2.1) hwl (fun hx => hQ hx.1) (fun b hb => ⟨nw b (by omega), by omega, by omega⟩)
  have he0 : x.tm.at 0 = u0.tm := by rw [Tm.at, TT.tm_l, hy]; rfl
  have he1 : x.tm.at 1 = u1.tm := by rw [Tm.at, TT.tm_l, hy]; rfl
  have he2 : x.tm.at 2 = u2.tm := by rw [Tm.at, TT.tm_l, hy]; rfl
  have hk6 : x.tm.k = 6 := by rw [TT.tm_k]; exact hk
  have HE1 : Hid (∀ r V c', EvS m F u0.tm (E.map Th.val) truthY c r V c' → r.k ≠ 0 → EvS m F x.tm (E.map Th.val) i c r V c') := fun r V c' h hr => ⟨ev_if_bad hk6 (by rw [he0]; exact h.1) hr, fun _ h0 => absurd h0 hr⟩
  have HE2 : Hid (∀ V c', EvS m F u0.tm (E.map Th.val) truthY c out0 V c' → V.k ≠ 2 → EvS m F x.tm (E.map Th.val) i c stuckO V c') := fun V c' h hv => ⟨ev_if_stuck hk6 (by rw [he0]; exact h.1) rfl hv, fun _ h0 => by cases h0⟩
  have HE3 : Hid (∀ V c' r2 V2 c2, EvS m F u0.tm (E.map Th.val) truthY c out0 V c' → V.k = 2 → V.n = 1 → EvS m F u1.tm (E.map Th.val) i c' r2 V2 c2 → EvS m F x.tm (E.map Th.val) i c r2 V2 c2) := fun V c' r2 V2 c2 h hv hn h2 => ⟨ev_if hk6 (by rw [he0]; exact h.1) rfl hv (by rw [if_pos hn, he1]; exact h2.1), h2.2⟩
  have HE4 : Hid (∀ V c' r2 V2 c2, EvS m F u0.tm (E.map Th.val) truthY c out0 V c' → V.k = 2 → V.n ≠ 1 → EvS m F u2.tm (E.map Th.val) i c' r2 V2 c2 → EvS m F x.tm (E.map Th.val) i c r2 V2 c2) := fun V c' r2 V2 c2 h hv hn h2 => ⟨ev_if hk6 (by rw [he0]; exact h.1) rfl hv (by rw [if_neg hn, he2]; exact h2.1), h2.2⟩
  have i0 : (0 : Int) < ((3 : Nat) : Int) := by omega
  have i1 : (1 : Int) < ((3 : Nat) : Int) := by omega
  have i2 : (2 : Int) < ((3 : Nat) : Int) := by omega
  obtain ⟨c0, c1, _, _, _, _, _, _⟩ := hw1
  replace c1 : W1.cell? ⟨R, 1, none⟩ = some (.int .i64 0) := c1
  obtain ⟨w0, ⟨x0, x1, x2, x3, x4, x5, x6⟩, e0, ⟨r0, r1, r2, r3, y0, y1, y2, y3⟩⟩ := hB
  simp only [Nat.zero_add] at x1 x2 x3 x4 x5 x6
  rw [hk] at x0
  have hk0 : Kept R none W1 W1.drew := Kept.of_below ((Below.refl _ _).drew)
  have hwl0 : Wl R (F - c) out0 W1.drew := HB.out.2.2.below ((Below.refl _ _).drew)
  have HKX : Hid (x.k = 6) := hk
  clear hk hx hxb hE hw nw hl1 hs1 hsm h7u0 hiu0 hbu0 h7u1 hiu1 hbu1 h7u2 hiu2 hbu2 hxl hxa hbx hy hQ ih0 ih1 ih2 he0 he1 he2 hk6
  go_enter Tryz.func59, Tryz.ntmps59
  go_upto_region 1 with fail
  unfold ebW at hW1
  rw [← hW1]
  clear hW1
  go_upto_region 20 with fail
  clear x0 x1 x2 x3 x4 x5 x6 e0 r0 r1 r2 r3 y0 y1 y2 y3 c0 c1 w0
  go_cut [8] (fun ts wx => ∃ bs : Nat, ts = .pointer (some ⟨bs, 0, none⟩) ∧ Hid (PartP m M R F c Q w W1 u0 E truthY bs wx))
  case first =>
    refine wp_region_held_drew (S := fun W => W.cell? ⟨w.heap.size, 0, none⟩ = some (.pointer (some ⟨R, 0, none⟩)) ∧ W.cell? ⟨w.heap.size + 1, 6, none⟩ = some (.slice (some ⟨bx, ox, none⟩) 3 x.c) ∧ W.cell? ⟨bx, ox, none⟩ = some (.int .i64 u0.k) ∧ W.cell? ⟨bx, ox + 1, none⟩ = some (.int .i64 u0.n) ∧ W.cell? ⟨bx, ox + 2, none⟩ = some (.int .i64 u0.t.k) ∧ W.cell? ⟨bx, ox + 3, none⟩ = some (.slice u0.t.a u0.t.l.length u0.t.c) ∧ W.cell? ⟨bx, ox + 4, none⟩ = some (.int .i64 u0.f.k) ∧ W.cell? ⟨bx, ox + 5, none⟩ = some (.slice u0.f.a u0.f.l.length u0.f.c) ∧ W.cell? ⟨bx, ox + 6, none⟩ = some (.slice u0.a u0.l.length u0.c) ∧ W.cell? ⟨w.heap.size + 1 + 1, 0, none⟩ = some (.slice ea E.length ec)) (by kernel_rfl) (HK.out _ hk0) (fun hHeld => ?_)
    refine takeHL (i := 0) (v := ?_) rfl (by kernel_rfl) (by kernel_rfl) (by kernel_rfl) (fun _ _ _ h => h) (Or.inl ⟨by rfl, ?_⟩) hHeld ?_; rotate_left; (focus (intro w' hSw; (try dsimp only at hSw); go_split_ands; first | (go_simp; done) | (go_simp; with_reducible rfl))); simp only [Act.put, List.setIfInBounds_toArray, List.set_cons_zero, List.set_cons_succ]
    refine takeHL (i := 1) (v := ?_) rfl (by kernel_rfl) (by kernel_rfl) (by kernel_rfl) (fun _ _ _ h => h) (Or.inl ⟨by rfl, ?_⟩) hHeld ?_; rotate_left; (focus (intro w' hSw; (try dsimp only at hSw); go_split_ands; first | (go_simp; done) | (go_simp; with_reducible rfl))); simp only [Act.put, List.setIfInBounds_toArray, List.set_cons_zero, List.set_cons_succ]
    refine takeHL (i := 2) (v := ?_) rfl (by kernel_rfl) (by kernel_rfl) (by kernel_rfl) (fun _ _ _ h => h) (Or.inl ⟨by rfl, ?_⟩) hHeld ?_; rotate_left; (focus (intro w' hSw; (try dsimp only at hSw); go_split_ands; first | (go_simp; done) | (go_simp; with_reducible rfl))); simp only [Act.put, List.setIfInBounds_toArray, List.set_cons_zero, List.set_cons_succ]
    refine takeHL (i := 3) (v := ?_) rfl (by kernel_rfl) (by kernel_rfl) (by kernel_rfl) (fun _ _ _ h => h) (Or.inl ⟨by rfl, ?_⟩) hHeld ?_; rotate_left; (focus (intro w' hSw; (try dsimp only at hSw); go_split_ands; first | (go_simp; done) | (go_simp; with_reducible rfl))); simp only [Act.put, List.setIfInBounds_toArray, List.set_cons_zero, List.set_cons_succ]
    refine takeHL (i := 4) (v := ?_) rfl (by kernel_rfl) (by kernel_rfl) (by kernel_rfl) (fun _ _ _ h => h) (Or.inl ⟨by rfl, ?_⟩) hHeld ?_; rotate_left; (focus (intro w' hSw; (try dsimp only at hSw); go_split_ands; first | (go_simp; done) | (go_simp; with_reducible rfl))); simp only [Act.put, List.setIfInBounds_toArray, List.set_cons_zero, List.set_cons_succ]
    refine takeHL (i := 5) (v := ?_) rfl (by kernel_rfl) (by kernel_rfl) (by kernel_rfl) (fun _ _ _ h => h) (Or.inl ⟨by rfl, ?_⟩) hHeld ?_; rotate_left; (focus (intro w' hSw; (try dsimp only at hSw); go_split_ands; first | (go_simp; done) | (go_simp; with_reducible rfl))); simp only [Act.put, List.setIfInBounds_toArray, List.set_cons_zero, List.set_cons_succ]
    refine twoHL (i := 6) (j := 7) rfl rfl (by kernel_rfl) (fun K hK => ?_) (fun K hK => ?_)
    · go_simp
      refine (HI.out w.heap.size _ hk0 hwl0 (Nat.le_refl _) (by show _ < W1.heap.size; omega)).mono ?_
      rintro e w2 ⟨h2, rr, VV, cc, hSS, hcc1, hcc2, hw2, hcase⟩
      have hk2 : Kept R none W1 w2 := hk0.trans h2
      have hsz2 := hk2.size
      rcases hcase with ⟨hr, rfl⟩ | ⟨rfl, z, rfl, hzi, hzv⟩
      · have hbV : Below w2.heap.size w2 (w2.alloc (.cells #[.int .i64 0, .int .i64 0, .nilFunc, .int .i64 0] 103)) := (Below.refl _ _).alloc (Nat.le_refl _) _
        have HN : Hid (PartP m M R F c Q w W1 u0 E truthY w2.heap.size (w2.alloc (.cells #[.int .i64 0, .int .i64 0, .nilFunc, .int .i64 0] 103))) := ⟨by omega, hk2.trans (Kept.of_below hbV), rr, VV, cc, hSS, hcc1, hcc2, hw2.below hbV, .inl hr⟩
        clear hr hSS
        simp only [noV]
        refine hK.out _ _ (HK.out _ hk2) (fun hHeld => ?_)
        clear hK K
        (try simp only [Act.put, List.setIfInBounds_toArray, List.set_cons_zero, List.set_cons_succ])
        refine oneHL (i := 7) rfl (by kernel_rfl) (fun K hK => ?_)
        go_simp
        refine hK.out _ _ (HK.out _ (hk2.trans (Kept.of_below ((Below.refl _ _).alloc (Nat.le_refl _) _)))) (fun hHeld => ?_)
        clear hK K
        (try simp only [Act.put, List.setIfInBounds_toArray, List.set_cons_zero, List.set_cons_succ])
        refine oneHL (i := 8) rfl (by kernel_rfl) (fun K hK => ?_)
        go_simp
        refine hK.out _ _ (HK.out _ (hk2.trans (Kept.of_below hbV))) (fun hHeld => ?_)
        clear hK K
        (try simp only [Act.put, List.setIfInBounds_toArray, List.set_cons_zero, List.set_cons_succ])
        refine wpAnyH_done (by kernel_rfl) ?_ _
        clear hHeld hcc1 hcc2 hw2
        go_wp2_with fail
        go_meet
        case rel => exact ⟨_, rfl, HN⟩
      · have hone := hzi.one
        have hst4 : ∀ (a : Addr) (m : Mode) (W : World), (store a z.fn m).run Tryz.prog W = stored Tryz.prog W a z.fn m := fun a m W => run_storeOne hone
        have hbV : Below w2.heap.size w2 (w2.alloc (.cells #[.int .i64 z.k, .int .i64 z.n, z.fn, .int .i64 z.tag] 103)) := (Below.refl _ _).alloc (Nat.le_refl _) _
        have HN : Hid (PartP m M R F c Q w W1 u0 E truthY w2.heap.size (w2.alloc (.cells #[.int .i64 z.k, .int .i64 z.n, z.fn, .int .i64 z.tag] 103))) := ⟨by omega, hk2.trans (Kept.of_below hbV), out0, VV, cc, hSS, hcc1, hcc2, hw2.below hbV, .inr ⟨rfl, z, ⟨by simp [go_sem], by simp [go_sem], by simp [go_sem], by simp [go_sem]⟩, (hzi.same (Same.of_below hbV)).mono (fun x _ hx => ⟨hx.1, hx.2.1⟩), hzv⟩⟩
        clear hSS hzi hzv hone
        simp only [Th.ag]
        refine hK.out _ _ (HK.out _ hk2) (fun hHeld => ?_)
        clear hK K
        (try simp only [Act.put, List.setIfInBounds_toArray, List.set_cons_zero, List.set_cons_succ])
        refine oneHL (i := 7) rfl (by kernel_rfl) (fun K hK => ?_)
        go_simp
        refine hK.out _ _ (HK.out _ (hk2.trans (Kept.of_below ((Below.refl _ _).alloc (Nat.le_refl _) _)))) (fun hHeld => ?_)
        clear hK K
        (try simp only [Act.put, List.setIfInBounds_toArray, List.set_cons_zero, List.set_cons_succ])
        refine oneHL (i := 8) rfl (by kernel_rfl) (fun K hK => ?_)
        go_simp
        refine hK.out _ _ (HK.out _ (hk2.trans (Kept.of_below hbV))) (fun hHeld => ?_)
        clear hK K
        (try simp only [Act.put, List.setIfInBounds_toArray, List.set_cons_zero, List.set_cons_succ])
        refine wpAnyH_done (by kernel_rfl) ?_ _
        clear hHeld hcc1 hcc2 hw2
        go_wp2_with fail
        go_meet
        case rel => exact ⟨_, rfl, HN⟩
    · go_simp
      have hk3 : Kept R none W1 (W1.alloc (.cells #[.int .i64 0, .int .i64 0, .nilFunc, .int .i64 0] 103)).drew := Kept.of_below (((Below.refl _ _).alloc (Nat.le_refl _) _).drew)
      refine hK.out _ _ (HK.out _ hk3) (fun hHeld => ?_)
      clear hK K
      (try simp only [Act.put, List.setIfInBounds_toArray, List.set_cons_zero, List.set_cons_succ])
      refine oneHL (i := 6) rfl (by kernel_rfl) (fun K hK => ?_)
      go_simp
      refine (HI.out W1.heap.size _ hk3 (HB.out.2.2.below (((Below.refl _ _).alloc (Nat.le_refl _) _).drew)) (by omega) (by show _ < (W1.alloc (.cells #[.int .i64 0, .int .i64 0, .nilFunc, .int .i64 0] 103)).heap.size; simp)).mono ?_
      rintro e w2 ⟨h2, rr, VV, cc, hSS, hcc1, hcc2, hw2, hcase⟩
      have hk2 : Kept R none W1 w2 := hk3.trans h2
      have q9 : Rb w2 W1.heap.size := ((Rb.new W1).below ((Below.refl _ _).drew)).kept h2 (by omega)
      rcases hcase with ⟨hr, rfl⟩ | ⟨rfl, z, rfl, hzi, hzv⟩
      · obtain ⟨⟨g0, g1, g2, g3⟩, hk9⟩ := q9.set (.int .i64 0) (.int .i64 0) .nilFunc (.int .i64 0)
        have HN : Hid (PartP m M R F c Q w W1 u0 E truthY W1.heap.size ((((w2.setCell ⟨W1.heap.size, 0, none⟩ (.int .i64 0)).setCell ⟨W1.heap.size, 1, none⟩ (.int .i64 0)).setCell ⟨W1.heap.size, 2, none⟩ .nilFunc).setCell ⟨W1.heap.size, 3, none⟩ (.int .i64 0))) := ⟨by omega, hk2.new hk9 (Nat.le_refl _), rr, VV, cc, hSS, hcc1, hcc2, hw2.same hk9 (by omega), .inl hr⟩
        have hkV := hk2.new hk9 (Nat.le_refl _)
        clear hr hSS
        simp only [noV]
        obtain ⟨p0, p1, p2, p3, x0, x1, x2, x3⟩ := q9
        clear g0 g1 g2 g3 hk9
        refine hK.out _ _ (HK.out _ hk2) (fun hHeld => ?_)
        clear hK K
        (try simp only [Act.put, List.setIfInBounds_toArray, List.set_cons_zero, List.set_cons_succ])
        refine oneHL (i := 8) rfl (by kernel_rfl) (fun K hK => ?_)
        go_simp
        refine hK.out _ _ (HK.out _ hkV) (fun hHeld => ?_)
        clear hK K
        (try simp only [Act.put, List.setIfInBounds_toArray, List.set_cons_zero, List.set_cons_succ])
        refine wpAnyH_done (by kernel_rfl) ?_ _
        obtain ⟨V9, hV9⟩ : ∃ V9, V9 = (((w2.setCell ⟨W1.heap.size, 0, none⟩ (.int .i64 0)).setCell ⟨W1.heap.size, 1, none⟩ (.int .i64 0)).setCell ⟨W1.heap.size, 2, none⟩ .nilFunc).setCell ⟨W1.heap.size, 3, none⟩ (.int .i64 0) := ⟨_, rfl⟩
        rw [← hV9] at HN
        rw [← hV9]
        clear hV9 hHeld hkV p0 p1 p2 p3 x0 x1 x2 x3 hw2 hk2 h2 hcc1 hcc2
        go_wp2_with fail
        go_meet
        case rel => exact ⟨_, rfl, HN⟩
      · have hone := hzi.one
        have hst4 : ∀ (a : Addr) (m : Mode) (W : World), (store a z.fn m).run Tryz.prog W = stored Tryz.prog W a z.fn m := fun a m W => run_storeOne hone
        obtain ⟨⟨g0, g1, g2, g3⟩, hk9⟩ := q9.set (.int .i64 z.k) (.int .i64 z.n) z.fn (.int .i64 z.tag)
        have HN : Hid (PartP m M R F c Q w W1 u0 E truthY W1.heap.size ((((w2.setCell ⟨W1.heap.size, 0, none⟩ (.int .i64 z.k)).setCell ⟨W1.heap.size, 1, none⟩ (.int .i64 z.n)).setCell ⟨W1.heap.size, 2, none⟩ z.fn).setCell ⟨W1.heap.size, 3, none⟩ (.int .i64 z.tag))) := ⟨by omega, hk2.new hk9 (Nat.le_refl _), out0, VV, cc, hSS, hcc1, hcc2, hw2.same hk9 (by omega), .inr ⟨rfl, z, ⟨g0, g1, g2, g3⟩, (hzi.same (Same.of_kept hk9 fun hx => hx.2.2 rfl)).mono (fun x _ hx => ⟨hx.1, hx.2.1⟩), hzv⟩⟩
        have hkV := hk2.new hk9 (Nat.le_refl _)
        clear hSS hzi hzv hone
        simp only [Th.ag]
        obtain ⟨p0, p1, p2, p3, x0, x1, x2, x3⟩ := q9
        clear g0 g1 g2 g3 hk9
        refine hK.out _ _ (HK.out _ hk2) (fun hHeld => ?_)
        clear hK K
        (try simp only [Act.put, List.setIfInBounds_toArray, List.set_cons_zero, List.set_cons_succ])
        refine oneHL (i := 8) rfl (by kernel_rfl) (fun K hK => ?_)
        go_simp
        refine hK.out _ _ (HK.out _ hkV) (fun hHeld => ?_)
        clear hK K
        (try simp only [Act.put, List.setIfInBounds_toArray, List.set_cons_zero, List.set_cons_succ])
        refine wpAnyH_done (by kernel_rfl) ?_ _
        obtain ⟨V9, hV9⟩ : ∃ V9, V9 = (((w2.setCell ⟨W1.heap.size, 0, none⟩ (.int .i64 z.k)).setCell ⟨W1.heap.size, 1, none⟩ (.int .i64 z.n)).setCell ⟨W1.heap.size, 2, none⟩ z.fn).setCell ⟨W1.heap.size, 3, none⟩ (.int .i64 z.tag) := ⟨_, rfl⟩
        rw [← hV9] at HN
        rw [← hV9]
        clear hV9 hHeld hkV p0 p1 p2 p3 x0 x1 x2 x3 hw2 hk2 h2 hcc1 hcc2
        go_wp2_with fail
        go_meet
        case rel => exact ⟨_, rfl, HN⟩
  case rest =>
  obtain ⟨b8, rfl, HP⟩ := hcut
  obtain ⟨lb8, hkc, r, V, c', hS, hc1, hc2, hwc, hcase⟩ := HP.out
  clear HP HI hk0 hwl0 HK
  have hEB := HB.out.1.kept hkc hlr
  obtain ⟨w0, ⟨x0, x1, x2, x3, x4, x5, x6⟩, e0, hrb⟩ := hEB
  simp only [Nat.zero_add] at x1 x2 x3 x4 x5 x6
  rw [HKX.out] at x0
  have hnR : b8 ≠ R := by omega
  have HKC : Hid (Kept R none W1 wc) := hkc
  rcases hcase with hr | ⟨rfl, z, hz4, hzi, hzv, hzo⟩
  · have hgk : (r.k != 0) = true := by simpa using hr
    have HF : Hid (Kept R none W1 wc ∧ Wl R (F - c') r wc ∧ Rb wc (w.heap.size + 1 + 1 + 1) ∧ EvS m F x.tm (E.map Th.val) i c r V c' ∧ c ≤ c' ∧ c' ≤ F ∧ r.k ≠ 0) := ⟨hkc, hwc, hrb, HE1.out _ _ _ hS hr, hc1, hc2, hr⟩
    obtain ⟨c0, c1, _, _, _, _, _, _⟩ := hwc
    obtain ⟨r0, r1, r2, r3, y0, y1, y2, y3⟩ := hrb
    clear hkc hS hr hc1 hc2
    apply_assumption
    go_wp2_with fail
    obtain ⟨⟨e0, e1, e2, e3⟩, hk⟩ := HF.out.2.2.1.set (.int .i64 0) (.int .i64 0) .nilFunc (.int .i64 0)
    refine bodyPost_ret (v := noV) ?_ rfl ⟨((Kept.of_below HB.out.2.1).trans HF.out.1).new hk (by omega), r, V, c', HF.out.2.2.2.1, HF.out.2.2.2.2.1, HF.out.2.2.2.2.2.1, HF.out.2.1.same hk (by omega), .inl ⟨HF.out.2.2.2.2.2.2, rfl⟩⟩
    simp [results, Tryz.results59, go_sem, noV, e0, e1, e2, e3]
  · have HW : Hid (Wl R (F - c') out0 wc) := hwc
    have HCC : Hid (c ≤ c' ∧ c' ≤ F) := ⟨hc1, hc2⟩
    have HS : Hid (EvS m F u0.tm (E.map Th.val) truthY c out0 z.val c') := hzv ▸ hS
    have hkd := hzi.kinds
    obtain ⟨z0, z1, z2, z3⟩ := hz4
    simp only [Nat.zero_add] at z1 z2 z3
    obtain ⟨c0, c1, _, _, _, _, _, _⟩ := hwc
    replace c1 : wc.cell? ⟨R, 1, none⟩ = some (.int .i64 0) := c1
    clear hkc hS hc1 hc2 hzi hzv hzo hrb lb8
    have fin : (z.tag ≠ 0 ∧ z.val.k = 5) ∨ (z.tag = 0 ∧ z.k ≠ 2 ∧ z.val.k ≠ 2) ∨ (z.tag = 0 ∧ z.k = 2 ∧ z.val = truthV z.n) := by
      rcases hkd with h | ⟨h0, _, ⟨h1, h2⟩ | ⟨h1, h2⟩ | ⟨h1, h2, _⟩⟩
      · exact .inl h
      · exact .inr (.inl ⟨h0, by omega, by rw [h2]; simp [numV]⟩)
      · exact .inr (.inr ⟨h0, h1, h2⟩)
      · exact .inr (.inl ⟨h0, by omega, by omega⟩)
    clear hkd
    rcases fin with ⟨h1, h2⟩ | ⟨h0, h1, h2⟩ | ⟨h0, h1, h2⟩
    · have ht1 : (z.tag != 0) = true := by simpa using h1
      have hv2 : z.val.k ≠ 2 := by omega
      clear h1 h2
      have HEV : Hid (EvS m F x.tm (E.map Th.val) i c stuckO z.val c' ∧ c ≤ c' ∧ c' ≤ F ∧ stuckO.k ≠ 0) := ⟨HE2.out _ _ HS.out hv2, HCC.out.1, HCC.out.2, by decide⟩
      apply_assumption
      go_wp2_with (go_at_call 94; refine (stuck_any R _ _ HW.out).mono ?_; rintro e w2 ⟨rfl, hw2, h2⟩; simp only [noV]; have HF : Hid (Kept R none W1 w2 ∧ Wl R (F - c') stuckO w2 ∧ Rb w2 (w.heap.size + 1 + 1 + 1)) := ⟨HKC.out.trans h2, hw2, (HB.out.1.kept (HKC.out.trans h2) hlr).r⟩; clear hw2 h2 w0 x0 x1 x2 x3 x4 x5 x6 e0 z0 z1 z2 z3 c0 c1; obtain ⟨r0, r1, r2, r3, y0, y1, y2, y3⟩ := HF.out.2.2)
      obtain ⟨⟨e0, e1, e2, e3⟩, hk⟩ := HF.out.2.2.set (.int .i64 0) (.int .i64 0) .nilFunc (.int .i64 0)
      refine bodyPost_ret (v := noV) ?_ rfl ⟨((Kept.of_below HB.out.2.1).trans HF.out.1).new hk (by omega), stuckO, z.val, c', HEV.out.1, HEV.out.2.1, HEV.out.2.2.1, HF.out.2.1.same hk (by omega), .inl ⟨HEV.out.2.2.2, rfl⟩⟩
      simp [results, Tryz.results59, go_sem, noV, e0, e1, e2, e3]
    · have ht1 : (z.k != 2) = true := by simpa using h1
      rw [h0] at z3
      have HV : Hid (z.val.k ≠ 2) := h2
      clear h0 h1 h2
      have HEV : Hid (EvS m F x.tm (E.map Th.val) i c stuckO z.val c' ∧ c ≤ c' ∧ c' ≤ F ∧ stuckO.k ≠ 0) := ⟨HE2.out _ _ HS.out HV.out, HCC.out.1, HCC.out.2, by decide⟩
      apply_assumption
      go_wp2_with (go_at_call 94; refine (stuck_any R _ _ HW.out).mono ?_; rintro e w2 ⟨rfl, hw2, h2⟩; simp only [noV]; have HF : Hid (Kept R none W1 w2 ∧ Wl R (F - c') stuckO w2 ∧ Rb w2 (w.heap.size + 1 + 1 + 1)) := ⟨HKC.out.trans h2, hw2, (HB.out.1.kept (HKC.out.trans h2) hlr).r⟩; clear hw2 h2 w0 x0 x1 x2 x3 x4 x5 x6 e0 z0 z1 z2 z3 c0 c1; obtain ⟨r0, r1, r2, r3, y0, y1, y2, y3⟩ := HF.out.2.2)
      obtain ⟨⟨e0, e1, e2, e3⟩, hk⟩ := HF.out.2.2.set (.int .i64 0) (.int .i64 0) .nilFunc (.int .i64 0)
      refine bodyPost_ret (v := noV) ?_ rfl ⟨((Kept.of_below HB.out.2.1).trans HF.out.1).new hk (by omega), stuckO, z.val, c', HEV.out.1, HEV.out.2.1, HEV.out.2.2.1, HF.out.2.1.same hk (by omega), .inl ⟨HEV.out.2.2.2, rfl⟩⟩
      simp [results, Tryz.results59, go_sem, noV, e0, e1, e2, e3]
    · rw [h0] at z3
      rw [h1] at z0
      have HV : Hid (z.val.k = 2 ∧ z.val.n = z.n) := by
        show _ ∧ _
        rw [h2]
        exact ⟨rfl, rfl⟩
      clear h0 h1 h2
      by_cases hn : z.n = 1
      · have HN1 : Hid (z.val.n = 1) := by
          show _ = _
          rw [HV.out.2]
          exact hn
        rw [hn] at z1
        clear hn
        apply_assumption
        go_upto_region 27 with fail
        clear w0 x0 x1 x2 x3 x4 x5 x6 e0 z0 z1 z2 z3 c0 c1
        have hk0 : Kept R none wc wc.drew := Kept.of_below ((Below.refl _ _).drew)
        have hwl0 : Wl R (F - c') out0 wc.drew := HW.out.below ((Below.refl _ _).drew)
        have hszc := HKC.out.size
        refine wp_region_held_drew (S := fun W => W.cell? ⟨w.heap.size, 0, none⟩ = some (.pointer (some ⟨R, 0, none⟩)) ∧ W.cell? ⟨w.heap.size + 1, 6, none⟩ = some (.slice (some ⟨bx, ox, none⟩) 3 x.c) ∧ W.cell? ⟨bx, ox + 7, none⟩ = some (.int .i64 u1.k) ∧ W.cell? ⟨bx, ox + 8, none⟩ = some (.int .i64 u1.n) ∧ W.cell? ⟨bx, ox + 9, none⟩ = some (.int .i64 u1.t.k) ∧ W.cell? ⟨bx, ox + 10, none⟩ = some (.slice u1.t.a u1.t.l.length u1.t.c) ∧ W.cell? ⟨bx, ox + 11, none⟩ = some (.int .i64 u1.f.k) ∧ W.cell? ⟨bx, ox + 12, none⟩ = some (.slice u1.f.a u1.f.l.length u1.f.c) ∧ W.cell? ⟨bx, ox + 13, none⟩ = some (.slice u1.a u1.l.length u1.c) ∧ W.cell? ⟨w.heap.size + 1 + 1, 0, none⟩ = some (.slice ea E.length ec)) (by kernel_rfl) (HK1.out wc _ HKC.out ((SK.refl _ _ _).kept hk0)) (fun hHeld => ?_)
        refine takeHL (i := 0) (v := ?_) rfl (by kernel_rfl) (by kernel_rfl) (by kernel_rfl) (fun _ _ _ h => h) (Or.inl ⟨by rfl, ?_⟩) hHeld ?_; rotate_left; (focus (intro w' hSw; (try dsimp only at hSw); go_split_ands; first | (go_simp; done) | (go_simp; with_reducible rfl))); simp only [Act.put, List.setIfInBounds_toArray, List.set_cons_zero, List.set_cons_succ]
        refine takeHL (i := 1) (v := ?_) rfl (by kernel_rfl) (by kernel_rfl) (by kernel_rfl) (fun _ _ _ h => h) (Or.inl ⟨by rfl, ?_⟩) hHeld ?_; rotate_left; (focus (intro w' hSw; (try dsimp only at hSw); go_split_ands; first | (go_simp; done) | (go_simp; with_reducible rfl))); simp only [Act.put, List.setIfInBounds_toArray, List.set_cons_zero, List.set_cons_succ]
        refine takeHL (i := 2) (v := ?_) rfl (by kernel_rfl) (by kernel_rfl) (by kernel_rfl) (fun _ _ _ h => h) (Or.inl ⟨by rfl, ?_⟩) hHeld ?_; rotate_left; (focus (intro w' hSw; (try dsimp only at hSw); go_split_ands; first | (go_simp; done) | (go_simp; with_reducible rfl))); simp only [Act.put, List.setIfInBounds_toArray, List.set_cons_zero, List.set_cons_succ]
        refine takeHL (i := 3) (v := ?_) rfl (by kernel_rfl) (by kernel_rfl) (by kernel_rfl) (fun _ _ _ h => h) (Or.inl ⟨by rfl, ?_⟩) hHeld ?_; rotate_left; (focus (intro w' hSw; (try dsimp only at hSw); go_split_ands; first | (go_simp; done) | (go_simp; with_reducible rfl))); simp only [Act.put, List.setIfInBounds_toArray, List.set_cons_zero, List.set_cons_succ]
        refine takeHL (i := 4) (v := ?_) rfl (by kernel_rfl) (by kernel_rfl) (by kernel_rfl) (fun _ _ _ h => h) (Or.inl ⟨by rfl, ?_⟩) hHeld ?_; rotate_left; (focus (intro w' hSw; (try dsimp only at hSw); go_split_ands; first | (go_simp; done) | (go_simp; with_reducible rfl))); simp only [Act.put, List.setIfInBounds_toArray, List.set_cons_zero, List.set_cons_succ]
        refine takeHL (i := 5) (v := ?_) rfl (by kernel_rfl) (by kernel_rfl) (by kernel_rfl) (fun _ _ _ h => h) (Or.inl ⟨by rfl, ?_⟩) hHeld ?_; rotate_left; (focus (intro w' hSw; (try dsimp only at hSw); go_split_ands; first | (go_simp; done) | (go_simp; with_reducible rfl))); simp only [Act.put, List.setIfInBounds_toArray, List.set_cons_zero, List.set_cons_succ]
        refine oneHL (i := 6) rfl (by kernel_rfl) (fun K hK => ?_)
        go_simp
        refine (HI1.out c' HCC.out.1 HCC.out.2 w.heap.size _ (HKC.out.trans hk0) hwl0 (Nat.le_refl _) (by show _ < wc.heap.size; omega)).mono ?_
        rintro e w5 ⟨hk5, rr, VV, cc, hSS, hcc1, hcc2, hw5, hcase⟩
        have hkF : Kept R none W1 w5 := (HKC.out.trans hk0).trans hk5
        have HF : Hid (Kept R none W1 w5 ∧ Wl R (F - cc) rr w5 ∧ Rb w5 (w.heap.size + 1 + 1 + 1) ∧ EvS m F x.tm (E.map Th.val) i c rr VV cc ∧ c ≤ cc ∧ cc ≤ F) := ⟨hkF, hw5, (HB.out.1.kept hkF hlr).r, HE3.out _ _ _ _ _ HS.out HV.out.1 HN1.out hSS, by have := HCC.out.1; omega, hcc2⟩
        have hsk5 : SK R (w.heap.size + 1 + 1 + 1) wc w5 := (SK.refl _ _ _).kept (hk0.trans hk5)
        obtain ⟨r0, r1, r2, r3, y0, y1, y2, y3⟩ := HF.out.2.2.1
        clear hSS hw5 hk5 HI1
        rcases hcase with ⟨hr, rfl⟩ | ⟨rfl, z, rfl, hzi, hzv⟩
        · simp only [noV]
          refine hK.out _ _ (HK1.out wc _ HKC.out hsk5) (fun hHeld => ?_)
          clear hK K
          (try simp only [Act.put, List.setIfInBounds_toArray, List.set_cons_zero, List.set_cons_succ])
          refine oneHL (i := 7) rfl (by kernel_rfl) (fun K hK => ?_)
          go_simp
          refine hK.out _ _ (HK1.out wc _ HKC.out ((((hsk5.set _ _).set _ _).set _ _).set _ _)) (fun hHeld => ?_)
          clear hK K
          (try simp only [Act.put, List.setIfInBounds_toArray, List.set_cons_zero, List.set_cons_succ])
          refine wpAnyH_done (by kernel_rfl) ?_ _
          clear hHeld
          go_wp2_with fail
          obtain ⟨⟨e0, e1, e2, e3⟩, hk⟩ := HF.out.2.2.1.set (.int .i64 0) (.int .i64 0) .nilFunc (.int .i64 0)
          refine bodyPost_ret (v := noV) ?_ rfl ⟨((Kept.of_below HB.out.2.1).trans HF.out.1).new hk (by omega), rr, VV, cc, HF.out.2.2.2.1, HF.out.2.2.2.2.1, HF.out.2.2.2.2.2, HF.out.2.1.same hk (by omega), .inl ⟨hr, rfl⟩⟩
          simp [results, Tryz.results59, go_sem, noV, e0, e1, e2, e3]
        · have hone := hzi.one
          have hst4 : ∀ (a : Addr) (m : Mode) (W : World), (store a z.fn m).run Tryz.prog W = stored Tryz.prog W a z.fn m := fun a m W => run_storeOne hone
          have HE9 : Hid _ := th_end (Q := Q) (h := z) HF.out.2.2.1 (by omega) hlr ((Kept.of_below HB.out.2.1).trans HF.out.1) HF.out.2.1 hzi (fun x hx => ⟨hx.1, hx.2.1⟩)
          clear hzi hone
          simp only [Th.ag]
          refine hK.out _ _ (HK1.out wc _ HKC.out hsk5) (fun hHeld => ?_)
          clear hK K
          (try simp only [Act.put, List.setIfInBounds_toArray, List.set_cons_zero, List.set_cons_succ])
          refine oneHL (i := 7) rfl (by kernel_rfl) (fun K hK => ?_)
          go_simp
          refine hK.out _ _ (HK1.out wc _ HKC.out ((((hsk5.set _ _).set _ _).set _ _).set _ _)) (fun hHeld => ?_)
          clear hK K
          (try simp only [Act.put, List.setIfInBounds_toArray, List.set_cons_zero, List.set_cons_succ])
          refine wpAnyH_done (by kernel_rfl) ?_ _
          clear hHeld
          go_wp2_with fail
          obtain ⟨⟨e0, e1, e2, e3⟩, hk, hW, hi⟩ := HE9.out
          refine bodyPost_ret (v := z.ag) ?_ rfl ⟨hk, out0, VV, cc, HF.out.2.2.2.1, HF.out.2.2.2.2.1, HF.out.2.2.2.2.2, hW, .inr ⟨rfl, z, rfl, hi, hzv⟩⟩
          simp [results, Tryz.results59, go_sem, Th.ag, e0, e1, e2, e3]
      · have HN1 : Hid (z.val.n ≠ 1) := by
          show _ ≠ _
          rw [HV.out.2]
          exact hn
        have ht1 : (z.n == 1) = false := by simpa using hn
        clear hn
        apply_assumption
        go_upto_region 28 with fail
        clear w0 x0 x1 x2 x3 x4 x5 x6 e0 z0 z1 z2 z3 c0 c1
        have hk0 : Kept R none wc wc.drew := Kept.of_below ((Below.refl _ _).drew)
        have hwl0 : Wl R (F - c') out0 wc.drew := HW.out.below ((Below.refl _ _).drew)
        have hszc := HKC.out.size
        refine wp_region_held_drew (S := fun W => W.cell? ⟨w.heap.size, 0, none⟩ = some (.pointer (some ⟨R, 0, none⟩)) ∧ W.cell? ⟨w.heap.size + 1, 6, none⟩ = some (.slice (some ⟨bx, ox, none⟩) 3 x.c) ∧ W.cell? ⟨bx, ox + 14, none⟩ = some (.int .i64 u2.k) ∧ W.cell? ⟨bx, ox + 15, none⟩ = some (.int .i64 u2.n) ∧ W.cell? ⟨bx, ox + 16, none⟩ = some (.int .i64 u2.t.k) ∧ W.cell? ⟨bx, ox + 17, none⟩ = some (.slice u2.t.a u2.t.l.length u2.t.c) ∧ W.cell? ⟨bx, ox + 18, none⟩ = some (.int .i64 u2.f.k) ∧ W.cell? ⟨bx, ox + 19, none⟩ = some (.slice u2.f.a u2.f.l.length u2.f.c) ∧ W.cell? ⟨bx, ox + 20, none⟩ = some (.slice u2.a u2.l.length u2.c) ∧ W.cell? ⟨w.heap.size + 1 + 1, 0, none⟩ = some (.slice ea E.length ec)) (by kernel_rfl) (HK2.out wc _ HKC.out ((SK.refl _ _ _).kept hk0)) (fun hHeld => ?_)
        refine takeHL (i := 0) (v := ?_) rfl (by kernel_rfl) (by kernel_rfl) (by kernel_rfl) (fun _ _ _ h => h) (Or.inl ⟨by rfl, ?_⟩) hHeld ?_; rotate_left; (focus (intro w' hSw; (try dsimp only at hSw); go_split_ands; first | (go_simp; done) | (go_simp; with_reducible rfl))); simp only [Act.put, List.setIfInBounds_toArray, List.set_cons_zero, List.set_cons_succ]
        refine takeHL (i := 1) (v := ?_) rfl (by kernel_rfl) (by kernel_rfl) (by kernel_rfl) (fun _ _ _ h => h) (Or.inl ⟨by rfl, ?_⟩) hHeld ?_; rotate_left; (focus (intro w' hSw; (try dsimp only at hSw); go_split_ands; first | (go_simp; done) | (go_simp; with_reducible rfl))); simp only [Act.put, List.setIfInBounds_toArray, List.set_cons_zero, List.set_cons_succ]
        refine takeHL (i := 2) (v := ?_) rfl (by kernel_rfl) (by kernel_rfl) (by kernel_rfl) (fun _ _ _ h => h) (Or.inl ⟨by rfl, ?_⟩) hHeld ?_; rotate_left; (focus (intro w' hSw; (try dsimp only at hSw); go_split_ands; first | (go_simp; done) | (go_simp; with_reducible rfl))); simp only [Act.put, List.setIfInBounds_toArray, List.set_cons_zero, List.set_cons_succ]
        refine takeHL (i := 3) (v := ?_) rfl (by kernel_rfl) (by kernel_rfl) (by kernel_rfl) (fun _ _ _ h => h) (Or.inl ⟨by rfl, ?_⟩) hHeld ?_; rotate_left; (focus (intro w' hSw; (try dsimp only at hSw); go_split_ands; first | (go_simp; done) | (go_simp; with_reducible rfl))); simp only [Act.put, List.setIfInBounds_toArray, List.set_cons_zero, List.set_cons_succ]
        refine takeHL (i := 4) (v := ?_) rfl (by kernel_rfl) (by kernel_rfl) (by kernel_rfl) (fun _ _ _ h => h) (Or.inl ⟨by rfl, ?_⟩) hHeld ?_; rotate_left; (focus (intro w' hSw; (try dsimp only at hSw); go_split_ands; first | (go_simp; done) | (go_simp; with_reducible rfl))); simp only [Act.put, List.setIfInBounds_toArray, List.set_cons_zero, List.set_cons_succ]
        refine takeHL (i := 5) (v := ?_) rfl (by kernel_rfl) (by kernel_rfl) (by kernel_rfl) (fun _ _ _ h => h) (Or.inl ⟨by rfl, ?_⟩) hHeld ?_; rotate_left; (focus (intro w' hSw; (try dsimp only at hSw); go_split_ands; first | (go_simp; done) | (go_simp; with_reducible rfl))); simp only [Act.put, List.setIfInBounds_toArray, List.set_cons_zero, List.set_cons_succ]
        refine oneHL (i := 6) rfl (by kernel_rfl) (fun K hK => ?_)
        go_simp
        refine (HI2.out c' HCC.out.1 HCC.out.2 w.heap.size _ (HKC.out.trans hk0) hwl0 (Nat.le_refl _) (by show _ < wc.heap.size; omega)).mono ?_
        rintro e w5 ⟨hk5, rr, VV, cc, hSS, hcc1, hcc2, hw5, hcase⟩
        have hkF : Kept R none W1 w5 := (HKC.out.trans hk0).trans hk5
        have HF : Hid (Kept R none W1 w5 ∧ Wl R (F - cc) rr w5 ∧ Rb w5 (w.heap.size + 1 + 1 + 1) ∧ EvS m F x.tm (E.map Th.val) i c rr VV cc ∧ c ≤ cc ∧ cc ≤ F) := ⟨hkF, hw5, (HB.out.1.kept hkF hlr).r, HE4.out _ _ _ _ _ HS.out HV.out.1 HN1.out hSS, by have := HCC.out.1; omega, hcc2⟩
        have hsk5 : SK R (w.heap.size + 1 + 1 + 1) wc w5 := (SK.refl _ _ _).kept (hk0.trans hk5)
        obtain ⟨r0, r1, r2, r3, y0, y1, y2, y3⟩ := HF.out.2.2.1
        clear hSS hw5 hk5 HI2
        rcases hcase with ⟨hr, rfl⟩ | ⟨rfl, z, rfl, hzi, hzv⟩
        · simp only [noV]
          refine hK.out _ _ (HK2.out wc _ HKC.out hsk5) (fun hHeld => ?_)
          clear hK K
          (try simp only [Act.put, List.setIfInBounds_toArray, List.set_cons_zero, List.set_cons_succ])
          refine oneHL (i := 7) rfl (by kernel_rfl) (fun K hK => ?_)
          go_simp
          refine hK.out _ _ (HK2.out wc _ HKC.out ((((hsk5.set _ _).set _ _).set _ _).set _ _)) (fun hHeld => ?_)
          clear hK K
          (try simp only [Act.put, List.setIfInBounds_toArray, List.set_cons_zero, List.set_cons_succ])
          refine wpAnyH_done (by kernel_rfl) ?_ _
          clear hHeld
          go_wp2_with fail
          obtain ⟨⟨e0, e1, e2, e3⟩, hk⟩ := HF.out.2.2.1.set (.int .i64 0) (.int .i64 0) .nilFunc (.int .i64 0)
          refine bodyPost_ret (v := noV) ?_ rfl ⟨((Kept.of_below HB.out.2.1).trans HF.out.1).new hk (by omega), rr, VV, cc, HF.out.2.2.2.1, HF.out.2.2.2.2.1, HF.out.2.2.2.2.2, HF.out.2.1.same hk (by omega), .inl ⟨hr, rfl⟩⟩
          simp [results, Tryz.results59, go_sem, noV, e0, e1, e2, e3]
        · have hone := hzi.one
          have hst4 : ∀ (a : Addr) (m : Mode) (W : World), (store a z.fn m).run Tryz.prog W = stored Tryz.prog W a z.fn m := fun a m W => run_storeOne hone
          have HE9 : Hid _ := th_end (Q := Q) (h := z) HF.out.2.2.1 (by omega) hlr ((Kept.of_below HB.out.2.1).trans HF.out.1) HF.out.2.1 hzi (fun x hx => ⟨hx.1, hx.2.1⟩)
          clear hzi hone
          simp only [Th.ag]
          refine hK.out _ _ (HK2.out wc _ HKC.out hsk5) (fun hHeld => ?_)
          clear hK K
          (try simp only [Act.put, List.setIfInBounds_toArray, List.set_cons_zero, List.set_cons_succ])
          refine oneHL (i := 7) rfl (by kernel_rfl) (fun K hK => ?_)
          go_simp
          refine hK.out _ _ (HK2.out wc _ HKC.out ((((hsk5.set _ _).set _ _).set _ _).set _ _)) (fun hHeld => ?_)
          clear hK K
          (try simp only [Act.put, List.setIfInBounds_toArray, List.set_cons_zero, List.set_cons_succ])
          refine wpAnyH_done (by kernel_rfl) ?_ _
          clear hHeld
          go_wp2_with fail
          obtain ⟨⟨e0, e1, e2, e3⟩, hk, hW, hi⟩ := HE9.out
          refine bodyPost_ret (v := z.ag) ?_ rfl ⟨hk, out0, VV, cc, HF.out.2.2.2.1, HF.out.2.2.2.2.1, HF.out.2.2.2.2.2, hW, .inr ⟨rfl, z, rfl, hi, hzv⟩⟩
          simp [results, Tryz.results59, go_sem, Th.ag, e0, e1, e2, e3]
end Go.Proofs.YtnddkmccagiclabGreatDoor
