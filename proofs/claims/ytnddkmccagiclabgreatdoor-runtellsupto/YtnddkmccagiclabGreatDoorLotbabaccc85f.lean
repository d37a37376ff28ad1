/-
  What ref's eval answers at a sum, at a comparison and at a call.
-/
import Derived.Test.YtnddkmccagiclabGreatDoorLot903dfa2b37
import Derived.Test.YtnddkmccagiclabGreatDoorLotd0b6ed7d0d
import Derived.Test.YtnddkmccagiclabGreatDoorLot82e100e00f
import Derived.Test.YtnddkmccagiclabGreatDoorLotfef4768764
import Derived.Test.YtnddkmccagiclabGreatDoorLot2ebbd2cd4c
namespace Go.Proofs.YtnddkmccagiclabGreatDoor
open Go.RowKit
theorem Th.In.nums {m : Bool} {M R : Nat} {Q : Nat → Prop} {w : World} {h : Th} (hi : h.In m M R Q w) (h1 : h.k = 1) : -1000000 ≤ h.n ∧ h.n ≤ 1000000 := by
  rcases Th.In_iff.1 hi with ⟨_, p⟩ | ⟨_, c, _⟩ | ⟨_, _, ⟨v, p⟩, _⟩
  · exact p.nb
  · have := c.k; omega
  · have := p.k; omega
theorem Th.In.fns {m : Bool} {M R : Nat} {Q : Nat → Prop} {w : World} {h : Th} (hi : h.In m M R Q w) (h3 : h.k = 3) : ∃ j caps, (j = 95 ∨ j = 131) ∧ h.fn = .func (.func j) #[] caps ∧ (h.wy = 1 ∨ h.wy = 2) := by
  rcases Th.In_iff.1 hi with ⟨_, p⟩ | ⟨h1, c, _⟩ | ⟨h2, _, ⟨v, p⟩, _⟩
  · have := p.k; omega
  · exact ⟨95, _, .inl rfl, c.fn, .inl h1⟩
  · exact ⟨131, _, .inr rfl, p.fn, .inr h2⟩
theorem lit_num (n : Int) (x : TT) (i : Ty) : (litT 1 n x i).val = numV n := by
  unfold Th.val
  rw [if_pos (show (litT 1 n x i).tag = 0 from rfl), Th.cv_eq]
  rfl
theorem lit_truth (n : Int) (x : TT) (i : Ty) : (litT 2 n x i).val = truthV n := by
  unfold Th.val
  rw [if_pos (show (litT 2 n x i).tag = 0 from rfl), Th.cv_eq]
  rfl
theorem lit_ok {m : Bool} {k n : Int} {x : TT} {i : Ty} (h : m = true → (k = 1 ∧ i = numY) ∨ (k = 2 ∧ i = truthY)) : okTh m i (litT k n x i) := fun hm => by
  have e : (litT k n x i).t.ty = i := trOf_ty i
  refine ⟨Th.ok_iff.2 ⟨.inl rfl, .inl ⟨rfl, ?_⟩⟩, e⟩
  rw [e]
  exact h hm
set_option maxRecDepth 20000 in
set_option maxHeartbeats 4000000 in
theorem eval_two (m : Bool) (M R F c : Nat) (Q : Nat → Prop) (x u0 u1 : TT) (E : List Th) (i p0 p1 : Ty) (ea : Option Addr) (ec : Nat) (w : World) (hk : x.k = 4 ∨ x.k = 5 ∨ x.k = 8) (hy : x.l = [u0, u1]) (hx : x.In w) (hxb : x.Bl Q) (hE : Env m M R Q w ea E) (hr : m = true → (x.k = 8 ∧ p0 = funY p1 i) ∨ (x.k = 4 ∧ p0 = numY ∧ p1 = numY ∧ i = numY) ∨ (x.k = 5 ∧ p0 = numY ∧ p1 = numY ∧ i = truthY)) (hw : Wl R (F - c) out0 w) (hQ : ¬ Q R) (nw : ∀ b, w.heap.size ≤ b → Q b) (ih0 : EvC m M R F c u0 E p0 ea ec) (ih1 : ∀ c', c ≤ c' → c' ≤ F → EvC m M R F c' u1 E p1 ea ec) (hdo : ∀ c2, c ≤ c2 → c2 ≤ F → DoAt m M R F c2) :
    Calls Tryz.prog 59 #[.pointer (some ⟨R, 0, none⟩), .agg #[.int .i64 x.k, .int .i64 x.n, .int .i64 x.t.k, .slice x.t.a x.t.l.length x.t.c, .int .i64 x.f.k, .slice x.f.a x.f.l.length x.f.c, .slice x.a x.l.length x.c], .slice ea E.length ec] w (ThPost m M R F c Q w i (EvS m F x.tm (E.map Th.val) i c)) := by
  have hlr := hw.lt
  obtain ⟨W1, hW1⟩ : ∃ W, W = ebW R x ea E.length ec w := ⟨_, rfl⟩
  obtain ⟨hB, hl1, hs1⟩ := eb_start R x ea E.length ec w
  rw [← hW1] at hB hl1 hs1
  have hw1 := hw.below hl1
  have HB : Hid (EB R x ea E.length ec w W1 ∧ Below w.heap.size w W1 ∧ Wl R (F - c) out0 W1) := ⟨hB, hl1, hw1⟩
  have hxl : x.l.length = 2 := by rw [hy]; rfl
  obtain ⟨bx, ox, hxa⟩ : ∃ bx ox, x.a = some ⟨bx, ox, none⟩ := by
    obtain ⟨b, o, e, _⟩ := hx.part 0 (by omega)
    exact ⟨b, o, e⟩
  have hbx : Q bx := hxb.own (by rw [hy]; simp) _ hxa
  have hsm : ∀ W, Kept R none W1 W → Same Q w W := fun W hk b hb hq => by
    have hs := hl1.size
    rw [hk.block b (by omega) (fun e => hQ (e ▸ hq)) (by simp)]
    exact hl1.block b hb
  have hsz1 : w.heap.size + 1 + 1 + 1 + 1 ≤ W1.heap.size := by omega
  obtain ⟨h7u0, hiu0⟩ : At7 w bx (ox) u0 ∧ u0.In w := by
    obtain ⟨b', o', e', h7, hi⟩ := hx.part 0 (by omega)
    rw [hxa] at e'
    obtain ⟨rfl, rfl⟩ : bx = b' ∧ ox = o' := by simpa using e'
    exact ⟨by simpa [hy] using h7, by simpa [hy] using hi⟩
  have hbu0 : u0.Bl Q := hxb.mem (by rw [hy]; simp)
  obtain ⟨h7u1, hiu1⟩ : At7 w bx (ox + 7) u1 ∧ u1.In w := by
    obtain ⟨b', o', e', h7, hi⟩ := hx.part 1 (by omega)
    rw [hxa] at e'
    obtain ⟨rfl, rfl⟩ : bx = b' ∧ ox = o' := by simpa using e'
    exact ⟨by simpa [hy] using h7, by simpa [hy] using hi⟩
  have hbu1 : u1.Bl Q := hxb.mem (by rw [hy]; simp)
  have HK : Hid (∀ W, Kept R none W1 W → W.cell? ⟨w.heap.size, 0, none⟩ = some (.pointer (some ⟨R, 0, none⟩)) ∧ W.cell? ⟨w.heap.size + 1, 6, none⟩ = some (.slice (some ⟨bx, ox, none⟩) 2 x.c) ∧ W.cell? ⟨bx, ox, none⟩ = some (.int .i64 u0.k) ∧ W.cell? ⟨bx, ox + 1, none⟩ = some (.int .i64 u0.n) ∧ W.cell? ⟨bx, ox + 2, none⟩ = some (.int .i64 u0.t.k) ∧ W.cell? ⟨bx, ox + 3, none⟩ = some (.slice u0.t.a u0.t.l.length u0.t.c) ∧ W.cell? ⟨bx, ox + 4, none⟩ = some (.int .i64 u0.f.k) ∧ W.cell? ⟨bx, ox + 5, none⟩ = some (.slice u0.f.a u0.f.l.length u0.f.c) ∧ W.cell? ⟨bx, ox + 6, none⟩ = some (.slice u0.a u0.l.length u0.c) ∧ W.cell? ⟨w.heap.size + 1 + 1, 0, none⟩ = some (.slice ea E.length ec)) := fun W hk => by
    have hcl : ∀ b i u, w.cell? ⟨b, i, none⟩ = some u → Q b → W.cell? ⟨b, i, none⟩ = some u := fun b i u e hb => (hsm W hk).cell e hb
    have hc6 := hB.x7.c6
    rw [hxa, hxl] at hc6
    exact ⟨hk.cell hB.w0 (by omega), hk.cell hc6 (by omega), hcl _ _ _ h7u0.c0 hbx, hcl _ _ _ h7u0.c1 hbx, hcl _ _ _ h7u0.c2 hbx, hcl _ _ _ h7u0.c3 hbx, hcl _ _ _ h7u0.c4 hbx, hcl _ _ _ h7u0.c5 hbx, hcl _ _ _ h7u0.c6 hbx, hk.cell hB.e0 (by omega)⟩
  have HK1 : Hid (∀ W, Kept R none W1 W → W.cell? ⟨w.heap.size, 0, none⟩ = some (.pointer (some ⟨R, 0, none⟩)) ∧ W.cell? ⟨w.heap.size + 1, 6, none⟩ = some (.slice (some ⟨bx, ox, none⟩) 2 x.c) ∧ W.cell? ⟨bx, ox + 7, none⟩ = some (.int .i64 u1.k) ∧ W.cell? ⟨bx, ox + 8, none⟩ = some (.int .i64 u1.n) ∧ W.cell? ⟨bx, ox + 9, none⟩ = some (.int .i64 u1.t.k) ∧ W.cell? ⟨bx, ox + 10, none⟩ = some (.slice u1.t.a u1.t.l.length u1.t.c) ∧ W.cell? ⟨bx, ox + 11, none⟩ = some (.int .i64 u1.f.k) ∧ W.cell? ⟨bx, ox + 12, none⟩ = some (.slice u1.f.a u1.f.l.length u1.f.c) ∧ W.cell? ⟨bx, ox + 13, none⟩ = some (.slice u1.a u1.l.length u1.c) ∧ W.cell? ⟨w.heap.size + 1 + 1, 0, none⟩ = some (.slice ea E.length ec)) := fun W hk => by
    have hcl : ∀ b i u, w.cell? ⟨b, i, none⟩ = some u → Q b → W.cell? ⟨b, i, none⟩ = some u := fun b i u e hb => (hsm W hk).cell e hb
    have hc6 := hB.x7.c6
    rw [hxa, hxl] at hc6
    exact ⟨hk.cell hB.w0 (by omega), hk.cell hc6 (by omega), hcl _ _ _ h7u1.c0 hbx, hcl _ _ _ h7u1.c1 hbx, hcl _ _ _ h7u1.c2 hbx, hcl _ _ _ h7u1.c3 hbx, hcl _ _ _ h7u1.c4 hbx, hcl _ _ _ h7u1.c5 hbx, hcl _ _ _ h7u1.c6 hbx, hk.cell hB.e0 (by omega)⟩
  have HI : Hid (∀ (z : Nat) (W : World), Kept R none W1 W → Wl R (F - c) out0 W → w.heap.size ≤ z → z < W.heap.size → Calls Tryz.prog 59 #[.pointer (some ⟨R, 0, none⟩), .agg #[.int .i64 u0.k, .int .i64 u0.n, .int .i64 u0.t.k, .slice u0.t.a u0.t.l.length u0.t.c, .int .i64 u0.f.k, .slice u0.f.a u0.f.l.length u0.f.c, .slice u0.a u0.l.length u0.c], .slice ea E.length ec] W (ThPost m M R F c (fun b => Q b ∧ b ≠ w.heap.size + 1 + 1 + 1 ∧ b ≠ z) W p0 (EvS m F u0.tm (E.map Th.val) p0 c))) := fun z W hk hwl hz1 hz2 => by
    have hsz := hk.size
    exact ih0 (fun b => Q b ∧ b ≠ w.heap.size + 1 + 1 + 1 ∧ b ≠ z) W (hiu0.same (hsm W hk) hbu0) ((hbu0.and hiu0.bl).mono fun b hb => ⟨hb.1, by omega, by omega⟩) ((hE.mono (Q' := (fun b => Q b ∧ b ≠ w.heap.size + 1 + 1 + 1 ∧ b ≠ z)) fun x h1 h2 => ⟨h2, by omega, by omega⟩).same fun b h1 h2 => hsm W hk b h1 h2.1) hwl (fun hx => hQ hx.1) (fun b hb => ⟨nw b (by omega), by omega, by omega⟩)
  have HI1 : Hid (∀ (c' : Nat) (h1 : c ≤ c') (h2 : c' ≤ F) (z : Nat) (W : World), Kept R none W1 W → Wl R (F - c') out0 W → w.heap.size ≤ z → z < W.heap.size → Calls Tryz.prog 59 #[.pointer (some ⟨R, 0, none⟩), .agg #[.int .i64 u1.k, .int .i64 u1.n, .int .i64 u1.t.k, .slice u1.t.a u1.t.l.length u1.t.c, .int .i64 u1.f.k, .slice u1.f.a u1.f.l.length u1.f.c, .slice u1.a u1.l.length u1.c], .slice ea E.length ec] W (ThPost m M R F c' (fun b => Q b ∧ b ≠ w.heap.size + 1 + 1 + 1 ∧ b ≠ z) W p1 (EvS m F u1.tm (E.map Th.val) p1 c'))) := fun c' h1 h2 z W hk hwl hz1 hz2 => by
    have hsz := hk.size
    exact ih1 c' h1 h2 (fun b => Q b ∧ b ≠ w.heap.size + 1 + 1 + 1 ∧ b ≠ z) W (hiu1.same (hsm W hk) hbu1) ((hbu1.and hiu1.bl).mono fun b hb => ⟨hb.1, by omega, by omega⟩) ((hE.mono (Q' := (fun b => Q b ∧ b ≠ w.heap.size + 1 + 1 + 1 ∧ b ≠ z)) fun x h1 h2 => ⟨h2, by omega, by omega⟩).same fun b h1 h2 => hsm W hk b h1 h2.1) hwl (fun hx => hQ hx.1) (fun b hb => ⟨nw b (by omega), by omega, by omega⟩)
  have he0 : x.tm.at 0 = u0.tm := by rw [Tm.at, TT.tm_l, hy]; rfl
  have he1 : x.tm.at 1 = u1.tm := by rw [Tm.at, TT.tm_l, hy]; rfl
  have hkt : x.tm.k = 4 ∨ x.tm.k = 5 ∨ x.tm.k = 8 := by rw [TT.tm_k]; exact hk
  have HE1 : Hid (∀ r V c', EvS m F u0.tm (E.map Th.val) p0 c r V c' → r.k ≠ 0 → EvS m F x.tm (E.map Th.val) i c r V c') := fun r V c' h hr => ⟨ev_both1 hkt (by rw [he0]; exact h.1) hr, fun _ h0 => absurd h0 hr⟩
  have HE2 : Hid (∀ V c' r2 V2 c2, EvS m F u0.tm (E.map Th.val) p0 c out0 V c' → EvS m F u1.tm (E.map Th.val) p1 c' r2 V2 c2 → r2.k ≠ 0 → EvS m F x.tm (E.map Th.val) i c r2 V2 c2) := fun V c' r2 V2 c2 h h2 hr => ⟨ev_both2 hkt (by rw [he0]; exact h.1) rfl (by rw [he1]; exact h2.1) hr, fun _ h0 => absurd h0 hr⟩
  have HE3 : Hid (∀ V c' V2 c2 V3, EvS m F u0.tm (E.map Th.val) p0 c out0 V c' → EvS m F u1.tm (E.map Th.val) p1 c' out0 V2 c2 → (x.k = 4 ∨ x.k = 5) → ¬ (V.k = 1 ∧ V2.k = 1) → EvS m F x.tm (E.map Th.val) i c stuckO V3 c2) := fun V c' V2 c2 V3 h h2 h45 hv => by
    refine ⟨?_, fun _ h0 => by cases h0⟩
    rcases h45 with h4 | h5
    · have := ev_add (x := x.tm) (by rw [TT.tm_k]; exact h4) (by rw [he0]; exact h.1) rfl (by rw [he1]; exact h2.1) rfl
      rw [if_neg hv] at this
      exact fun ts vs => ⟨fun h0 => (by cases h0), (this ts vs).bad⟩
    · have := ev_less (x := x.tm) (by rw [TT.tm_k]; exact h5) (by rw [he0]; exact h.1) rfl (by rw [he1]; exact h2.1) rfl
      rw [if_neg hv] at this
      exact fun ts vs => ⟨fun h0 => (by cases h0), (this ts vs).bad⟩
  have HE4 : Hid (∀ a b c' c2, EvS m F u0.tm (E.map Th.val) p0 c out0 (numV a) c' → EvS m F u1.tm (E.map Th.val) p1 c' out0 (numV b) c2 → x.k = 4 → EvS m F x.tm (E.map Th.val) i c out0 (numV (clampI (a + b))) c2) := fun a b c' c2 h h2 h4 => by
    have h3 := ev_add (x := x.tm) (by rw [TT.tm_k]; exact h4) (by rw [he0]; exact h.1) rfl (by rw [he1]; exact h2.1) rfl
    rw [if_pos ⟨rfl, rfl⟩] at h3
    refine ⟨h3, fun hm _ => ?_⟩
    rcases hr hm with ⟨h', _⟩ | ⟨_, _, _, e⟩ | ⟨h', _⟩
    · omega
    · rw [e]; exact tyV_mkNum _
    · omega
  have HE5 : Hid (∀ a b c' c2, EvS m F u0.tm (E.map Th.val) p0 c out0 (numV a) c' → EvS m F u1.tm (E.map Th.val) p1 c' out0 (numV b) c2 → x.k = 5 → EvS m F x.tm (E.map Th.val) i c out0 (truthV (if a < b then 1 else 0)) c2) := fun a b c' c2 h h2 h5 => by
    have h3 := ev_less (x := x.tm) (by rw [TT.tm_k]; exact h5) (by rw [he0]; exact h.1) rfl (by rw [he1]; exact h2.1) rfl
    rw [if_pos ⟨rfl, rfl⟩] at h3
    refine ⟨h3, fun hm _ => ?_⟩
    rcases hr hm with ⟨h', _⟩ | ⟨h', _⟩ | ⟨_, _, _, e⟩
    · omega
    · omega
    · rw [e]; exact tyV_mkTruth _
  have HE6 : Hid (∀ V c' V2 c2 V3, EvS m F u0.tm (E.map Th.val) p0 c out0 V c' → EvS m F u1.tm (E.map Th.val) p1 c' out0 V2 c2 → x.k = 8 → V.k ≠ 3 → V.k ≠ 4 → EvS m F x.tm (E.map Th.val) i c stuckO V3 c2) := fun V c' V2 c2 V3 h h2 h8 h3 h4 => ⟨ev_call (x := x.tm) (by rw [TT.tm_k]; exact h8) (by rw [he0]; exact h.1) rfl (by rw [he1]; exact h2.1) rfl (ap_not h3 h4), fun _ h0 => by cases h0⟩
  have HE7 : Hid (∀ V c' V2 c2 r3 V3 c3, EvS m F u0.tm (E.map Th.val) p0 c out0 V c' → EvS m F u1.tm (E.map Th.val) p1 c' out0 V2 c2 → x.k = 8 → DoS m F V V2 i c2 r3 V3 c3 → EvS m F x.tm (E.map Th.val) i c r3 V3 c3) := fun V c' V2 c2 r3 V3 c3 h h2 h8 hd => by
    have h3 : ApR F V V2 c2 r3 V3 c3 ∧ (m = true → r3.k = 0 → tyV V3 i) := by
      rcases hd with ⟨_, ha, ht⟩ | ⟨hm, ha⟩
      · exact ⟨ap_of ha, fun _ => ht⟩
      · exact ⟨ha, fun h => by rw [hm] at h; cases h⟩
    exact ⟨ev_call (x := x.tm) (by rw [TT.tm_k]; exact h8) (by rw [he0]; exact h.1) rfl (by rw [he1]; exact h2.1) rfl h3.1, h3.2⟩
  have HR : Hid (m = true → (x.k = 8 ∧ p0 = funY p1 i) ∨ (x.k = 4 ∧ p0 = numY ∧ p1 = numY ∧ i = numY) ∨ (x.k = 5 ∧ p0 = numY ∧ p1 = numY ∧ i = truthY)) := hr
  have HDO : Hid (∀ c2, c ≤ c2 → c2 ≤ F → DoAt m M R F c2) := hdo
  have HQ : Hid (¬ Q R ∧ (∀ b, w.heap.size ≤ b → Q b)) := ⟨hQ, nw⟩
  have i0 : (0 : Int) < ((2 : Nat) : Int) := by omega
  have i1 : (1 : Int) < ((2 : Nat) : Int) := by omega
  have k1 : (x.k == 1) = false := by simp; omega
  have k2 : (x.k == 2) = false := by simp; omega
  have k3 : (x.k == 3) = false := by simp; omega
  have k6 : (x.k == 6) = false := by simp; omega
  have k7 : (x.k == 7) = false := by simp; omega
  have k9 : (x.k == 9) = false := by simp; omega
  have k10 : (x.k == 10) = false := by simp; omega
  obtain ⟨c0, c1, _, _, _, _, _, _⟩ := hw1
  replace c1 : W1.cell? ⟨R, 1, none⟩ = some (.int .i64 0) := c1
  obtain ⟨w0, ⟨x0, x1, x2, x3, x4, x5, x6⟩, e0, ⟨r0, r1, r2, r3, y0, y1, y2, y3⟩⟩ := hB
  simp only [Nat.zero_add] at x1 x2 x3 x4 x5 x6
  have hk0 : Kept R none W1 W1.drew := Kept.of_below ((Below.refl _ _).drew)
  have hwl0 : Wl R (F - c) out0 W1.drew := HB.out.2.2.below ((Below.refl _ _).drew)
  have HKX : Hid (x.k = 4 ∨ x.k = 5 ∨ x.k = 8) := hk
  clear hk hx hxb hE hw nw hl1 hs1 hsm h7u0 hiu0 hbu0 h7u1 hiu1 hbu1 hxl hxa hbx hy hQ ih0 ih1 he0 he1 hkt hr hdo
  go_enter Tryz.func59, Tryz.ntmps59
  go_upto_region 1 with fail
  unfold ebW at hW1
  rw [← hW1]
  clear hW1
  go_upto_region 20 with fail
  clear x0 x1 x2 x3 x4 x5 x6 e0 r0 r1 r2 r3 y0 y1 y2 y3 c0 c1 w0
  go_cut [8] (fun ts wx => ∃ bs : Nat, ts = .pointer (some ⟨bs, 0, none⟩) ∧ Hid (PartP m M R F c Q w W1 u0 E p0 bs wx))
  case first =>
    refine wp_region_held_drew (S := fun W => W.cell? ⟨w.heap.size, 0, none⟩ = some (.pointer (some ⟨R, 0, none⟩)) ∧ W.cell? ⟨w.heap.size + 1, 6, none⟩ = some (.slice (some ⟨bx, ox, none⟩) 2 x.c) ∧ W.cell? ⟨bx, ox, none⟩ = some (.int .i64 u0.k) ∧ W.cell? ⟨bx, ox + 1, none⟩ = some (.int .i64 u0.n) ∧ W.cell? ⟨bx, ox + 2, none⟩ = some (.int .i64 u0.t.k) ∧ W.cell? ⟨bx, ox + 3, none⟩ = some (.slice u0.t.a u0.t.l.length u0.t.c) ∧ W.cell? ⟨bx, ox + 4, none⟩ = some (.int .i64 u0.f.k) ∧ W.cell? ⟨bx, ox + 5, none⟩ = some (.slice u0.f.a u0.f.l.length u0.f.c) ∧ W.cell? ⟨bx, ox + 6, none⟩ = some (.slice u0.a u0.l.length u0.c) ∧ W.cell? ⟨w.heap.size + 1 + 1, 0, none⟩ = some (.slice ea E.length ec)) (by kernel_rfl) (HK.out _ hk0) (fun hHeld => ?_)
    refine takeHL (i := 0) (v := ?_) rfl (by kernel_rfl) (by kernel_rfl) (by kernel_rfl) (fun _ _ _ h => h) (Or.inl ⟨by rfl, ?_⟩) hHeld ?_; rotate_left; (focus (intro w' hSw; (try dsimp only at hSw); go_split_ands; first | (go_simp; done) | (go_simp; with_reducible rfl))); simp only [Act.put, List.setIfInBounds_toArray, List.set_cons_zero, List.set_cons_succ]
    refine takeHL (i := 1) (v := ?_) rfl (by kernel_rfl) (by kernel_rfl) (by kernel_rfl) (fun _ _ _ h => h) (Or.inl ⟨by rfl, ?_⟩) hHeld ?_; rotate_left; (focus (intro w' hSw; (try dsimp only at hSw); go_split_ands; first | (go_simp; done) | (go_simp; with_reducible rfl))); simp only [Act.put, List.setIfInBounds_toArray, List.set_cons_zero, List.set_cons_succ]
    refine takeHL (i := 2) (v := ?_) rfl (by kernel_rfl) (by kernel_rfl) (by kernel_rfl) (fun _ _ _ h => h) (Or.inl ⟨by rfl, ?_⟩) hHeld ?_; rotate_left; (focus (intro w' hSw; (try dsimp only at hSw); go_split_ands; first | (go_simp; done) | (go_simp; with_reducible rfl))); simp only [Act.put, List.setIfInBounds_toArray, List.set_cons_zero, List.set_cons_succ]
    refine takeHL (i := 3) (v := ?_) rfl (by kernel_rfl) (by kernel_rfl) (by kernel_rfl) (fun _ _ _ h => h) (Or.inl ⟨by rfl, ?_⟩) hHeld ?_; rotate_left; (focus (intro w' hSw; (try dsimp only at hSw); go_split_ands; first | (go_simp; done) | (go_simp; with_reducible rfl))); simp only [Act.put, List.setIfInBounds_toArray, List.set_cons_zero, List.set_cons_succ]
    refine takeHL (i := 4) (v := ?_) rfl (by kernel_rfl) (by kernel_rfl) (by kernel_rfl) (fun _ _ _ h => h) (Or.inl ⟨by rfl, ?_⟩) hHeld ?_; rotate_left; (focus (intro w' hSw; (try dsimp only at hSw); go_split_ands; first | (go_simp; done) | (go_simp; with_reducible rfl))); simp only [Act.put, List.setIfInBounds_toArray, List.set_cons_zero, List.set_cons_succ]
    refine takeHL (i := 5) (v := ?_) rfl (by kernel_rfl) (by kernel_rfl) (by kernel_rfl) (fun _ _ _ h => h) (Or.inl ⟨by rfl, ?_⟩) hHeld ?_; rotate_left; (focus (intro w' hSw; (try dsimp only at hSw); go_split_ands; first | (go_simp; done) | (go_simp; with_reducible rfl))); simp only [Act.put, List.setIfInBounds_toArray, List.set_cons_zero, List.set_cons_succ]
    refine twoHL (i := 6) (j := 7) rfl rfl (by kernel_rfl) (fun K hK => ?_) (fun K hK => ?_)
    · go_simp
      refine (HI.out w.heap.size _ hk0 hwl0 (Nat.le_refl _) (by show _ < W1.heap.size; omega)).mono ?_
      rintro e w2 ⟨h2, rr, VV, cc, hSS, hcc1, hcc2, hw2, hcase⟩
      have hk2 : Kept R none W1 w2 := hk0.trans h2
      have hsz2 := hk2.size
      rcases hcase with ⟨hr, rfl⟩ | ⟨rfl, z, rfl, hzi, hzv⟩
      · have hbV : Below w2.heap.size w2 (w2.alloc (.cells #[.int .i64 0, .int .i64 0, .nilFunc, .int .i64 0] 103)) := (Below.refl _ _).alloc (Nat.le_refl _) _
        have HN : Hid (PartP m M R F c Q w W1 u0 E p0 w2.heap.size (w2.alloc (.cells #[.int .i64 0, .int .i64 0, .nilFunc, .int .i64 0] 103))) := ⟨by omega, hk2.trans (Kept.of_below hbV), rr, VV, cc, hSS, hcc1, hcc2, hw2.below hbV, .inl hr⟩
        clear hr hSS
        simp only [noV]
        refine hK.out _ _ (HK.out _ hk2) (fun hHeld => ?_)
        clear hK K
        (try simp only [Act.put, List.setIfInBounds_toArray, List.set_cons_zero, List.set_cons_succ])
        refine oneHL (i := 7) rfl (by kernel_rfl) (fun K hK => ?_)
        go_simp
        refine hK.out _ _ (HK.out _ (hk2.trans (Kept.of_below ((Below.refl _ _).alloc (Nat.le_refl _) _)))) (fun hHeld => ?_)
        clear hK K
        (try simp only [Act.put, List.setIfInBounds_toArray, List.set_cons_zero, List.set_cons_succ])
        refine oneHL (i := 8) rfl (by kernel_rfl) (fun K hK => ?_)
        go_simp
        refine hK.out _ _ (HK.out _ (hk2.trans (Kept.of_below hbV))) (fun hHeld => ?_)
        clear hK K
        (try simp only [Act.put, List.setIfInBounds_toArray, List.set_cons_zero, List.set_cons_succ])
        refine wpAnyH_done (by kernel_rfl) ?_ _
        clear hHeld hcc1 hcc2 hw2
        go_wp2_with fail
        go_meet
        case rel => exact ⟨_, rfl, HN⟩
      · have hone := hzi.one
        have hst4 : ∀ (a : Addr) (m : Mode) (W : World), (store a z.fn m).run Tryz.prog W = stored Tryz.prog W a z.fn m := fun a m W => run_storeOne hone
        have hbV : Below w2.heap.size w2 (w2.alloc (.cells #[.int .i64 z.k, .int .i64 z.n, z.fn, .int .i64 z.tag] 103)) := (Below.refl _ _).alloc (Nat.le_refl _) _
        have HN : Hid (PartP m M R F c Q w W1 u0 E p0 w2.heap.size (w2.alloc (.cells #[.int .i64 z.k, .int .i64 z.n, z.fn, .int .i64 z.tag] 103))) := ⟨by omega, hk2.trans (Kept.of_below hbV), out0, VV, cc, hSS, hcc1, hcc2, hw2.below hbV, .inr ⟨rfl, z, ⟨by simp [go_sem], by simp [go_sem], by simp [go_sem], by simp [go_sem]⟩, (hzi.same (Same.of_below hbV)).mono (fun x _ hx => ⟨hx.1, hx.2.1⟩), hzv⟩⟩
        clear hSS hzi hzv hone
        simp only [Th.ag]
        refine hK.out _ _ (HK.out _ hk2) (fun hHeld => ?_)
        clear hK K
        (try simp only [Act.put, List.setIfInBounds_toArray, List.set_cons_zero, List.set_cons_succ])
        refine oneHL (i := 7) rfl (by kernel_rfl) (fun K hK => ?_)
        go_simp
        refine hK.out _ _ (HK.out _ (hk2.trans (Kept.of_below ((Below.refl _ _).alloc (Nat.le_refl _) _)))) (fun hHeld => ?_)
        clear hK K
        (try simp only [Act.put, List.setIfInBounds_toArray, List.set_cons_zero, List.set_cons_succ])
        refine oneHL (i := 8) rfl (by kernel_rfl) (fun K hK => ?_)
        go_simp
        refine hK.out _ _ (HK.out _ (hk2.trans (Kept.of_below hbV))) (fun hHeld => ?_)
        clear hK K
        (try simp only [Act.put, List.setIfInBounds_toArray, List.set_cons_zero, List.set_cons_succ])
        refine wpAnyH_done (by kernel_rfl) ?_ _
        clear hHeld hcc1 hcc2 hw2
        go_wp2_with fail
        go_meet
        case rel => exact ⟨_, rfl, HN⟩
    · go_simp
      have hk3 : Kept R none W1 (W1.alloc (.cells #[.int .i64 0, .int .i64 0, .nilFunc, .int .i64 0] 103)).drew := Kept.of_below (((Below.refl _ _).alloc (Nat.le_refl _) _).drew)
      refine hK.out _ _ (HK.out _ hk3) (fun hHeld => ?_)
      clear hK K
      (try simp only [Act.put, List.setIfInBounds_toArray, List.set_cons_zero, List.set_cons_succ])
      refine oneHL (i := 6) rfl (by kernel_rfl) (fun K hK => ?_)
      go_simp
      refine (HI.out W1.heap.size _ hk3 (HB.out.2.2.below (((Below.refl _ _).alloc (Nat.le_refl _) _).drew)) (by omega) (by show _ < (W1.alloc (.cells #[.int .i64 0, .int .i64 0, .nilFunc, .int .i64 0] 103)).heap.size; simp)).mono ?_
      rintro e w2 ⟨h2, rr, VV, cc, hSS, hcc1, hcc2, hw2, hcase⟩
      have hk2 : Kept R none W1 w2 := hk3.trans h2
      have q9 : Rb w2 W1.heap.size := ((Rb.new W1).below ((Below.refl _ _).drew)).kept h2 (by omega)
      rcases hcase with ⟨hr, rfl⟩ | ⟨rfl, z, rfl, hzi, hzv⟩
      · obtain ⟨⟨g0, g1, g2, g3⟩, hk9⟩ := q9.set (.int .i64 0) (.int .i64 0) .nilFunc (.int .i64 0)
        have HN : Hid (PartP m M R F c Q w W1 u0 E p0 W1.heap.size ((((w2.setCell ⟨W1.heap.size, 0, none⟩ (.int .i64 0)).setCell ⟨W1.heap.size, 1, none⟩ (.int .i64 0)).setCell ⟨W1.heap.size, 2, none⟩ .nilFunc).setCell ⟨W1.heap.size, 3, none⟩ (.int .i64 0))) := ⟨by omega, hk2.new hk9 (Nat.le_refl _), rr, VV, cc, hSS, hcc1, hcc2, hw2.same hk9 (by omega), .inl hr⟩
        have hkV := hk2.new hk9 (Nat.le_refl _)
        clear hr hSS
        simp only [noV]
        obtain ⟨p0, p1, p2, p3, x0, x1, x2, x3⟩ := q9
        clear g0 g1 g2 g3 hk9
        refine hK.out _ _ (HK.out _ hk2) (fun hHeld => ?_)
        clear hK K
        (try simp only [Act.put, List.setIfInBounds_toArray, List.set_cons_zero, List.set_cons_succ])
        refine oneHL (i := 8) rfl (by kernel_rfl) (fun K hK => ?_)
        go_simp
        refine hK.out _ _ (HK.out _ hkV) (fun hHeld => ?_)
        clear hK K
        (try simp only [Act.put, List.setIfInBounds_toArray, List.set_cons_zero, List.set_cons_succ])
        refine wpAnyH_done (by kernel_rfl) ?_ _
        obtain ⟨V9, hV9⟩ : ∃ V9, V9 = (((w2.setCell ⟨W1.heap.size, 0, none⟩ (.int .i64 0)).setCell ⟨W1.heap.size, 1, none⟩ (.int .i64 0)).setCell ⟨W1.heap.size, 2, none⟩ .nilFunc).setCell ⟨W1.heap.size, 3, none⟩ (.int .i64 0) := ⟨_, rfl⟩
        rw [← hV9] at HN
        rw [← hV9]
        clear hV9 hHeld hkV p0 p1 p2 p3 x0 x1 x2 x3 hw2 hk2 h2 hcc1 hcc2
        go_wp2_with fail
        go_meet
        case rel => exact ⟨_, rfl, HN⟩
      · have hone := hzi.one
        have hst4 : ∀ (a : Addr) (m : Mode) (W : World), (store a z.fn m).run Tryz.prog W = stored Tryz.prog W a z.fn m := fun a m W => run_storeOne hone
        obtain ⟨⟨g0, g1, g2, g3⟩, hk9⟩ := q9.set (.int .i64 z.k) (.int .i64 z.n) z.fn (.int .i64 z.tag)
        have HN : Hid (PartP m M R F c Q w W1 u0 E p0 W1.heap.size ((((w2.setCell ⟨W1.heap.size, 0, none⟩ (.int .i64 z.k)).setCell ⟨W1.heap.size, 1, none⟩ (.int .i64 z.n)).setCell ⟨W1.heap.size, 2, none⟩ z.fn).setCell ⟨W1.heap.size, 3, none⟩ (.int .i64 z.tag))) := ⟨by omega, hk2.new hk9 (Nat.le_refl _), out0, VV, cc, hSS, hcc1, hcc2, hw2.same hk9 (by omega), .inr ⟨rfl, z, ⟨g0, g1, g2, g3⟩, (hzi.same (Same.of_kept hk9 fun hx => hx.2.2 rfl)).mono (fun x _ hx => ⟨hx.1, hx.2.1⟩), hzv⟩⟩
        have hkV := hk2.new hk9 (Nat.le_refl _)
        clear hSS hzi hzv hone
        simp only [Th.ag]
        obtain ⟨p0, p1, p2, p3, x0, x1, x2, x3⟩ := q9
        clear g0 g1 g2 g3 hk9
        refine hK.out _ _ (HK.out _ hk2) (fun hHeld => ?_)
        clear hK K
        (try simp only [Act.put, List.setIfInBounds_toArray, List.set_cons_zero, List.set_cons_succ])
        refine oneHL (i := 8) rfl (by kernel_rfl) (fun K hK => ?_)
        go_simp
        refine hK.out _ _ (HK.out _ hkV) (fun hHeld => ?_)
        clear hK K
        (try simp only [Act.put, List.setIfInBounds_toArray, List.set_cons_zero, List.set_cons_succ])
        refine wpAnyH_done (by kernel_rfl) ?_ _
        obtain ⟨V9, hV9⟩ : ∃ V9, V9 = (((w2.setCell ⟨W1.heap.size, 0, none⟩ (.int .i64 z.k)).setCell ⟨W1.heap.size, 1, none⟩ (.int .i64 z.n)).setCell ⟨W1.heap.size, 2, none⟩ z.fn).setCell ⟨W1.heap.size, 3, none⟩ (.int .i64 z.tag) := ⟨_, rfl⟩
        rw [← hV9] at HN
        rw [← hV9]
        clear hV9 hHeld hkV p0 p1 p2 p3 x0 x1 x2 x3 hw2 hk2 h2 hcc1 hcc2
        go_wp2_with fail
        go_meet
        case rel => exact ⟨_, rfl, HN⟩
  case rest =>
  obtain ⟨b8, rfl, HP⟩ := hcut
  obtain ⟨W2, hW2⟩ : ∃ W2, W2 = wc := ⟨_, rfl⟩
  subst hW2
  obtain ⟨lb8, hkc, r, V, c', hS, hc1, hc2, hwc, hcase⟩ := HP.out
  clear HP HI hk0 hwl0 HK
  have hEB := HB.out.1.kept hkc hlr
  obtain ⟨w0, ⟨x0, x1, x2, x3, x4, x5, x6⟩, e0, hrb⟩ := hEB
  simp only [Nat.zero_add] at x1 x2 x3 x4 x5 x6
  have hnR : b8 ≠ R := by omega
  rcases hcase with hr | ⟨rfl, a, ha4, hai, hav, hao⟩
  · have hgk : (r.k != 0) = true := by simpa using hr
    have HF : Hid (Kept R none W1 W2 ∧ Wl R (F - c') r W2 ∧ Rb W2 (w.heap.size + 1 + 1 + 1) ∧ EvS m F x.tm (E.map Th.val) i c r V c' ∧ c ≤ c' ∧ c' ≤ F ∧ r.k ≠ 0) := ⟨hkc, hwc, hrb, HE1.out _ _ _ hS hr, hc1, hc2, hr⟩
    obtain ⟨c0, c1, _, _, _, _, _, _⟩ := hwc
    obtain ⟨r0, r1, r2, r3, y0, y1, y2, y3⟩ := hrb
    clear hkc hS hr hc1 hc2
    apply_assumption
    go_wp2_with fail
    obtain ⟨⟨e0, e1, e2, e3⟩, hk⟩ := HF.out.2.2.1.set (.int .i64 0) (.int .i64 0) .nilFunc (.int .i64 0)
    refine bodyPost_ret (v := noV) ?_ rfl ⟨((Kept.of_below HB.out.2.1).trans HF.out.1).new hk (by omega), r, V, c', HF.out.2.2.2.1, HF.out.2.2.2.2.1, HF.out.2.2.2.2.2.1, HF.out.2.1.same hk (by omega), .inl ⟨HF.out.2.2.2.2.2.2, rfl⟩⟩
    simp [results, Tryz.results59, go_sem, noV, e0, e1, e2, e3]
  · have HWL : Hid (Wl R (F - c') out0 W2) := hwc
    have HCC : Hid (c ≤ c' ∧ c' ≤ F) := ⟨hc1, hc2⟩
    have HKC2 : Hid (Kept R none W1 W2) := hkc
    have HA : Hid (At4 W2 b8 0 a ∧ a.In m M R (fun x => Q x ∧ x ≠ w.heap.size + 1 + 1 + 1) W2 ∧ EvS m F u0.tm (E.map Th.val) p0 c out0 a.val c' ∧ okTh m p0 a) := ⟨ha4, hai, hav ▸ hS, hao⟩
    have HK2 : Hid (∀ W, Kept R none W2 W → W.cell? ⟨w.heap.size, 0, none⟩ = some (.pointer (some ⟨R, 0, none⟩)) ∧ W.cell? ⟨w.heap.size + 1, 6, none⟩ = some (.slice (some ⟨bx, ox, none⟩) 2 x.c) ∧ W.cell? ⟨bx, ox + 7, none⟩ = some (.int .i64 u1.k) ∧ W.cell? ⟨bx, ox + 8, none⟩ = some (.int .i64 u1.n) ∧ W.cell? ⟨bx, ox + 9, none⟩ = some (.int .i64 u1.t.k) ∧ W.cell? ⟨bx, ox + 10, none⟩ = some (.slice u1.t.a u1.t.l.length u1.t.c) ∧ W.cell? ⟨bx, ox + 11, none⟩ = some (.int .i64 u1.f.k) ∧ W.cell? ⟨bx, ox + 12, none⟩ = some (.slice u1.f.a u1.f.l.length u1.f.c) ∧ W.cell? ⟨bx, ox + 13, none⟩ = some (.slice u1.a u1.l.length u1.c) ∧ W.cell? ⟨w.heap.size + 1 + 1, 0, none⟩ = some (.slice ea E.length ec)) := fun W hk => HK1.out W (HKC2.out.trans hk)
    have HI2 : Hid (∀ (z : Nat) (W : World), Kept R none W2 W → Wl R (F - c') out0 W → w.heap.size ≤ z → z < W.heap.size → Calls Tryz.prog 59 #[.pointer (some ⟨R, 0, none⟩), .agg #[.int .i64 u1.k, .int .i64 u1.n, .int .i64 u1.t.k, .slice u1.t.a u1.t.l.length u1.t.c, .int .i64 u1.f.k, .slice u1.f.a u1.f.l.length u1.f.c, .slice u1.a u1.l.length u1.c], .slice ea E.length ec] W (ThPost m M R F c' (fun b => Q b ∧ b ≠ w.heap.size + 1 + 1 + 1 ∧ b ≠ z) W p1 (EvS m F u1.tm (E.map Th.val) p1 c'))) := fun z W hk => HI1.out c' HCC.out.1 HCC.out.2 z W (HKC2.out.trans hk)
    have hk0 : Kept R none W2 W2.drew := Kept.of_below ((Below.refl _ _).drew)
    have hwl0 : Wl R (F - c') out0 W2.drew := HWL.out.below ((Below.refl _ _).drew)
    have hszc := hkc.size
    have hsz2' : w.heap.size + 1 + 1 + 1 + 1 ≤ W2.heap.size := by omega
    obtain ⟨c0, c1, _, _, _, _, _, _⟩ := hwc
    replace c1 : W2.cell? ⟨R, 1, none⟩ = some (.int .i64 0) := c1
    clear hkc hS hc1 hc2 hai hav hao hrb ha4 HK1 HI1
    apply_assumption
    go_upto_region 29 with fail
    clear w0 x0 x1 x2 x3 x4 x5 x6 e0 c0 c1
    go_cut [9] (fun ts wx => ∃ bs : Nat, ts = .pointer (some ⟨bs, 0, none⟩) ∧ Hid (PartP m M R F c' Q w W2 u1 E p1 bs wx))
    case first =>
      refine wp_region_held_drew (S := fun W => W.cell? ⟨w.heap.size, 0, none⟩ = some (.pointer (some ⟨R, 0, none⟩)) ∧ W.cell? ⟨w.heap.size + 1, 6, none⟩ = some (.slice (some ⟨bx, ox, none⟩) 2 x.c) ∧ W.cell? ⟨bx, ox + 7, none⟩ = some (.int .i64 u1.k) ∧ W.cell? ⟨bx, ox + 8, none⟩ = some (.int .i64 u1.n) ∧ W.cell? ⟨bx, ox + 9, none⟩ = some (.int .i64 u1.t.k) ∧ W.cell? ⟨bx, ox + 10, none⟩ = some (.slice u1.t.a u1.t.l.length u1.t.c) ∧ W.cell? ⟨bx, ox + 11, none⟩ = some (.int .i64 u1.f.k) ∧ W.cell? ⟨bx, ox + 12, none⟩ = some (.slice u1.f.a u1.f.l.length u1.f.c) ∧ W.cell? ⟨bx, ox + 13, none⟩ = some (.slice u1.a u1.l.length u1.c) ∧ W.cell? ⟨w.heap.size + 1 + 1, 0, none⟩ = some (.slice ea E.length ec)) (by kernel_rfl) (HK2.out _ hk0) (fun hHeld => ?_)
      refine takeHL (i := 0) (v := ?_) rfl (by kernel_rfl) (by kernel_rfl) (by kernel_rfl) (fun _ _ _ h => h) (Or.inl ⟨by rfl, ?_⟩) hHeld ?_; rotate_left; (focus (intro w' hSw; (try dsimp only at hSw); go_split_ands; first | (go_simp; done) | (go_simp; with_reducible rfl))); simp only [Act.put, List.setIfInBounds_toArray, List.set_cons_zero, List.set_cons_succ]
      refine takeHL (i := 1) (v := ?_) rfl (by kernel_rfl) (by kernel_rfl) (by kernel_rfl) (fun _ _ _ h => h) (Or.inl ⟨by rfl, ?_⟩) hHeld ?_; rotate_left; (focus (intro w' hSw; (try dsimp only at hSw); go_split_ands; first | (go_simp; done) | (go_simp; with_reducible rfl))); simp only [Act.put, List.setIfInBounds_toArray, List.set_cons_zero, List.set_cons_succ]
      refine takeHL (i := 2) (v := ?_) rfl (by kernel_rfl) (by kernel_rfl) (by kernel_rfl) (fun _ _ _ h => h) (Or.inl ⟨by rfl, ?_⟩) hHeld ?_; rotate_left; (focus (intro w' hSw; (try dsimp only at hSw); go_split_ands; first | (go_simp; done) | (go_simp; with_reducible rfl))); simp only [Act.put, List.setIfInBounds_toArray, List.set_cons_zero, List.set_cons_succ]
      refine takeHL (i := 3) (v := ?_) rfl (by kernel_rfl) (by kernel_rfl) (by kernel_rfl) (fun _ _ _ h => h) (Or.inl ⟨by rfl, ?_⟩) hHeld ?_; rotate_left; (focus (intro w' hSw; (try dsimp only at hSw); go_split_ands; first | (go_simp; done) | (go_simp; with_reducible rfl))); simp only [Act.put, List.setIfInBounds_toArray, List.set_cons_zero, List.set_cons_succ]
      refine takeHL (i := 4) (v := ?_) rfl (by kernel_rfl) (by kernel_rfl) (by kernel_rfl) (fun _ _ _ h => h) (Or.inl ⟨by rfl, ?_⟩) hHeld ?_; rotate_left; (focus (intro w' hSw; (try dsimp only at hSw); go_split_ands; first | (go_simp; done) | (go_simp; with_reducible rfl))); simp only [Act.put, List.setIfInBounds_toArray, List.set_cons_zero, List.set_cons_succ]
      refine takeHL (i := 5) (v := ?_) rfl (by kernel_rfl) (by kernel_rfl) (by kernel_rfl) (fun _ _ _ h => h) (Or.inl ⟨by rfl, ?_⟩) hHeld ?_; rotate_left; (focus (intro w' hSw; (try dsimp only at hSw); go_split_ands; first | (go_simp; done) | (go_simp; with_reducible rfl))); simp only [Act.put, List.setIfInBounds_toArray, List.set_cons_zero, List.set_cons_succ]
      refine twoHL (i := 6) (j := 7) rfl rfl (by kernel_rfl) (fun K hK => ?_) (fun K hK => ?_)
      · go_simp
        refine (HI2.out w.heap.size _ hk0 hwl0 (Nat.le_refl _) (by show _ < W2.heap.size; omega)).mono ?_
        rintro e w2 ⟨h2, rr, VV, cc, hSS, hcc1, hcc2, hw2, hcase⟩
        have hk2 : Kept R none W2 w2 := hk0.trans h2
        have hsz2 := hk2.size
        rcases hcase with ⟨hr, rfl⟩ | ⟨rfl, z, rfl, hzi, hzv⟩
        · have hbV : Below w2.heap.size w2 (w2.alloc (.cells #[.int .i64 0, .int .i64 0, .nilFunc, .int .i64 0] 103)) := (Below.refl _ _).alloc (Nat.le_refl _) _
          have HN : Hid (PartP m M R F c' Q w W2 u1 E p1 w2.heap.size (w2.alloc (.cells #[.int .i64 0, .int .i64 0, .nilFunc, .int .i64 0] 103))) := ⟨by omega, hk2.trans (Kept.of_below hbV), rr, VV, cc, hSS, hcc1, hcc2, hw2.below hbV, .inl hr⟩
          clear hr hSS
          simp only [noV]
          refine hK.out _ _ (HK2.out _ hk2) (fun hHeld => ?_)
          clear hK K
          (try simp only [Act.put, List.setIfInBounds_toArray, List.set_cons_zero, List.set_cons_succ])
          refine oneHL (i := 7) rfl (by kernel_rfl) (fun K hK => ?_)
          go_simp
          refine hK.out _ _ (HK2.out _ (hk2.trans (Kept.of_below ((Below.refl _ _).alloc (Nat.le_refl _) _)))) (fun hHeld => ?_)
          clear hK K
          (try simp only [Act.put, List.setIfInBounds_toArray, List.set_cons_zero, List.set_cons_succ])
          refine oneHL (i := 8) rfl (by kernel_rfl) (fun K hK => ?_)
          go_simp
          refine hK.out _ _ (HK2.out _ (hk2.trans (Kept.of_below hbV))) (fun hHeld => ?_)
          clear hK K
          (try simp only [Act.put, List.setIfInBounds_toArray, List.set_cons_zero, List.set_cons_succ])
          refine wpAnyH_done (by kernel_rfl) ?_ _
          clear hHeld hcc1 hcc2 hw2
          go_wp2_with fail
          go_meet
          case rel => exact ⟨_, rfl, HN⟩
        · have hone := hzi.one
          have hst4 : ∀ (a : Addr) (m : Mode) (W : World), (store a z.fn m).run Tryz.prog W = stored Tryz.prog W a z.fn m := fun a m W => run_storeOne hone
          have hbV : Below w2.heap.size w2 (w2.alloc (.cells #[.int .i64 z.k, .int .i64 z.n, z.fn, .int .i64 z.tag] 103)) := (Below.refl _ _).alloc (Nat.le_refl _) _
          have HN : Hid (PartP m M R F c' Q w W2 u1 E p1 w2.heap.size (w2.alloc (.cells #[.int .i64 z.k, .int .i64 z.n, z.fn, .int .i64 z.tag] 103))) := ⟨by omega, hk2.trans (Kept.of_below hbV), out0, VV, cc, hSS, hcc1, hcc2, hw2.below hbV, .inr ⟨rfl, z, ⟨by simp [go_sem], by simp [go_sem], by simp [go_sem], by simp [go_sem]⟩, (hzi.same (Same.of_below hbV)).mono (fun x _ hx => ⟨hx.1, hx.2.1⟩), hzv⟩⟩
          clear hSS hzi hzv hone
          simp only [Th.ag]
          refine hK.out _ _ (HK2.out _ hk2) (fun hHeld => ?_)
          clear hK K
          (try simp only [Act.put, List.setIfInBounds_toArray, List.set_cons_zero, List.set_cons_succ])
          refine oneHL (i := 7) rfl (by kernel_rfl) (fun K hK => ?_)
          go_simp
          refine hK.out _ _ (HK2.out _ (hk2.trans (Kept.of_below ((Below.refl _ _).alloc (Nat.le_refl _) _)))) (fun hHeld => ?_)
          clear hK K
          (try simp only [Act.put, List.setIfInBounds_toArray, List.set_cons_zero, List.set_cons_succ])
          refine oneHL (i := 8) rfl (by kernel_rfl) (fun K hK => ?_)
          go_simp
          refine hK.out _ _ (HK2.out _ (hk2.trans (Kept.of_below hbV))) (fun hHeld => ?_)
          clear hK K
          (try simp only [Act.put, List.setIfInBounds_toArray, List.set_cons_zero, List.set_cons_succ])
          refine wpAnyH_done (by kernel_rfl) ?_ _
          clear hHeld hcc1 hcc2 hw2
          go_wp2_with fail
          go_meet
          case rel => exact ⟨_, rfl, HN⟩
      · go_simp
        have hk3 : Kept R none W2 (W2.alloc (.cells #[.int .i64 0, .int .i64 0, .nilFunc, .int .i64 0] 103)).drew := Kept.of_below (((Below.refl _ _).alloc (Nat.le_refl _) _).drew)
        refine hK.out _ _ (HK2.out _ hk3) (fun hHeld => ?_)
        clear hK K
        (try simp only [Act.put, List.setIfInBounds_toArray, List.set_cons_zero, List.set_cons_succ])
        refine oneHL (i := 6) rfl (by kernel_rfl) (fun K hK => ?_)
        go_simp
        refine (HI2.out W2.heap.size _ hk3 (HWL.out.below (((Below.refl _ _).alloc (Nat.le_refl _) _).drew)) (by omega) (by show _ < (W2.alloc (.cells #[.int .i64 0, .int .i64 0, .nilFunc, .int .i64 0] 103)).heap.size; simp)).mono ?_
        rintro e w2 ⟨h2, rr, VV, cc, hSS, hcc1, hcc2, hw2, hcase⟩
        have hk2 : Kept R none W2 w2 := hk3.trans h2
        have q9 : Rb w2 W2.heap.size := ((Rb.new W2).below ((Below.refl _ _).drew)).kept h2 (by omega)
        rcases hcase with ⟨hr, rfl⟩ | ⟨rfl, z, rfl, hzi, hzv⟩
        · obtain ⟨⟨g0, g1, g2, g3⟩, hk9⟩ := q9.set (.int .i64 0) (.int .i64 0) .nilFunc (.int .i64 0)
          have HN : Hid (PartP m M R F c' Q w W2 u1 E p1 W2.heap.size ((((w2.setCell ⟨W2.heap.size, 0, none⟩ (.int .i64 0)).setCell ⟨W2.heap.size, 1, none⟩ (.int .i64 0)).setCell ⟨W2.heap.size, 2, none⟩ .nilFunc).setCell ⟨W2.heap.size, 3, none⟩ (.int .i64 0))) := ⟨by omega, hk2.new hk9 (Nat.le_refl _), rr, VV, cc, hSS, hcc1, hcc2, hw2.same hk9 (by omega), .inl hr⟩
          have hkV := hk2.new hk9 (Nat.le_refl _)
          clear hr hSS
          simp only [noV]
          obtain ⟨p0, p1, p2, p3, x0, x1, x2, x3⟩ := q9
          clear g0 g1 g2 g3 hk9
          refine hK.out _ _ (HK2.out _ hk2) (fun hHeld => ?_)
          clear hK K
          (try simp only [Act.put, List.setIfInBounds_toArray, List.set_cons_zero, List.set_cons_succ])
          refine oneHL (i := 8) rfl (by kernel_rfl) (fun K hK => ?_)
          go_simp
          refine hK.out _ _ (HK2.out _ hkV) (fun hHeld => ?_)
          clear hK K
          (try simp only [Act.put, List.setIfInBounds_toArray, List.set_cons_zero, List.set_cons_succ])
          refine wpAnyH_done (by kernel_rfl) ?_ _
          obtain ⟨V9, hV9⟩ : ∃ V9, V9 = (((w2.setCell ⟨W2.heap.size, 0, none⟩ (.int .i64 0)).setCell ⟨W2.heap.size, 1, none⟩ (.int .i64 0)).setCell ⟨W2.heap.size, 2, none⟩ .nilFunc).setCell ⟨W2.heap.size, 3, none⟩ (.int .i64 0) := ⟨_, rfl⟩
          rw [← hV9] at HN
          rw [← hV9]
          clear hV9 hHeld hkV p0 p1 p2 p3 x0 x1 x2 x3 hw2 hk2 h2 hcc1 hcc2
          go_wp2_with fail
          go_meet
          case rel => exact ⟨_, rfl, HN⟩
        · have hone := hzi.one
          have hst4 : ∀ (a : Addr) (m : Mode) (W : World), (store a z.fn m).run Tryz.prog W = stored Tryz.prog W a z.fn m := fun a m W => run_storeOne hone
          obtain ⟨⟨g0, g1, g2, g3⟩, hk9⟩ := q9.set (.int .i64 z.k) (.int .i64 z.n) z.fn (.int .i64 z.tag)
          have HN : Hid (PartP m M R F c' Q w W2 u1 E p1 W2.heap.size ((((w2.setCell ⟨W2.heap.size, 0, none⟩ (.int .i64 z.k)).setCell ⟨W2.heap.size, 1, none⟩ (.int .i64 z.n)).setCell ⟨W2.heap.size, 2, none⟩ z.fn).setCell ⟨W2.heap.size, 3, none⟩ (.int .i64 z.tag))) := ⟨by omega, hk2.new hk9 (Nat.le_refl _), out0, VV, cc, hSS, hcc1, hcc2, hw2.same hk9 (by omega), .inr ⟨rfl, z, ⟨g0, g1, g2, g3⟩, (hzi.same (Same.of_kept hk9 fun hx => hx.2.2 rfl)).mono (fun x _ hx => ⟨hx.1, hx.2.1⟩), hzv⟩⟩
          have hkV := hk2.new hk9 (Nat.le_refl _)
          clear hSS hzi hzv hone
          simp only [Th.ag]
          obtain ⟨p0, p1, p2, p3, x0, x1, x2, x3⟩ := q9
          clear g0 g1 g2 g3 hk9
          refine hK.out _ _ (HK2.out _ hk2) (fun hHeld => ?_)
          clear hK K
          (try simp only [Act.put, List.setIfInBounds_toArray, List.set_cons_zero, List.set_cons_succ])
          refine oneHL (i := 8) rfl (by kernel_rfl) (fun K hK => ?_)
          go_simp
          refine hK.out _ _ (HK2.out _ hkV) (fun hHeld => ?_)
          clear hK K
          (try simp only [Act.put, List.setIfInBounds_toArray, List.set_cons_zero, List.set_cons_succ])
          refine wpAnyH_done (by kernel_rfl) ?_ _
          obtain ⟨V9, hV9⟩ : ∃ V9, V9 = (((w2.setCell ⟨W2.heap.size, 0, none⟩ (.int .i64 z.k)).setCell ⟨W2.heap.size, 1, none⟩ (.int .i64 z.n)).setCell ⟨W2.heap.size, 2, none⟩ z.fn).setCell ⟨W2.heap.size, 3, none⟩ (.int .i64 z.tag) := ⟨_, rfl⟩
          rw [← hV9] at HN
          rw [← hV9]
          clear hV9 hHeld hkV p0 p1 p2 p3 x0 x1 x2 x3 hw2 hk2 h2 hcc1 hcc2
          go_wp2_with fail
          go_meet
          case rel => exact ⟨_, rfl, HN⟩
    case rest =>
    obtain ⟨b9, rfl, HP⟩ := hcut
    obtain ⟨lb9, hkd, r2, V2, c2, hS2, hd1, hd2, hwd, hcase⟩ := HP.out
    clear HP HI2 hk0 hwl0 HK2
    have hkc : Kept R none W1 wc := HKC2.out.trans hkd
    have hEB := HB.out.1.kept hkc hlr
    obtain ⟨w0, ⟨x0, x1, x2, x3, x4, x5, x6⟩, e0, hrb⟩ := hEB
    simp only [Nat.zero_add] at x1 x2 x3 x4 x5 x6
    have hnR9 : b9 ≠ R := by omega
    have hc02 : c ≤ c2 := by have := HCC.out.1; omega
    rcases hcase with hr | ⟨rfl, z, hz4, hzi, hzv, hzo⟩
    · have hgk : (r2.k != 0) = true := by simpa using hr
      have HF : Hid (Kept R none W1 wc ∧ Wl R (F - c2) r2 wc ∧ Rb wc (w.heap.size + 1 + 1 + 1) ∧ EvS m F x.tm (E.map Th.val) i c r2 V2 c2 ∧ c ≤ c2 ∧ c2 ≤ F ∧ r2.k ≠ 0) := ⟨hkc, hwd, hrb, HE2.out _ _ _ _ _ HA.out.2.2.1 hS2 hr, hc02, hd2, hr⟩
      obtain ⟨c0, c1, _, _, _, _, _, _⟩ := hwd
      obtain ⟨r0, r1, r2, r3, y0, y1, y2, y3⟩ := hrb
      clear hkc hS2 hr hd1 hd2 hkd
      apply_assumption
      go_wp2_with fail
      obtain ⟨⟨e0, e1, e2, e3⟩, hk⟩ := HF.out.2.2.1.set (.int .i64 0) (.int .i64 0) .nilFunc (.int .i64 0)
      refine bodyPost_ret (v := noV) ?_ rfl ⟨((Kept.of_below HB.out.2.1).trans HF.out.1).new hk (by omega), _, V2, c2, HF.out.2.2.2.1, HF.out.2.2.2.2.1, HF.out.2.2.2.2.2.1, HF.out.2.1.same hk (by omega), .inl ⟨HF.out.2.2.2.2.2.2, rfl⟩⟩
      simp [results, Tryz.results59, go_sem, noV, e0, e1, e2, e3]
    · have HW : Hid (Wl R (F - c2) out0 wc) := hwd
      have HC2 : Hid (c ≤ c2 ∧ c2 ≤ F) := ⟨hc02, hd2⟩
      have HKC : Hid (Kept R none W1 wc) := hkc
      have hQ1 : ¬ (fun x => Q x ∧ x ≠ w.heap.size + 1 + 1 + 1) R := fun hx => HQ.out.1 hx.1
      have HAI : Hid (a.In m M R (fun x => Q x ∧ x ≠ w.heap.size + 1 + 1 + 1) wc) := HA.out.2.1.same (Same.of_kept hkd hQ1)
      have HS1 : Hid (EvS m F u1.tm (E.map Th.val) p1 c' out0 z.val c2) := hzv ▸ hS2
      have HZ : Hid (z.In m M R (fun x => Q x ∧ x ≠ w.heap.size + 1 + 1 + 1) wc ∧ okTh m p1 z) := ⟨hzi, hzo⟩
      obtain ⟨a0, a1, a2, a3⟩ := HA.out.1.same (w' := wc) (Q := fun b => b ≠ R) (fun b hb hq => hkd.block b hb hq (by simp)) hnR
      simp only [Nat.zero_add] at a1 a2 a3
      obtain ⟨z0, z1, z2, z3⟩ := hz4
      simp only [Nat.zero_add] at z1 z2 z3
      obtain ⟨c0, c1, _, _, _, _, _, _⟩ := hwd
      replace c1 : wc.cell? ⟨R, 1, none⟩ = some (.int .i64 0) := c1
      have hszc := hkc.size
      clear hkc hS2 hd1 hd2 hzi hzv hzo hkd lb8 lb9 hc02
      have kda := HAI.out.kinds
      have kdz := HZ.out.1.kinds
      by_cases h8 : x.k = 8
      · have H8 : Hid (x.k = 8) := h8
        rw [h8] at x0
        clear h8 kdz
        have fin : (a.tag ≠ 0 ∧ a.val.k = 5) ∨ (a.tag = 0 ∧ a.k ≠ 3 ∧ a.val.k ≠ 3 ∧ a.val.k ≠ 4) ∨ (a.tag = 0 ∧ a.k = 3 ∧ a.val = a.cv) := by
          rcases kda with h | ⟨h0, he, ⟨h1, h2⟩ | ⟨h1, h2⟩ | ⟨h1, h2, _⟩⟩
          · exact .inl h
          · exact .inr (.inl ⟨h0, by omega, by rw [h2]; simp [numV], by rw [h2]; simp [numV]⟩)
          · exact .inr (.inl ⟨h0, by omega, by rw [h2]; simp [truthV], by rw [h2]; simp [truthV]⟩)
          · exact .inr (.inr ⟨h0, h1, he⟩)
        clear kda
        rcases fin with ⟨h1, h2⟩ | ⟨h0, h1, h2, h3⟩ | ⟨h0, h1, h2⟩
        · have ht1 : (a.tag != 0) = true := by simpa using h1
          have HV : Hid (a.val.k ≠ 3 ∧ a.val.k ≠ 4) := ⟨by omega, by omega⟩
          clear h1 h2
          have HEV : Hid (EvS m F x.tm (E.map Th.val) i c stuckO z.val c2 ∧ c ≤ c2 ∧ c2 ≤ F ∧ stuckO.k ≠ 0) := ⟨HE6.out _ _ _ _ _ HA.out.2.2.1 HS1.out H8.out HV.out.1 HV.out.2, HC2.out.1, HC2.out.2, by decide⟩
          apply_assumption
          go_wp2_with (go_at_call 94; refine (stuck_any R _ _ HW.out).mono ?_; rintro e w2 ⟨rfl, hw2, h2⟩; simp only [noV]; have HF : Hid (Kept R none W1 w2 ∧ Wl R (F - c2) stuckO w2 ∧ Rb w2 (w.heap.size + 1 + 1 + 1)) := ⟨HKC.out.trans h2, hw2, (HB.out.1.kept (HKC.out.trans h2) hlr).r⟩; clear hw2 h2 w0 x0 x1 x2 x3 x4 x5 x6 e0 a0 a1 a2 a3 z0 z1 z2 z3 c0 c1; obtain ⟨r0, r1, r2, r3, y0, y1, y2, y3⟩ := HF.out.2.2)
          obtain ⟨⟨e0, e1, e2, e3⟩, hk⟩ := HF.out.2.2.set (.int .i64 0) (.int .i64 0) .nilFunc (.int .i64 0)
          refine bodyPost_ret (v := noV) ?_ rfl ⟨((Kept.of_below HB.out.2.1).trans HF.out.1).new hk (by omega), stuckO, z.val, c2, HEV.out.1, HEV.out.2.1, HEV.out.2.2.1, HF.out.2.1.same hk (by omega), .inl ⟨HEV.out.2.2.2, rfl⟩⟩
          simp [results, Tryz.results59, go_sem, noV, e0, e1, e2, e3]
        · have ht1 : (a.k != 3) = true := by simpa using h1
          rw [h0] at a3
          have HV : Hid (a.val.k ≠ 3 ∧ a.val.k ≠ 4) := ⟨h2, h3⟩
          clear h0 h1 h2 h3
          have HEV : Hid (EvS m F x.tm (E.map Th.val) i c stuckO z.val c2 ∧ c ≤ c2 ∧ c2 ≤ F ∧ stuckO.k ≠ 0) := ⟨HE6.out _ _ _ _ _ HA.out.2.2.1 HS1.out H8.out HV.out.1 HV.out.2, HC2.out.1, HC2.out.2, by decide⟩
          apply_assumption
          go_wp2_with (go_at_call 94; refine (stuck_any R _ _ HW.out).mono ?_; rintro e w2 ⟨rfl, hw2, h2⟩; simp only [noV]; have HF : Hid (Kept R none W1 w2 ∧ Wl R (F - c2) stuckO w2 ∧ Rb w2 (w.heap.size + 1 + 1 + 1)) := ⟨HKC.out.trans h2, hw2, (HB.out.1.kept (HKC.out.trans h2) hlr).r⟩; clear hw2 h2 w0 x0 x1 x2 x3 x4 x5 x6 e0 a0 a1 a2 a3 z0 z1 z2 z3 c0 c1; obtain ⟨r0, r1, r2, r3, y0, y1, y2, y3⟩ := HF.out.2.2)
          obtain ⟨⟨e0, e1, e2, e3⟩, hk⟩ := HF.out.2.2.set (.int .i64 0) (.int .i64 0) .nilFunc (.int .i64 0)
          refine bodyPost_ret (v := noV) ?_ rfl ⟨((Kept.of_below HB.out.2.1).trans HF.out.1).new hk (by omega), stuckO, z.val, c2, HEV.out.1, HEV.out.2.1, HEV.out.2.2.1, HF.out.2.1.same hk (by omega), .inl ⟨HEV.out.2.2.2, rfl⟩⟩
          simp [results, Tryz.results59, go_sem, noV, e0, e1, e2, e3]
        · obtain ⟨j, caps, hj, hfn, hwy⟩ := HAI.out.fns h1
          have HD : Hid (Calls Tryz.prog j (#[.agg #[.int .i64 z.k, .int .i64 z.n, z.fn, .int .i64 z.tag]] ++ caps) wc (ThPost m M R F c2 (fun x => Q x ∧ x ≠ w.heap.size + 1 + 1 + 1) wc i (fun r V c' => DoS m F a.cv z.val i c2 r V c'))) := by
            refine HDO.out c2 HC2.out.1 HC2.out.2 a p1 i j caps hwy hfn (fun hm => ?_) (fun x => Q x ∧ x ≠ w.heap.size + 1 + 1 + 1) z wc HAI.out HZ.out.1 HZ.out.2 HW.out hQ1 (fun b hb => ⟨HQ.out.2 b (by omega), by omega⟩)
            obtain ⟨o1, o2⟩ := HA.out.2.2.2 hm
            unfold Th.tyo at o2
            rw [if_pos h0] at o2
            refine ⟨o1, o2.trans ?_⟩
            rcases HR.out hm with ⟨_, e⟩ | ⟨h', _⟩ | ⟨h', _⟩
            · exact e
            · have := H8.out; omega
            · have := H8.out; omega
          have HS0 : Hid (EvS m F u0.tm (E.map Th.val) p0 c out0 a.cv c') := h2 ▸ HA.out.2.2.1
          rw [h0] at a3
          rw [h1] at a0
          rw [hfn] at a2
          clear h0 h1 h2 hfn hwy
          rcases hj with rfl | rfl
          all_goals
            apply_assumption
            go_wp2_with fail
            refine HD.out.mono ?_
            rintro e w4 ⟨hk4, r3, V3, c3, hS3, hd1, hd2, hw4, ⟨hr, rfl⟩ | ⟨rfl, g, rfl, hgi, hgv⟩⟩
            · have HF : Hid (Kept R none W1 w4 ∧ Wl R (F - c3) r3 w4 ∧ Rb w4 (w.heap.size + 1 + 1 + 1) ∧ EvS m F x.tm (E.map Th.val) i c r3 V3 c3 ∧ c ≤ c3 ∧ c3 ≤ F ∧ r3.k ≠ 0) := ⟨HKC.out.trans hk4, hw4, (HB.out.1.kept (HKC.out.trans hk4) hlr).r, HE7.out _ _ _ _ _ _ _ HS0.out HS1.out H8.out hS3, by have := HC2.out.1; omega, hd2, hr⟩
              simp only [noV]
              obtain ⟨r0, r1, r2, r4, y0, y1, y2, y3⟩ := HF.out.2.2.1
              clear hk4 hS3 hd1 hd2 hw4 hr w0 x0 x1 x2 x3 x4 x5 x6 e0 a0 a1 a2 a3 z0 z1 z2 z3 c0 c1
              go_wp2_with fail
              obtain ⟨⟨e0, e1, e2, e3⟩, hk⟩ := HF.out.2.2.1.set (.int .i64 0) (.int .i64 0) .nilFunc (.int .i64 0)
              refine bodyPost_ret (v := noV) ?_ rfl ⟨((Kept.of_below HB.out.2.1).trans HF.out.1).new hk (by omega), r3, V3, c3, HF.out.2.2.2.1, HF.out.2.2.2.2.1, HF.out.2.2.2.2.2.1, HF.out.2.1.same hk (by omega), .inl ⟨HF.out.2.2.2.2.2.2, rfl⟩⟩
              simp [results, Tryz.results59, go_sem, noV, e0, e1, e2, e3]
            · have HF : Hid (Kept R none W1 w4 ∧ Wl R (F - c3) out0 w4 ∧ Rb w4 (w.heap.size + 1 + 1 + 1) ∧ EvS m F x.tm (E.map Th.val) i c out0 V3 c3 ∧ c ≤ c3 ∧ c3 ≤ F ∧ g.In m M R (fun x => Q x ∧ x ≠ w.heap.size + 1 + 1 + 1) w4 ∧ g.val = V3 ∧ okTh m i g) := ⟨HKC.out.trans hk4, hw4, (HB.out.1.kept (HKC.out.trans hk4) hlr).r, HE7.out _ _ _ _ _ _ _ HS0.out HS1.out H8.out hS3, by have := HC2.out.1; omega, hd2, hgi, hgv⟩
              have hone := hgi.one
              have hst4 : ∀ (a : Addr) (m : Mode) (W : World), (store a g.fn m).run Tryz.prog W = stored Tryz.prog W a g.fn m := fun a m W => run_storeOne hone
              simp only [Th.ag]
              obtain ⟨r0, r1, r2, r4, y0, y1, y2, y3⟩ := HF.out.2.2.1
              clear hk4 hS3 hd1 hd2 hw4 hgi hgv hone w0 x0 x1 x2 x3 x4 x5 x6 e0 a0 a1 a2 a3 z0 z1 z2 z3 c0 c1
              go_wp2_with fail
              obtain ⟨g1, g2, g3, g4, g5, g6, g7, g8⟩ := HF.out
              have hend := th_end (m := m) (M := M) (Q := Q) (h := g) g3 (by omega) hlr ((Kept.of_below HB.out.2.1).trans g1) g2 g7 (fun x hx => hx)
              obtain ⟨⟨e0, e1, e2, e3⟩, hk, hW, hi⟩ := hend
              refine bodyPost_ret (v := g.ag) ?_ rfl ⟨hk, out0, V3, c3, g4, g5, g6, hW, .inr ⟨rfl, g, rfl, hi, g8⟩⟩
              simp [results, Tryz.results59, go_sem, Th.ag, e0, e1, e2, e3]
      · have H45 : Hid (x.k = 4 ∨ x.k = 5) := by
          rcases HKX.out with h | h | h
          · exact .inl h
          · exact .inr h
          · exact absurd h h8
        have k8 : (x.k == 8) = false := by simpa using h8
        clear h8
        have fin : ∀ h : Th, ((h.tag ≠ 0 ∧ h.val.k = 5) ∨ (h.tag = 0 ∧ h.val = h.cv ∧ ((h.k = 1 ∧ h.val = numV h.n) ∨ (h.k = 2 ∧ h.val = truthV h.n) ∨ (h.k = 3 ∧ (h.val.k = 3 ∨ h.val.k = 4) ∧ (h.wy = 1 ∨ h.wy = 2))))) → (h.tag ≠ 0 ∧ h.val.k ≠ 1) ∨ (h.tag = 0 ∧ h.k ≠ 1 ∧ h.val.k ≠ 1) ∨ (h.tag = 0 ∧ h.k = 1 ∧ h.val = numV h.n) := by
          intro h kd
          rcases kd with ⟨h1, h2⟩ | ⟨h0, he, ⟨h1, h2⟩ | ⟨h1, h2⟩ | ⟨h1, h2, _⟩⟩
          · exact .inl ⟨h1, by omega⟩
          · exact .inr (.inr ⟨h0, h1, h2⟩)
          · exact .inr (.inl ⟨h0, by omega, by rw [h2]; simp [truthV]⟩)
          · exact .inr (.inl ⟨h0, by omega, by omega⟩)
        have fa := fin a kda
        have fz := fin z kdz
        clear fin kda kdz
        rcases fa with ⟨h1, h2⟩ | ⟨h0, h1, h2⟩ | ⟨h0, h1, h2⟩
        · have ht1 : (a.tag != 0) = true := by simpa using h1
          have HV : Hid (¬ (a.val.k = 1 ∧ z.val.k = 1)) := fun h => h2 h.1
          clear h1 h2 fz
          have HEV : Hid (EvS m F x.tm (E.map Th.val) i c stuckO z.val c2 ∧ c ≤ c2 ∧ c2 ≤ F ∧ stuckO.k ≠ 0) := ⟨HE3.out _ _ _ _ _ HA.out.2.2.1 HS1.out H45.out HV.out, HC2.out.1, HC2.out.2, by decide⟩
          apply_assumption
          go_wp2_with (go_at_call 94; refine (stuck_any R _ _ HW.out).mono ?_; rintro e w2 ⟨rfl, hw2, h2⟩; simp only [noV]; have HF : Hid (Kept R none W1 w2 ∧ Wl R (F - c2) stuckO w2 ∧ Rb w2 (w.heap.size + 1 + 1 + 1)) := ⟨HKC.out.trans h2, hw2, (HB.out.1.kept (HKC.out.trans h2) hlr).r⟩; clear hw2 h2 w0 x0 x1 x2 x3 x4 x5 x6 e0 a0 a1 a2 a3 z0 z1 z2 z3 c0 c1; obtain ⟨r0, r1, r2, r3, y0, y1, y2, y3⟩ := HF.out.2.2)
          obtain ⟨⟨e0, e1, e2, e3⟩, hk⟩ := HF.out.2.2.set (.int .i64 0) (.int .i64 0) .nilFunc (.int .i64 0)
          refine bodyPost_ret (v := noV) ?_ rfl ⟨((Kept.of_below HB.out.2.1).trans HF.out.1).new hk (by omega), stuckO, z.val, c2, HEV.out.1, HEV.out.2.1, HEV.out.2.2.1, HF.out.2.1.same hk (by omega), .inl ⟨HEV.out.2.2.2, rfl⟩⟩
          simp [results, Tryz.results59, go_sem, noV, e0, e1, e2, e3]
        · have ht1 : (a.k != 1) = true := by simpa using h1
          rw [h0] at a3
          have HV : Hid (¬ (a.val.k = 1 ∧ z.val.k = 1)) := fun h => h2 h.1
          clear h0 h1 h2 fz
          have HEV : Hid (EvS m F x.tm (E.map Th.val) i c stuckO z.val c2 ∧ c ≤ c2 ∧ c2 ≤ F ∧ stuckO.k ≠ 0) := ⟨HE3.out _ _ _ _ _ HA.out.2.2.1 HS1.out H45.out HV.out, HC2.out.1, HC2.out.2, by decide⟩
          apply_assumption
          go_wp2_with (go_at_call 94; refine (stuck_any R _ _ HW.out).mono ?_; rintro e w2 ⟨rfl, hw2, h2⟩; simp only [noV]; have HF : Hid (Kept R none W1 w2 ∧ Wl R (F - c2) stuckO w2 ∧ Rb w2 (w.heap.size + 1 + 1 + 1)) := ⟨HKC.out.trans h2, hw2, (HB.out.1.kept (HKC.out.trans h2) hlr).r⟩; clear hw2 h2 w0 x0 x1 x2 x3 x4 x5 x6 e0 a0 a1 a2 a3 z0 z1 z2 z3 c0 c1; obtain ⟨r0, r1, r2, r3, y0, y1, y2, y3⟩ := HF.out.2.2)
          obtain ⟨⟨e0, e1, e2, e3⟩, hk⟩ := HF.out.2.2.set (.int .i64 0) (.int .i64 0) .nilFunc (.int .i64 0)
          refine bodyPost_ret (v := noV) ?_ rfl ⟨((Kept.of_below HB.out.2.1).trans HF.out.1).new hk (by omega), stuckO, z.val, c2, HEV.out.1, HEV.out.2.1, HEV.out.2.2.1, HF.out.2.1.same hk (by omega), .inl ⟨HEV.out.2.2.2, rfl⟩⟩
          simp [results, Tryz.results59, go_sem, noV, e0, e1, e2, e3]
        · rw [h0] at a3
          rw [h1] at a0
          have HNA : Hid (a.val = numV a.n ∧ -1000000 ≤ a.n ∧ a.n ≤ 1000000) := ⟨h2, HAI.out.nums h1⟩
          clear h0 h1 h2
          rcases fz with ⟨h1, h2⟩ | ⟨h0, h1, h2⟩ | ⟨h0, h1, h2⟩
          · have ht1 : (z.tag != 0) = true := by simpa using h1
            have HV : Hid (¬ (a.val.k = 1 ∧ z.val.k = 1)) := fun h => h2 h.2
            clear h1 h2
            have HEV : Hid (EvS m F x.tm (E.map Th.val) i c stuckO z.val c2 ∧ c ≤ c2 ∧ c2 ≤ F ∧ stuckO.k ≠ 0) := ⟨HE3.out _ _ _ _ _ HA.out.2.2.1 HS1.out H45.out HV.out, HC2.out.1, HC2.out.2, by decide⟩
            apply_assumption
            go_wp2_with (go_at_call 94; refine (stuck_any R _ _ HW.out).mono ?_; rintro e w2 ⟨rfl, hw2, h2⟩; simp only [noV]; have HF : Hid (Kept R none W1 w2 ∧ Wl R (F - c2) stuckO w2 ∧ Rb w2 (w.heap.size + 1 + 1 + 1)) := ⟨HKC.out.trans h2, hw2, (HB.out.1.kept (HKC.out.trans h2) hlr).r⟩; clear hw2 h2 w0 x0 x1 x2 x3 x4 x5 x6 e0 a0 a1 a2 a3 z0 z1 z2 z3 c0 c1; obtain ⟨r0, r1, r2, r3, y0, y1, y2, y3⟩ := HF.out.2.2)
            obtain ⟨⟨e0, e1, e2, e3⟩, hk⟩ := HF.out.2.2.set (.int .i64 0) (.int .i64 0) .nilFunc (.int .i64 0)
            refine bodyPost_ret (v := noV) ?_ rfl ⟨((Kept.of_below HB.out.2.1).trans HF.out.1).new hk (by omega), stuckO, z.val, c2, HEV.out.1, HEV.out.2.1, HEV.out.2.2.1, HF.out.2.1.same hk (by omega), .inl ⟨HEV.out.2.2.2, rfl⟩⟩
            simp [results, Tryz.results59, go_sem, noV, e0, e1, e2, e3]
          · have ht1 : (z.k != 1) = true := by simpa using h1
            rw [h0] at z3
            have HV : Hid (¬ (a.val.k = 1 ∧ z.val.k = 1)) := fun h => h2 h.2
            clear h0 h1 h2
            have HEV : Hid (EvS m F x.tm (E.map Th.val) i c stuckO z.val c2 ∧ c ≤ c2 ∧ c2 ≤ F ∧ stuckO.k ≠ 0) := ⟨HE3.out _ _ _ _ _ HA.out.2.2.1 HS1.out H45.out HV.out, HC2.out.1, HC2.out.2, by decide⟩
            apply_assumption
            go_wp2_with (go_at_call 94; refine (stuck_any R _ _ HW.out).mono ?_; rintro e w2 ⟨rfl, hw2, h2⟩; simp only [noV]; have HF : Hid (Kept R none W1 w2 ∧ Wl R (F - c2) stuckO w2 ∧ Rb w2 (w.heap.size + 1 + 1 + 1)) := ⟨HKC.out.trans h2, hw2, (HB.out.1.kept (HKC.out.trans h2) hlr).r⟩; clear hw2 h2 w0 x0 x1 x2 x3 x4 x5 x6 e0 a0 a1 a2 a3 z0 z1 z2 z3 c0 c1; obtain ⟨r0, r1, r2, r3, y0, y1, y2, y3⟩ := HF.out.2.2)
            obtain ⟨⟨e0, e1, e2, e3⟩, hk⟩ := HF.out.2.2.set (.int .i64 0) (.int .i64 0) .nilFunc (.int .i64 0)
            refine bodyPost_ret (v := noV) ?_ rfl ⟨((Kept.of_below HB.out.2.1).trans HF.out.1).new hk (by omega), stuckO, z.val, c2, HEV.out.1, HEV.out.2.1, HEV.out.2.2.1, HF.out.2.1.same hk (by omega), .inl ⟨HEV.out.2.2.2, rfl⟩⟩
            simp [results, Tryz.results59, go_sem, noV, e0, e1, e2, e3]
          · rw [h0] at z3
            rw [h1] at z0
            have HNZ : Hid (z.val = numV z.n ∧ -1000000 ≤ z.n ∧ z.n ≤ 1000000) := ⟨h2, HZ.out.1.nums h1⟩
            clear h0 h1 h2
            have HA2 : Hid (EvS m F u0.tm (E.map Th.val) p0 c out0 (numV a.n) c') := HNA.out.1 ▸ HA.out.2.2.1
            have HS2 : Hid (EvS m F u1.tm (E.map Th.val) p1 c' out0 (numV z.n) c2) := HNZ.out.1 ▸ HS1.out
            obtain ⟨na1, na2⟩ := HNA.out.2
            obtain ⟨nz1, nz2⟩ := HNZ.out.2
            obtain ⟨r0, r1, r2, r3, y0, y1, y2, y3⟩ := hrb
            by_cases h4 : x.k = 4
            · have HX4 : Hid (EvS m F x.tm (E.map Th.val) i c out0 (litT 1 (min (max (a.n + z.n) (-1000000)) 1000000) x i).val c2) := by
                show EvS _ _ _ _ _ _ _ _ _
                rw [lit_num]
                have e : clampI (a.n + z.n) = (min (max (a.n + z.n) (-1000000)) 1000000) := by unfold clampI; omega
                rw [← e]
                exact HE4.out _ _ _ _ HA2.out HS2.out h4
              have HL : Hid ((litT 1 (min (max (a.n + z.n) (-1000000)) 1000000) x i).In m M R (fun _ => False) wc ∧ okTh m i (litT 1 (min (max (a.n + z.n) (-1000000)) 1000000) x i)) := by
                refine ⟨Th.In_iff.2 (.inl ⟨rfl, ⟨rfl, .inl rfl, ?_⟩⟩), lit_ok fun hm => ?_⟩
                · show -1000000 ≤ (min (max (a.n + z.n) (-1000000)) 1000000) ∧ (min (max (a.n + z.n) (-1000000)) 1000000) ≤ 1000000
                  omega
                · rcases HR.out hm with ⟨h', _⟩ | ⟨_, _, _, e⟩ | ⟨h', _⟩
                  · omega
                  · exact .inl ⟨rfl, e⟩
                  · omega
              have k4 : (x.k == 4) = true := by simpa using h4
              clear h4
              apply_assumption
              go_wp2_with fail
              obtain ⟨g1, g2⟩ := HL.out
              have hend := th_end (m := m) (M := M) (Q := Q) (Q1 := fun _ => False) (h := litT 1 (min (max (a.n + z.n) (-1000000)) 1000000) x i) (HB.out.1.kept HKC.out hlr).r (by omega) hlr ((Kept.of_below HB.out.2.1).trans HKC.out) HW.out g1 (fun x hx => hx.elim)
              obtain ⟨⟨e0, e1, e2, e3⟩, hk, hW, hi⟩ := hend
              refine bodyPost_ret (v := (litT 1 (min (max (a.n + z.n) (-1000000)) 1000000) x i).ag) ?_ rfl ⟨hk, out0, _, c2, HX4.out, HC2.out.1, HC2.out.2, hW, .inr ⟨rfl, _, rfl, hi, rfl, g2⟩⟩
              simp only [litT] at e0 e1 e2 e3
              simp [results, Tryz.results59, go_sem, Th.ag, litT, e0, e1, e2, e3]
            · have h5 : x.k = 5 := by
                have := H45.out
                omega
              have k4 : (x.k == 4) = false := by simpa using h4
              have H5 : Hid (x.k = 5) := h5
              clear h4 h5
              by_cases hlt : a.n < z.n
              · have HX4 : Hid (EvS m F x.tm (E.map Th.val) i c out0 (litT 2 1 x i).val c2) := by
                  show EvS _ _ _ _ _ _ _ _ _
                  rw [lit_truth]
                  have := HE5.out _ _ _ _ HA2.out HS2.out H5.out
                  rwa [if_pos hlt] at this
                have HL : Hid ((litT 2 1 x i).In m M R (fun _ => False) wc ∧ okTh m i (litT 2 1 x i)) := by
                  refine ⟨Th.In_iff.2 (.inl ⟨rfl, ⟨rfl, .inr rfl, by show -1000000 ≤ (1 : Int) ∧ (1 : Int) ≤ 1000000; omega⟩⟩), lit_ok fun hm => ?_⟩
                  have := H5.out
                  rcases HR.out hm with ⟨h', _⟩ | ⟨h', _⟩ | ⟨_, _, _, e⟩
                  · omega
                  · omega
                  · exact .inr ⟨rfl, e⟩
                apply_assumption
                go_wp2_with fail
                obtain ⟨g1, g2⟩ := HL.out
                have hend := th_end (m := m) (M := M) (Q := Q) (Q1 := fun _ => False) (h := litT 2 1 x i) (HB.out.1.kept HKC.out hlr).r (by omega) hlr ((Kept.of_below HB.out.2.1).trans HKC.out) HW.out g1 (fun x hx => hx.elim)
                obtain ⟨⟨e0, e1, e2, e3⟩, hk, hW, hi⟩ := hend
                refine bodyPost_ret (v := (litT 2 1 x i).ag) ?_ rfl ⟨hk, out0, _, c2, HX4.out, HC2.out.1, HC2.out.2, hW, .inr ⟨rfl, _, rfl, hi, rfl, g2⟩⟩
                simp only [litT] at e0 e1 e2 e3
                simp [results, Tryz.results59, go_sem, Th.ag, litT, e0, e1, e2, e3]
              · have HX4 : Hid (EvS m F x.tm (E.map Th.val) i c out0 (litT 2 0 x i).val c2) := by
                  show EvS _ _ _ _ _ _ _ _ _
                  rw [lit_truth]
                  have := HE5.out _ _ _ _ HA2.out HS2.out H5.out
                  rwa [if_neg hlt] at this
                have HL : Hid ((litT 2 0 x i).In m M R (fun _ => False) wc ∧ okTh m i (litT 2 0 x i)) := by
                  refine ⟨Th.In_iff.2 (.inl ⟨rfl, ⟨rfl, .inr rfl, by show -1000000 ≤ (0 : Int) ∧ (0 : Int) ≤ 1000000; omega⟩⟩), lit_ok fun hm => ?_⟩
                  have := H5.out
                  rcases HR.out hm with ⟨h', _⟩ | ⟨h', _⟩ | ⟨_, _, _, e⟩
                  · omega
                  · omega
                  · exact .inr ⟨rfl, e⟩
                apply_assumption
                go_wp2_with fail
                obtain ⟨g1, g2⟩ := HL.out
                have hend := th_end (m := m) (M := M) (Q := Q) (Q1 := fun _ => False) (h := litT 2 0 x i) (HB.out.1.kept HKC.out hlr).r (by omega) hlr ((Kept.of_below HB.out.2.1).trans HKC.out) HW.out g1 (fun x hx => hx.elim)
                obtain ⟨⟨e0, e1, e2, e3⟩, hk, hW, hi⟩ := hend
                refine bodyPost_ret (v := (litT 2 0 x i).ag) ?_ rfl ⟨hk, out0, _, c2, HX4.out, HC2.out.1, HC2.out.2, hW, .inr ⟨rfl, _, rfl, hi, rfl, g2⟩⟩
                simp only [litT] at e0 e1 e2 e3
                simp [results, Tryz.results59, go_sem, Th.ag, litT, e0, e1, e2, e3]
end Go.Proofs.YtnddkmccagiclabGreatDoor

/-
  ref's eval at every term, whatever it calls.
-/
namespace Go.Proofs.YtnddkmccagiclabGreatDoor
open Go.RowKit
theorem Fit.part {m : Bool} {M : Nat} {x : Tm} {E : List Th} {i p : Ty} (h : Fit m M x E i) {j : Nat} (hj : j < x.l.length) (hp : m = true → tyM (x.at j) (E.map Th.tyo) p) : Fit m M (x.at j) E p :=
  ⟨⟨h.sh.1.part hj, fun hm => (h.sh.2 hm).part hj⟩, by have := h.sz; have := part_tsz hj; omega, fun hm => ⟨hp hm, (h.ty hm).2⟩⟩
theorem ev_step {m : Bool} {M R F c : Nat} (hF : F ≤ 1000) (hM : M ≤ 10000) (hc : c ≤ F) (up : ∀ c', c < c' → c' ≤ F → EvAt m M R F c') : EvAt m M R F c := by
  have hdo : ∀ c2, c ≤ c2 → c2 ≤ F → DoAt m M R F c2 := fun c2 h1 h2 => do_at hF hM h2 fun h3 => up (c2 + 1) (by omega) (by omega)
  suffices hs : ∀ (s : Nat) (x : TT), x.tm.tsz ≤ s → ∀ (E : List Th) (i : Ty) (ea : Option Addr) (ec : Nat), Fit m M x.tm E i → EvC m M R F c x E i ea ec from fun x => hs _ x (Nat.le_refl _)
  intro s
  induction s with
  | zero => intro x hx; have := x.tm.tsz_pos; omega
  | succ s ih =>
    intro x hx E i ea ec fit
    obtain ⟨k1, k10, hl, n1, n2, hn, hg⟩ := fit.sh.1.top
    rw [TT.tm_k] at k1 k10 hl hn hg
    rw [TT.tm_n] at n1 n2 hn
    have hlen : x.tm.l.length = x.l.length := by rw [TT.tm_l, List.length_map]
    -- a part, from the same number of calls on
    have hpart : ∀ (j : Nat) (y : TT) (p : Ty), x.l[j]? = some y → (m = true → tyM (x.tm.at j) (E.map Th.tyo) p) → ∀ c', c ≤ c' → c' ≤ F → EvC m M R F c' y E p ea ec := by
      intro j y p hy hp c' h1 h2
      have hj : j < x.tm.l.length := by
        rw [hlen]
        by_cases h : j < x.l.length
        · exact h
        · rw [List.getElem?_eq_none (by omega)] at hy; cases hy
      have e : x.tm.at j = y.tm := by
        rw [Tm.at, TT.tm_l, List.getD_eq_getElem?_getD, List.getElem?_map, hy]
        rfl
      have hf := fit.part hj hp
      rw [e] at hf
      by_cases hcc : c' = c
      · subst hcc
        refine ih y ?_ E p ea ec hf
        have := part_tsz hj
        rw [e] at this
        omega
      · exact up c' (by omega) h2 y E p ea ec hf
    have hps : m = true → ∃ ps : List Ty, x.tm.l.length = ps.length ∧ (∀ j (h' : j < ps.length), tyM (x.tm.at j) (if x.k = 7 then x.t.ty :: E.map Th.tyo else E.map Th.tyo) ps[j]) ∧ ruleT x.k x.n x.t.ty x.f.ty ps (E.map Th.tyo) i := fun hm => by
      have := tyM_parts (fit.ty hm).1
      rwa [TT.tm_k, TT.tm_n, TT.tm_t, TT.tm_f] at this
    intro Q W hxi hxb hE hw hQ nw
    have hk : x.k = 1 ∨ x.k = 2 ∨ x.k = 3 ∨ x.k = 4 ∨ x.k = 5 ∨ x.k = 6 ∨ x.k = 7 ∨ x.k = 8 ∨ x.k = 9 ∨ x.k = 10 := by omega
    rw [hlen] at hl
    have two_case : (x.k = 4 ∨ x.k = 5 ∨ x.k = 8) → Calls Tryz.prog 59 #[.pointer (some ⟨R, 0, none⟩), .agg #[.int .i64 x.k, .int .i64 x.n, .int .i64 x.t.k, .slice x.t.a x.t.l.length x.t.c, .int .i64 x.f.k, .slice x.f.a x.f.l.length x.f.c, .slice x.a x.l.length x.c], .slice ea E.length ec] W (ThPost m M R F c Q W i (EvS m F x.tm (E.map Th.val) i c)) := fun hk => by
      have hl2 : x.l.length = 2 := by rcases hk with h | h | h <;> (rw [h] at hl; exact hl)
      obtain ⟨y0, y1, hy⟩ : ∃ y0 y1, x.l = [y0, y1] := by
        match hx : x.l, hl2 with
        | [a, b], _ => exact ⟨a, b, rfl⟩
      obtain ⟨p0, p1, hp0, hp1, hr⟩ : ∃ p0 p1, (m = true → tyM (x.tm.at 0) (E.map Th.tyo) p0) ∧ (m = true → tyM (x.tm.at 1) (E.map Th.tyo) p1) ∧ (m = true → (x.k = 8 ∧ p0 = funY p1 i) ∨ (x.k = 4 ∧ p0 = numY ∧ p1 = numY ∧ i = numY) ∨ (x.k = 5 ∧ p0 = numY ∧ p1 = numY ∧ i = truthY)) := by
        cases m with
        | false => exact ⟨anyY, anyY, fun h => (by cases h), fun h => (by cases h), fun h => (by cases h)⟩
        | true =>
          obtain ⟨ps, h1, h2, h3⟩ := hps rfl
          rw [if_neg (by omega)] at h2
          rcases h3 with ⟨h', _⟩ | ⟨h', _⟩ | ⟨h', _⟩ | ⟨h4, rfl, hi⟩ | ⟨h4, rfl, hi⟩ | ⟨h', _⟩ | ⟨h', _⟩ | ⟨h4, a, rfl⟩ | ⟨h', _⟩ | ⟨h', _⟩ <;> first | omega | skip
          · exact ⟨numY, numY, fun _ => h2 0 (by simp), fun _ => h2 1 (by simp), fun _ => .inr (.inl ⟨h4, rfl, rfl, hi⟩)⟩
          · exact ⟨numY, numY, fun _ => h2 0 (by simp), fun _ => h2 1 (by simp), fun _ => .inr (.inr ⟨h4, rfl, rfl, hi⟩)⟩
          · exact ⟨funY a i, a, fun _ => h2 0 (by simp), fun _ => h2 1 (by simp), fun _ => .inl ⟨h4, rfl⟩⟩
      exact eval_two m M R F c Q x y0 y1 E i p0 p1 ea ec W hk hy hxi hxb hE hr hw hQ nw (hpart 0 y0 p0 (by rw [hy]; rfl) hp0 c (Nat.le_refl _) hc) (hpart 1 y1 p1 (by rw [hy]; rfl) hp1) hdo
    rcases hk with h | h | h | h | h | h | h | h | h | h
    · exact eval_var m M R F c Q x E i ea ec W h (hn h) n2 hE fit.ty hc hw
    · exact eval_lit m M R F c Q x E i ea ec W (.inl h) ⟨n1, n2⟩ (fun hm => ⟨_, (fit.ty hm).1⟩) hc hw
    · exact eval_lit m M R F c Q x E i ea ec W (.inr h) ⟨n1, n2⟩ (fun hm => ⟨_, (fit.ty hm).1⟩) hc hw
    · exact two_case (.inl h)
    · exact two_case (.inr (.inl h))
    · have hl3 : x.l.length = 3 := by rw [h] at hl; exact hl
      obtain ⟨y0, y1, y2, hy⟩ : ∃ y0 y1 y2, x.l = [y0, y1, y2] := by
        match hx : x.l, hl3 with
        | [a, b, d], _ => exact ⟨a, b, d, rfl⟩
      have hp : m = true → tyM (x.tm.at 0) (E.map Th.tyo) truthY ∧ tyM (x.tm.at 1) (E.map Th.tyo) i ∧ tyM (x.tm.at 2) (E.map Th.tyo) i := fun hm => by
        obtain ⟨ps, h1, h2, h3⟩ := hps hm
        rw [if_neg (by omega)] at h2
        rcases h3 with ⟨h', _⟩ | ⟨h', _⟩ | ⟨h', _⟩ | ⟨h', _⟩ | ⟨h', _⟩ | ⟨_, rfl⟩ | ⟨h', _⟩ | ⟨h', _⟩ | ⟨h', _⟩ | ⟨h', _⟩ <;> first | omega | skip
        exact ⟨h2 0 (by simp), h2 1 (by simp), h2 2 (by simp)⟩
      exact eval_if m M R F c Q x y0 y1 y2 E i ea ec W h hy hxi hxb hE hw hQ nw (hpart 0 y0 truthY (by rw [hy]; rfl) (fun hm => (hp hm).1) c (Nat.le_refl _) hc) (hpart 1 y1 i (by rw [hy]; rfl) fun hm => (hp hm).2.1) (hpart 2 y2 i (by rw [hy]; rfl) fun hm => (hp hm).2.2)
    · exact eval_fun m M R F c Q x E i ea ec W h hxi hxb fit.sh fit.sz hE fit.ty hc hw nw
    · exact two_case (.inr (.inr h))
    · obtain ⟨y, hy⟩ : ∃ y, x.l = [y] := List.length_eq_one_iff.1 (by rw [h] at hl; exact hl)
      refine eval_as m M R F c Q x y E i ea ec W h hy hxi hxb hE hw hQ nw (hpart 0 y i (by rw [hy]; rfl) (fun hm => ?_) c (Nat.le_refl _) hc)
      obtain ⟨ps, h1, h2, h3⟩ := hps hm
      rw [if_neg (by omega)] at h2
      rcases h3 with ⟨h', _⟩ | ⟨h', _⟩ | ⟨h', _⟩ | ⟨h', _⟩ | ⟨h', _⟩ | ⟨h', _⟩ | ⟨h', _⟩ | ⟨h', _⟩ | ⟨_, rfl, rfl⟩ | ⟨h', _⟩ <;> first | omega | skip
      exact h2 0 (by simp)
    · obtain ⟨y, hy⟩ : ∃ y, x.l = [y] := List.length_eq_one_iff.1 (by rw [h] at hl; exact hl)
      cases m with
      | false => exact absurd h (by have := (fit.sh.2 rfl).top; rwa [TT.tm_k] at this)
      | true =>
        obtain ⟨ps, h1, h2, h3⟩ := hps rfl
        rw [if_neg (by omega)] at h2
        rcases h3 with ⟨h', _⟩ | ⟨h', _⟩ | ⟨h', _⟩ | ⟨h', _⟩ | ⟨h', _⟩ | ⟨h', _⟩ | ⟨h', _⟩ | ⟨h', _⟩ | ⟨h', _⟩ | ⟨_, rfl, rfl, hf, g1, g2⟩ <;> first | omega | skip
        exact eval_cast M R F c Q x y E ea ec W h hy hxi hxb hE g1 g2 hf hw hQ nw (hpart 0 y x.f.ty (by rw [hy]; rfl) (fun _ => h2 0 (by simp)) c (Nat.le_refl _) hc)
/-- eval, whole. -/
theorem ev_all {m : Bool} {M R F : Nat} (hF : F ≤ 1000) (hM : M ≤ 10000) : ∀ (d c : Nat), F - c ≤ d → c ≤ F → EvAt m M R F c
  | 0, c, h, hc => ev_step hF hM hc fun c' h1 h2 => by omega
  | d + 1, c, h, hc => ev_step hF hM hc fun c' h1 h2 => ev_all hF hM d c' (by omega) h2
end Go.Proofs.YtnddkmccagiclabGreatDoor

/-
  How casts, values, scopes, tasks and a machine lie in memory; no program in it but its types' numbers.
-/
namespace Go.Proofs.YtnddkmccagiclabGreatDoor
open Go.RowKit
/-- What lies where: values, casts and scopes, by their blocks. -/
structure Gh where
  v : Nat → Option Val
  c : Nat → Option Ca
  s : Nat → Option (List Val)
def Gh.dom (G : Gh) (b : Nat) : Prop := G.v b ≠ none ∨ G.c b ≠ none ∨ G.s b ≠ none
def Gh.vp (G : Gh) (p : Option Addr) (v : Val) : Prop := ∃ b, p = some ⟨b, 0, none⟩ ∧ G.v b = some v
def Gh.cp (G : Gh) (p : Option Addr) (c : Option Ca) : Prop := (p = none ∧ c = none) ∨ ∃ b x, p = some ⟨b, 0, none⟩ ∧ c = some x ∧ G.c b = some x
def Gh.sp (G : Gh) (p : Option Addr) (e : List Val) : Prop := (p = none ∧ e = []) ∨ ∃ b, p = some ⟨b, 0, none⟩ ∧ G.s b = some e
structure Gh.le (G H : Gh) : Prop where
  v : ∀ b x, G.v b = some x → H.v b = some x
  c : ∀ b x, G.c b = some x → H.c b = some x
  s : ∀ b x, G.s b = some x → H.s b = some x
theorem Gh.le.refl (G : Gh) : G.le G := ⟨fun _ _ h => h, fun _ _ h => h, fun _ _ h => h⟩
theorem Gh.le.trans {G H K : Gh} (h : G.le H) (h' : H.le K) : G.le K := ⟨fun b x e => h'.v b x (h.v b x e), fun b x e => h'.c b x (h.c b x e), fun b x e => h'.s b x (h.s b x e)⟩
theorem Gh.vp.le {G H : Gh} {p : Option Addr} {v : Val} (h : G.vp p v) (hl : G.le H) : H.vp p v := by
  obtain ⟨b, e, hb⟩ := h; exact ⟨b, e, hl.v b v hb⟩
theorem Gh.cp.le {G H : Gh} {p : Option Addr} {c : Option Ca} (h : G.cp p c) (hl : G.le H) : H.cp p c := by
  rcases h with h | ⟨b, x, e, e', hb⟩
  · exact .inl h
  · exact .inr ⟨b, x, e, e', hl.c b x hb⟩
theorem Gh.sp.le {G H : Gh} {p : Option Addr} {e : List Val} (h : G.sp p e) (hl : G.le H) : H.sp p e := by
  rcases h with h | ⟨b, e', hb⟩
  · exact .inl h
  · exact .inr ⟨b, e', hl.s b e hb⟩
theorem Gh.cp_none (G : Gh) : G.cp none none := .inl ⟨rfl, rfl⟩
theorem Gh.sp_nil (G : Gh) : G.sp none [] := .inl ⟨rfl, rfl⟩
/-- Where a term lies, in the world in which the run begins. -/
def TmP (w0 : World) (p : Option Addr) (x : Tm) : Prop := ∃ (b o : Nat) (y : TT), p = some ⟨b, o, none⟩ ∧ At7 w0 b o y ∧ y.In w0 ∧ y.tm = x
/-- A value's cells. -/
def VAt (w0 w : World) (G : Gh) (b : Nat) (v : Val) : Prop := ∃ pb ps pi pg pa : Option Addr,
  w.cell? ⟨b, 0, none⟩ = some (.int .i64 v.k) ∧ w.cell? ⟨b, 1, none⟩ = some (.int .i64 v.n) ∧ w.cell? ⟨b, 2, none⟩ = some (.pointer pb) ∧ w.cell? ⟨b, 3, none⟩ = some (.pointer ps) ∧ w.cell? ⟨b, 4, none⟩ = some (.pointer pi) ∧ w.cell? ⟨b, 5, none⟩ = some (.pointer pg) ∧ w.cell? ⟨b, 6, none⟩ = some (.pointer pa) ∧ w.cell? ⟨b, 7, none⟩ = some (.int .i64 v.as) ∧
  (v.k = 3 → TmP w0 pb v.body ∧ G.sp ps v.env) ∧ (v.k = 4 ∨ v.k = 5 → ∃ u, v.inn = [u] ∧ G.vp pi u) ∧ G.cp pg v.given ∧ G.cp pa v.answer
/-- A cast's cells. -/
structure CAt (w : World) (b : Nat) (c : Ca) (pg pa : Option Addr) : Prop where
  c0 : w.cell? ⟨b, 0, none⟩ = some (.bool c.opens)
  c1 : w.cell? ⟨b, 1, none⟩ = some (.int .i64 c.wrong.k)
  c2 : w.cell? ⟨b, 2, none⟩ = some (.int .i64 c.wrong.n)
  c3 : w.cell? ⟨b, 3, none⟩ = some (.bool c.wrong.b)
  c4 : w.cell? ⟨b, 4, none⟩ = some (.int .i64 c.kind)
  c5 : w.cell? ⟨b, 5, none⟩ = some (.int .i64 c.ends.k)
  c6 : w.cell? ⟨b, 6, none⟩ = some (.int .i64 c.ends.n)
  c7 : w.cell? ⟨b, 7, none⟩ = some (.bool c.ends.b)
  c8 : w.cell? ⟨b, 8, none⟩ = some (.pointer pg)
  c9 : w.cell? ⟨b, 9, none⟩ = some (.pointer pa)
  c10 : w.cell? ⟨b, 10, none⟩ = some (.bool c.hides)
/-- A scope's cells. -/
def SAt (w : World) (G : Gh) (b : Nat) (e : List Val) : Prop := ∃ v r pv ps, e = v :: r ∧ w.cell? ⟨b, 0, none⟩ = some (.pointer pv) ∧ w.cell? ⟨b, 1, none⟩ = some (.pointer ps) ∧ G.vp pv v ∧ G.sp ps r
structure HG (w0 w : World) (G : Gh) : Prop where
  v : ∀ b x, G.v b = some x → VAt w0 w G b x
  c : ∀ b x, G.c b = some x → ∃ pg pa, CAt w b x pg pa ∧ G.cp pg x.given ∧ G.cp pa x.answer
  s : ∀ b x, G.s b = some x → SAt w G b x
theorem CAt.of {w w' : World} {b : Nat} {c : Ca} {pg pa : Option Addr} (h : CAt w b c pg pa) (e : ∀ i, w'.cell? ⟨b, i, none⟩ = w.cell? ⟨b, i, none⟩) : CAt w' b c pg pa :=
  ⟨(e _).trans h.c0, (e _).trans h.c1, (e _).trans h.c2, (e _).trans h.c3, (e _).trans h.c4, (e _).trans h.c5, (e _).trans h.c6, (e _).trans h.c7, (e _).trans h.c8, (e _).trans h.c9, (e _).trans h.c10⟩
theorem VAt.of {w0 w w' : World} {G H : Gh} {b : Nat} {v : Val} (h : VAt w0 w G b v) (hl : G.le H) (e : ∀ i, w'.cell? ⟨b, i, none⟩ = w.cell? ⟨b, i, none⟩) : VAt w0 w' H b v := by
  obtain ⟨pb, ps, pi, pg, pa, h0, h1, h2, h3, h4, h5, h6, h7, a1, a2, a3, a4⟩ := h
  refine ⟨pb, ps, pi, pg, pa, (e _).trans h0, (e _).trans h1, (e _).trans h2, (e _).trans h3, (e _).trans h4, (e _).trans h5, (e _).trans h6, (e _).trans h7, fun hk => ⟨(a1 hk).1, (a1 hk).2.le hl⟩, fun hk => ?_, a3.le hl, a4.le hl⟩
  obtain ⟨u, e1, e2⟩ := a2 hk
  exact ⟨u, e1, e2.le hl⟩
theorem SAt.of {w w' : World} {G H : Gh} {b : Nat} {x : List Val} (h : SAt w G b x) (hl : G.le H) (e : ∀ i, w'.cell? ⟨b, i, none⟩ = w.cell? ⟨b, i, none⟩) : SAt w' H b x := by
  obtain ⟨v, r, pv, ps, e0, h0, h1, h2, h3⟩ := h
  exact ⟨v, r, pv, ps, e0, (e _).trans h0, (e _).trans h1, h2.le hl, h3.le hl⟩
theorem HG.of {w0 w w' : World} {G : Gh} (h : HG w0 w G) (e : ∀ b, G.dom b → ∀ i, w'.cell? ⟨b, i, none⟩ = w.cell? ⟨b, i, none⟩) : HG w0 w' G := by
  refine ⟨fun b x hb => (h.v b x hb).of (Gh.le.refl G) (e b (.inl (by rw [hb]; simp))), fun b x hb => ?_, fun b x hb => (h.s b x hb).of (Gh.le.refl G) (e b (.inr (.inr (by rw [hb]; simp))))⟩
  obtain ⟨pg, pa, h1, h2, h3⟩ := h.c b x hb
  exact ⟨pg, pa, h1.of (e b (.inr (.inl (by rw [hb]; simp)))), h2, h3⟩
theorem HG.lt {w0 w : World} {G : Gh} (h : HG w0 w G) {b : Nat} (hb : G.dom b) : b < w.heap.size := by
  rcases hb with hb | hb | hb
  · obtain ⟨x, hx⟩ := Option.ne_none_iff_exists'.1 hb
    obtain ⟨pb, ps, pi, pg, pa, h0, _⟩ := h.v b x hx
    exact World.block_lt_of_cell? _ _ h0
  · obtain ⟨x, hx⟩ := Option.ne_none_iff_exists'.1 hb
    obtain ⟨pg, pa, h0, _⟩ := h.c b x hx
    exact World.block_lt_of_cell? _ _ h0.c0
  · obtain ⟨x, hx⟩ := Option.ne_none_iff_exists'.1 hb
    obtain ⟨v, r, pv, ps, _, h0, _⟩ := h.s b x hx
    exact World.block_lt_of_cell? _ _ h0
def Gh.addV (G : Gh) (b : Nat) (x : Val) : Gh := ⟨fun k => if k = b then some x else G.v k, G.c, G.s⟩
def Gh.addC (G : Gh) (b : Nat) (x : Ca) : Gh := ⟨G.v, fun k => if k = b then some x else G.c k, G.s⟩
def Gh.addS (G : Gh) (b : Nat) (x : List Val) : Gh := ⟨G.v, G.c, fun k => if k = b then some x else G.s k⟩
theorem Gh.le_addV {G : Gh} {b : Nat} {x : Val} (h : ¬ G.dom b) : G.le (G.addV b x) := by
  refine ⟨fun k y hy => ?_, fun _ _ h => h, fun _ _ h => h⟩
  have : k ≠ b := fun e => h (.inl (by rw [← e, hy]; simp))
  simp [Gh.addV, this, hy]
theorem Gh.le_addC {G : Gh} {b : Nat} {x : Ca} (h : ¬ G.dom b) : G.le (G.addC b x) := by
  refine ⟨fun _ _ h => h, fun k y hy => ?_, fun _ _ h => h⟩
  have : k ≠ b := fun e => h (.inr (.inl (by rw [← e, hy]; simp)))
  simp [Gh.addC, this, hy]
theorem Gh.le_addS {G : Gh} {b : Nat} {x : List Val} (h : ¬ G.dom b) : G.le (G.addS b x) := by
  refine ⟨fun _ _ h => h, fun _ _ h => h, fun k y hy => ?_⟩
  have : k ≠ b := fun e => h (.inr (.inr (by rw [← e, hy]; simp)))
  simp [Gh.addS, this, hy]
theorem Gh.dom_addV {G : Gh} {b k : Nat} {x : Val} (h : (G.addV b x).dom k) : k = b ∨ G.dom k := by
  by_cases e : k = b
  · exact .inl e
  · right
    rcases h with h | h | h
    · left; simpa [Gh.addV, e] using h
    · exact .inr (.inl h)
    · exact .inr (.inr h)
theorem Gh.dom_addC {G : Gh} {b k : Nat} {x : Ca} (h : (G.addC b x).dom k) : k = b ∨ G.dom k := by
  by_cases e : k = b
  · exact .inl e
  · right
    rcases h with h | h | h
    · exact .inl h
    · right; left; simpa [Gh.addC, e] using h
    · exact .inr (.inr h)
theorem Gh.dom_addS {G : Gh} {b k : Nat} {x : List Val} (h : (G.addS b x).dom k) : k = b ∨ G.dom k := by
  by_cases e : k = b
  · exact .inl e
  · right
    rcases h with h | h | h
    · exact .inl h
    · exact .inr (.inl h)
    · right; right; simpa [Gh.addS, e] using h
theorem Gh.vp_addV (G : Gh) (b : Nat) (x : Val) : (G.addV b x).vp (some ⟨b, 0, none⟩) x := ⟨b, rfl, by simp [Gh.addV]⟩
theorem Gh.cp_addC (G : Gh) (b : Nat) (x : Ca) : (G.addC b x).cp (some ⟨b, 0, none⟩) (some x) := .inr ⟨b, x, rfl, rfl, by simp [Gh.addC]⟩
theorem Gh.sp_addS (G : Gh) (b : Nat) (x : List Val) : (G.addS b x).sp (some ⟨b, 0, none⟩) x := .inr ⟨b, rfl, by simp [Gh.addS]⟩
theorem HG.addV {w0 w : World} {G : Gh} (h : HG w0 w G) {b : Nat} {x : Val} (hn : ¬ G.dom b) (hx : VAt w0 w G b x) : HG w0 w (G.addV b x) := by
  have hl := Gh.le_addV (x := x) hn
  refine ⟨fun k y hy => ?_, fun k y hy => ?_, fun k y hy => (h.s k y hy).of hl fun _ => rfl⟩
  · by_cases e : k = b
    · subst e
      have : y = x := by simpa [Gh.addV] using hy.symm
      rw [this]; exact hx.of hl fun _ => rfl
    · exact (h.v k y (by simpa [Gh.addV, e] using hy)).of hl fun _ => rfl
  · obtain ⟨pg, pa, h1, h2, h3⟩ := h.c k y hy
    exact ⟨pg, pa, h1, h2.le hl, h3.le hl⟩
theorem HG.addC {w0 w : World} {G : Gh} (h : HG w0 w G) {b : Nat} {x : Ca} (hn : ¬ G.dom b) {pg pa : Option Addr} (hx : CAt w b x pg pa) (hg : G.cp pg x.given) (ha : G.cp pa x.answer) : HG w0 w (G.addC b x) := by
  have hl := Gh.le_addC (x := x) hn
  refine ⟨fun k y hy => (h.v k y hy).of hl fun _ => rfl, fun k y hy => ?_, fun k y hy => (h.s k y hy).of hl fun _ => rfl⟩
  by_cases e : k = b
  · subst e
    have : y = x := by simpa [Gh.addC] using hy.symm
    rw [this]; exact ⟨pg, pa, hx, hg.le hl, ha.le hl⟩
  · obtain ⟨pg, pa, h1, h2, h3⟩ := h.c k y (by simpa [Gh.addC, e] using hy)
    exact ⟨pg, pa, h1, h2.le hl, h3.le hl⟩
theorem HG.addS {w0 w : World} {G : Gh} (h : HG w0 w G) {b : Nat} {x : List Val} (hn : ¬ G.dom b) (hx : SAt w G b x) : HG w0 w (G.addS b x) := by
  have hl := Gh.le_addS (x := x) hn
  refine ⟨fun k y hy => (h.v k y hy).of hl fun _ => rfl, fun k y hy => ?_, fun k y hy => ?_⟩
  · obtain ⟨pg, pa, h1, h2, h3⟩ := h.c k y hy
    exact ⟨pg, pa, h1, h2.le hl, h3.le hl⟩
  · by_cases e : k = b
    · subst e
      have : y = x := by simpa [Gh.addS] using hy.symm
      rw [this]; exact hx.of hl fun _ => rfl
    · exact (h.s k y (by simpa [Gh.addS, e] using hy)).of hl fun _ => rfl
/-- The number by which the program knows a task. -/
def dOf (d : Int) : Int := if d = 7 then 5 else d
def TkP (w0 : World) (G : Gh) (t : Task) (d : Int) (pt ps pc : Option Addr) : Prop := d = dOf t.d ∧ (t.d = 1 ∨ t.d = 4 → TmP w0 pt t.x ∧ G.sp ps t.s) ∧ G.cp pc t.c
/-- The tasks' cells, the next one last. -/
def TRep (w0 : World) (G : Gh) : List Task → List Value → Prop
  | [], xs => xs = []
  | t :: ts, xs => ∃ ys d pt ps pc, xs = ys ++ [.int .i64 d, .pointer pt, .pointer ps, .pointer pc] ∧ TRep w0 G ts ys ∧ TkP w0 G t d pt ps pc
/-- The values' cells, the last one last. -/
def VRep (G : Gh) : List Val → List Value → Prop
  | [], xs => xs = []
  | v :: vs, xs => ∃ ys p, xs = ys ++ [.pointer p] ∧ VRep G vs ys ∧ G.vp p v
theorem TkP.le {w0 : World} {G H : Gh} (hl : G.le H) {t : Task} {d : Int} {pt ps pc : Option Addr} (h : TkP w0 G t d pt ps pc) : TkP w0 H t d pt ps pc :=
  ⟨h.1, fun hd => ⟨(h.2.1 hd).1, (h.2.1 hd).2.le hl⟩, h.2.2.le hl⟩
theorem TRep.le {w0 : World} {G H : Gh} (hl : G.le H) : ∀ {ts : List Task} {xs : List Value}, TRep w0 G ts xs → TRep w0 H ts xs
  | [], _, h => h
  | _ :: _, _, ⟨ys, d, pt, ps, pc, e, h1, h2⟩ => ⟨ys, d, pt, ps, pc, e, h1.le hl, h2.le hl⟩
theorem VRep.le {G H : Gh} (hl : G.le H) : ∀ {vs : List Val} {xs : List Value}, VRep G vs xs → VRep H vs xs
  | [], _, h => h
  | _ :: _, _, ⟨ys, p, e, h1, h2⟩ => ⟨ys, p, e, h1.le hl, h2.le hl⟩
/-- A block that holds one of the machine's lists. -/
def rowB (w : World) (M k : Nat) : Prop := ∃ v : Value, v.ownBlock = some k ∧ (w.cell? ⟨M, 0, none⟩ = some v ∨ w.cell? ⟨M, 1, none⟩ = some v)
/-- But for the machine and its lists all is as it was. -/
structure Fr (M : Nat) (w w' : World) : Prop where
  os : w'.os = w.os
  tape : w'.tape = w.tape
  output : w'.output = w.output
  size : w.heap.size ≤ w'.heap.size
  block : ∀ k, k < w.heap.size → k ≠ M → ¬ rowB w M k → w'.heap[k]? = w.heap[k]? ∧ ¬ rowB w' M k
theorem Fr.refl (M : Nat) (w : World) : Fr M w w := ⟨rfl, rfl, rfl, Nat.le_refl _, fun _ _ _ h => ⟨rfl, h⟩⟩
theorem Fr.trans {M : Nat} {a b c : World} (h : Fr M a b) (h' : Fr M b c) : Fr M a c := by
  refine ⟨h'.os.trans h.os, h'.tape.trans h.tape, h'.output.trans h.output, Nat.le_trans h.size h'.size, fun k hk h1 h2 => ?_⟩
  obtain ⟨e1, e2⟩ := h.block k hk h1 h2
  obtain ⟨e3, e4⟩ := h'.block k (Nat.lt_of_lt_of_le hk h.size) h1 e2
  exact ⟨e3.trans e1, e4⟩
theorem Fr.cell {M : Nat} {w w' : World} (h : Fr M w w') {k : Nat} (hk : k < w.heap.size) (h1 : k ≠ M) (h2 : ¬ rowB w M k) (i : Nat) : w'.cell? ⟨k, i, none⟩ = w.cell? ⟨k, i, none⟩ :=
  World.cell?_of_block (a := ⟨k, i, none⟩) (h.block k hk h1 h2).1
theorem Fr.frozen {M : Nat} {w w' : World} (h : Fr M w w') {k : Nat} (hk : k < w.heap.size) (h1 : k ≠ M) (h2 : ¬ rowB w M k) (i : Nat) : w'.frozen? ⟨k, i, none⟩ = w.frozen? ⟨k, i, none⟩ :=
  World.frozen?_of_block (a := ⟨k, i, none⟩) (h.block k hk h1 h2).1
theorem rowB.congr {w w' : World} {M k : Nat} (h0 : w'.cell? ⟨M, 0, none⟩ = w.cell? ⟨M, 0, none⟩) (h1 : w'.cell? ⟨M, 1, none⟩ = w.cell? ⟨M, 1, none⟩) (h : rowB w' M k) : rowB w M k := by
  obtain ⟨v, e, h⟩ := h
  rw [h0, h1] at h
  exact ⟨v, e, h⟩
/-- What leaves all that was there is such a change. -/
theorem Fr.below {M : Nat} {w w' : World} (h : Below w.heap.size w w') (hM : M < w.heap.size) : Fr M w w' :=
  ⟨h.os, h.tape, h.output, h.size, fun k hk _ h2 => ⟨h.block k hk, fun hr => h2 (hr.congr (h.cell (p := ⟨M, 0, none⟩) hM) (h.cell (p := ⟨M, 1, none⟩) hM))⟩⟩
/-- The machine. -/
structure MS (w0 w : World) (M : Nat) (G : Gh) (s : St) : Prop where
  ex : ∃ tv mv txs mxs, w.cell? ⟨M, 0, none⟩ = some tv ∧ w.cell? ⟨M, 1, none⟩ = some mv ∧ w.ownsRow (M + 1) 130 4 tv s.ts.length txs ∧ w.ownsRow (M + 1) 132 1 mv s.vs.length mxs ∧ (∀ g, tv.ownBlock = some g → mv.ownBlock = some g → False) ∧ TRep w0 G s.ts txs ∧ VRep G s.vs mxs
  c2 : w.cell? ⟨M, 2, none⟩ = some (.int .i64 s.calls)
  c3 : w.cell? ⟨M, 3, none⟩ = some (.int .i64 s.fuel)
  c4 : w.cell? ⟨M, 4, none⟩ = some (.int .i64 s.ended.k)
  c5 : w.cell? ⟨M, 5, none⟩ = some (.int .i64 s.ended.n)
  c6 : w.cell? ⟨M, 6, none⟩ = some (.bool s.ended.b)
  fz : ∀ o, w.frozen? ⟨M, o, none⟩ = false
  hg : HG w0 w G
  far : ∀ b, G.dom b → b ≠ M ∧ ¬ rowB w M b
  bel : Below w0.heap.size w0 w
  lo : w0.heap.size ≤ M
theorem MS.lt {w0 w : World} {M : Nat} {G : Gh} {s : St} (h : MS w0 w M G s) : M < w.heap.size := World.block_lt_of_cell? _ _ h.c2
/-- What leaves all that was there leaves the machine. -/
theorem MS.below {w0 w w' : World} {M : Nat} {G : Gh} {s : St} (h : MS w0 w M G s) (hb : Below w.heap.size w w') : MS w0 w' M G s := by
  have hM := h.lt
  have hc : ∀ i, w'.cell? ⟨M, i, none⟩ = w.cell? ⟨M, i, none⟩ := fun i => hb.cell (p := ⟨M, i, none⟩) hM
  obtain ⟨tv, mv, txs, mxs, h0, h1, o0, o1, hn, ht, hv⟩ := h.ex
  have row : ∀ {e sz : Nat} {v : Value} {n : Nat} {xs : List Value}, w.ownsRow (M + 1) e sz v n xs → w'.ownsRow (M + 1) e sz v n xs := by
    intro e sz v n xs ho
    refine ⟨ho.1, ?_⟩
    rcases ho.2 with hn | ⟨g, cap, cur, rfl, hbb, hgg, rest⟩
    · exact .inl hn
    · exact .inr ⟨g, cap, cur, rfl, hbb, by rw [hb.block g (Array.getElem?_eq_some_iff.1 hgg).1]; exact hgg, rest⟩
  refine ⟨⟨tv, mv, txs, mxs, (hc 0).trans h0, (hc 1).trans h1, row o0, row o1, hn, ht, hv⟩, (hc 2).trans h.c2, (hc 3).trans h.c3, (hc 4).trans h.c4, (hc 5).trans h.c5, (hc 6).trans h.c6, fun o => (hb.frozen (p := ⟨M, o, none⟩) hM).trans (h.fz o), ?_, fun b hd => ⟨(h.far b hd).1, fun hr => (h.far b hd).2 (hr.congr (hc 0) (hc 1))⟩, h.bel.trans (hb.mono h.bel.size), h.lo⟩
  exact h.hg.of fun b hd i => hb.cell (p := ⟨b, i, none⟩) (h.hg.lt hd)
/-- More lies in memory. -/
theorem MS.grow {w0 w : World} {M : Nat} {G H : Gh} {s : St} (h : MS w0 w M G s) (hl : G.le H) (hh : HG w0 w H) (hf : ∀ b, H.dom b → b ≠ M ∧ ¬ rowB w M b) : MS w0 w M H s := by
  obtain ⟨tv, mv, txs, mxs, h0, h1, o0, o1, hn, ht, hv⟩ := h.ex
  exact ⟨⟨tv, mv, txs, mxs, h0, h1, o0, o1, hn, ht.le hl, hv.le hl⟩, h.c2, h.c3, h.c4, h.c5, h.c6, h.fz, hh, hf, h.bel, h.lo⟩
end Go.Proofs.YtnddkmccagiclabGreatDoor
