/-
  What the calls of the machine's enter, accompany, call and change do.
-/
import Derived.Test.YtnddkmccagiclabGreatDoorLota7255c2d0a
import Derived.Test.YtnddkmccagiclabGreatDoorLotd76c694fc3
namespace Go.Proofs.YtnddkmccagiclabGreatDoor
open Go.RowKit
theorem scope_new {w0 w W : World} {G : Gh} (hG : HG w0 w G) (hb : Below w.heap.size w W) {e : List Val} (hv : SAt W G w.heap.size e) : HPost w0 w G W (G.addS w.heap.size e) ∧ (G.addS w.heap.size e).sp (some ⟨w.heap.size, 0, none⟩) e := by
  have hd : ¬ G.dom w.heap.size := fun h => by have := hG.lt h; omega
  refine ⟨⟨Gh.le_addS hd, (hG.below hb).addS hd hv, hb, fun b h => ?_⟩, Gh.sp_addS _ _ _⟩
  rcases Gh.dom_addS h with rfl | h
  · exact .inr (Nat.le_refl _)
  · exact .inl h
set_option maxRecDepth 20000 in
set_option maxHeartbeats 2000000 in
theorem enter_raw {w0 w : World} {M : Nat} {G : Gh} {s : St} (h : MS w0 w M G s) (hn : s.ts.length + 1 ≤ 1000000000) (hc : s.calls ≤ 1000) {pf pg : Option Addr} {f g : Val} (hf : G.vp pf f) (hg : G.vp pg g) (hk : f.k = 3) :
    Calls Tryz.prog 155 #[.pointer (some ⟨M, 0, none⟩), .pointer pf, .pointer pg] w (StPost w0 w M G (enterS s f g)) := by
  obtain ⟨b, rfl, hb⟩ := hf
  obtain ⟨pb, ps, pi, pga, pa, h0, h1, h2, h3, h4, h5, h6, h7, a1, a2, a3, a4⟩ := h.hg.v b f hb
  obtain ⟨hbody, henv⟩ := a1 hk
  have lb : b < w.heap.size := World.block_lt_of_cell? _ _ h0
  have lM := h.lt
  have m2 := h.c2
  have m3 := h.c3
  have g2 := h.fz 2
  have hbM := (h.far b (.inl (by rw [hb]; simp))).1
  obtain ⟨S', hS⟩ : ∃ S', S' = enterS s f g := ⟨_, rfl⟩
  rw [← hS]
  by_cases hcf : s.calls = s.fuel
  · have HS : Hid (S' = s.stop fuelO) := by rw [hS]; unfold enterS; rw [if_pos hcf]; rfl
    have e1 : ((s.calls : Int) == (s.fuel : Int)) = true := by rw [hcf]; simp
    have H : Hid (MS w0 w M G s) := h
    clear hS hcf h hn hc hg a1 a2 a3 a4 hbody henv h0 h1 h2 h3 h4 h5 h6 h7
    go_enter Tryz.func155, Tryz.ntmps155
    go_wp2_with fail
    go_quiet (fail)
    go_wp2_with fail
    refine (end_any (H.out.below (below_rN (Below.refl _ _) _)) fuelO).mono ?_
    rintro e w1 ⟨rfl, x1, x2⟩
    have HE : Hid (StPost w0 w M G S' (.returned (.tuple #[])) w1) := by rw [HS.out]; exact StPost.of rfl x1 ((Fr.below (below_rN (Below.refl _ _) _) lM).trans x2)
    clear x1 x2
    go_wp2_with fail
    go_end0
    exact HE.out
  · have HS : Hid (S' = ⟨lookT f.body (g :: f.env) :: s.ts, s.vs, s.calls + 1, s.fuel, s.ended⟩) := by rw [hS]; unfold enterS; rw [if_neg hcf]; rfl
    have e1 : ((s.calls : Int) == (s.fuel : Int)) = false := by simp; omega
    have H : Hid (MS w0 w M G s ∧ s.ts.length + 1 ≤ 1000000000 ∧ G.vp pg g ∧ TmP w0 pb f.body ∧ G.sp ps f.env) := ⟨h, hn, hg, hbody, henv⟩
    clear hS hcf h hn hg a1 a2 a3 a4 hbody henv h0 h1 h4 h5 h6 h7
    go_enter Tryz.func155, Tryz.ntmps155
    go_wp2_with fail
    go_quiet (fail)
    go_wp2_with fail
    obtain ⟨W2, hW2⟩ : ∃ W, W = (w.drewN nq).setCell ⟨M, 2, none⟩ (.int .i64 ((s.calls : Int) + 1)) := ⟨_, rfl⟩
    have hms : MS w0 W2 M G ⟨s.ts, s.vs, s.calls + 1, s.fuel, s.ended⟩ ∧ Fr M w W2 := by
      rw [hW2]
      refine H.out.1.set (s' := ⟨s.ts, s.vs, s.calls + 1, s.fuel, s.ended⟩) _ ?_ ?_ rfl rfl ⟨rfl, rfl, rfl, by simp [World.setCell], fun k hk h1 _ => Below.heap_setCell _ _ _ _ h1⟩ ?_ ?_ ?_ ?_ ?_ ?_
      · rw [set_other (by omega)]; rfl
      · rw [set_other (by omega)]; rfl
      · have := set_same (u := w.drewN nq) (v := .int .i64 ((s.calls : Int) + 1)) (j := 2) (b := M) H.out.1.c2
        simpa using this
      · rw [set_other (by omega)]; exact H.out.1.c3
      · rw [set_other (by omega)]; exact H.out.1.c4
      · rw [set_other (by omega)]; exact H.out.1.c5
      · rw [set_other (by omega)]; exact H.out.1.c6
      · intro i; simpa using H.out.1.fz i
    have k2 : W2.cell? ⟨b, 2, none⟩ = some (.pointer pb) := by rw [hW2, World.cell?_setCell_far _ _ _ _ (by intro e; exact hbM e.symm)]; exact h2
    have k3 : W2.cell? ⟨b, 3, none⟩ = some (.pointer ps) := by rw [hW2, World.cell?_setCell_far _ _ _ _ (by intro e; exact hbM e.symm)]; exact h3
    have lb2 : b < W2.heap.size := World.block_lt_of_cell? _ _ k2
    have lM2 := hms.1.lt
    have HP : Hid (Calls Tryz.prog 72 #[.pointer (some ⟨M, 0, none⟩), .agg #[.int .i64 1, .pointer pb, .pointer (some ⟨W2.heap.size, 0, none⟩), .pointer none]] (W2.alloc (.cells #[.pointer pg, .pointer ps] 223)).drew fun e w' => e = .returned (.tuple #[]) ∧ Hid (StPost w0 w M G S' (.returned (.tuple #[])) w')) := by
      have hb2 : Below W2.heap.size W2 (W2.alloc (.cells #[.pointer pg, .pointer ps] 223)).drew := ((Below.refl _ _).alloc (Nat.le_refl _) _).drew
      obtain ⟨r1, r2⟩ := scope_new (e := g :: f.env) hms.1.hg hb2 ⟨g, f.env, pg, ps, rfl, by simp [go_sem], by simp [go_sem], H.out.2.2.1, H.out.2.2.2.2⟩
      obtain ⟨m1, m2⟩ := hms.1.post r1
      refine (plan_any m1 (TkP.look H.out.2.2.2.1 r2) H.out.2.1).mono ?_
      rintro e w' ⟨rfl, x1, x2⟩
      refine ⟨rfl, ?_⟩
      rw [HS.out]
      exact ⟨rfl, _, r1.le, x1, hms.2.trans (m2.trans x2)⟩
    rw [← hW2]
    clear hW2 hms h2 h3 m2 m3 g2
    go_region_with (go_at_call 72; refine HP.out.mono ?_; rintro e w3 ⟨rfl, HE⟩)
    all_goals
      go_wp2_with fail
      go_end0
      exact HE.out
set_option maxRecDepth 20000 in
set_option maxHeartbeats 2000000 in
theorem accomp_raw {w0 w : World} {M : Nat} {G : Gh} {s : St} (h : MS w0 w M G s) (hn : s.ts.length + 3 ≤ 1000000000) (hv : s.vs.length + 2 ≤ 1000000000) {pf pg : Option Addr} {f g : Val} (hf : G.vp pf f) (hg : G.vp pg g) (hk : f.k = 4) :
    Calls Tryz.prog 156 #[.pointer (some ⟨M, 0, none⟩), .pointer pf, .pointer pg] w (StPost w0 w M G (accompS s f g)) := by
  obtain ⟨b, rfl, hb⟩ := hf
  have cells : ∀ W, HG w0 W G → ∃ pi pga pa, W.cell? ⟨b, 4, none⟩ = some (.pointer pi) ∧ W.cell? ⟨b, 5, none⟩ = some (.pointer pga) ∧ W.cell? ⟨b, 6, none⟩ = some (.pointer pa) ∧ G.vp pi f.core ∧ G.cp pga f.given ∧ G.cp pa f.answer ∧ b < W.heap.size := fun W hW => by
    obtain ⟨pb, ps, pi, pga, pa, h0, h1, h2, h3, h4, h5, h6, h7, a1, a2, a3, a4⟩ := hW.v b f hb
    obtain ⟨u, hi, hu⟩ := a2 (.inl hk)
    have hcore : f.core = u := by unfold Val.core; rw [hi]; rfl
    exact ⟨pi, pga, pa, h4, h5, h6, by rw [hcore]; exact hu, a3, a4, World.block_lt_of_cell? _ _ h0⟩
  have HC : Hid (∀ W, HG w0 W G → ∃ pi pga pa, W.cell? ⟨b, 4, none⟩ = some (.pointer pi) ∧ W.cell? ⟨b, 5, none⟩ = some (.pointer pga) ∧ W.cell? ⟨b, 6, none⟩ = some (.pointer pa) ∧ G.vp pi f.core ∧ G.cp pga f.given ∧ G.cp pa f.answer ∧ b < W.heap.size) := cells
  obtain ⟨pi, pga, pa, c4, _, _, i1, _, _, lb⟩ := cells w h.hg
  have H : Hid (MS w0 w M G s ∧ G.vp pi f.core ∧ G.vp pg g ∧ s.ts.length + 3 ≤ 1000000000 ∧ s.vs.length + 2 ≤ 1000000000) := ⟨h, i1, hg, hn, hv⟩
  clear h i1 hg hn hv cells hk hb
  go_enter Tryz.func156, Tryz.ntmps156
  go_wp2_with fail
  refine (keep_any H.out.1 H.out.2.1 (by have := H.out.2.2.2.2; omega)).mono ?_
  rintro e w1 ⟨rfl, h1, f1⟩
  have H1 : Hid (MS w0 w1 M G (s.push f.core) ∧ Fr M w w1) := ⟨h1, f1⟩
  clear h1 f1 c4 lb
  go_wp2_with fail
  refine (keep_any H1.out.1 H.out.2.2.1 (by have := H.out.2.2.2.2; simp only [St.push, List.length_cons]; omega)).mono ?_
  rintro e w2 ⟨rfl, h2, f2⟩
  obtain ⟨_, _, pa2, _, _, c6, _, _, i6, lb⟩ := HC.out w2 h2.hg
  have H2 : Hid (MS w0 w2 M G ((s.push f.core).push g) ∧ Fr M w w2 ∧ G.cp pa2 f.answer) := ⟨h2, H1.out.2.trans f2, i6⟩
  clear h2 f2 i6
  go_wp2_with fail
  refine (plan_any H2.out.1 (TkP.change H2.out.2.2) (by have := H.out.2.2.2.1; simp only [St.push]; omega)).mono ?_
  rintro e w3 ⟨rfl, h3, f3⟩
  have H3 : Hid (MS w0 w3 M G (((s.push f.core).push g).plan (changeT f.answer)) ∧ Fr M w w3) := ⟨h3, H2.out.2.1.trans f3⟩
  clear h3 f3 c6 lb
  go_wp2_with fail
  refine (plan_any (t := doT 7) H3.out.1 (TkP.do_ (w0 := w0) (G := G) 7 (by omega) (by omega)) (by have := H.out.2.2.2.1; simp only [St.push, St.plan, List.length_cons]; omega)).mono ?_
  rintro e w4 ⟨rfl, h4, f4⟩
  obtain ⟨_, pg4, _, _, c5, _, _, i5, _, lb⟩ := HC.out w4 h4.hg
  have H4 : Hid (MS w0 w4 M G ((((s.push f.core).push g).plan (changeT f.answer)).plan (doT 7)) ∧ Fr M w w4 ∧ G.cp pg4 f.given) := ⟨h4, H3.out.2.trans f4, i5⟩
  clear h4 f4 i5
  go_wp2_with fail
  refine (plan_any H4.out.1 (TkP.change H4.out.2.2) (by have := H.out.2.2.2.1; simp only [St.push, St.plan, List.length_cons]; omega)).mono ?_
  rintro e w5 ⟨rfl, h5, f5⟩
  have HE : Hid (StPost w0 w M G (accompS s f g) (.returned (.tuple #[])) w5) := StPost.of rfl h5 (H4.out.2.1.trans f5)
  clear h5 f5
  go_wp2_with fail
  go_end0
  exact HE.out
set_option maxRecDepth 20000 in
set_option maxHeartbeats 2000000 in
theorem call_raw {w0 w : World} {M : Nat} {G : Gh} {ts : List Task} {u v : Val} {r : List Val} {ca fu : Nat} {en : Out} (h : MS w0 w M G ⟨ts, v :: u :: r, ca, fu, en⟩) (hr : r.length + 2 ≤ 1000000000) (hn : ts.length + 3 ≤ 1000000000) (hc : ca ≤ 1000) :
    Calls Tryz.prog 115 #[.pointer (some ⟨M, 0, none⟩)] w (StPost w0 w M G (callS ⟨ts, r, ca, fu, en⟩ u v)) := by
  have H : Hid (MS w0 w M G ⟨ts, v :: u :: r, ca, fu, en⟩ ∧ r.length + 2 ≤ 1000000000 ∧ ts.length + 3 ≤ 1000000000 ∧ ca ≤ 1000) := ⟨h, hr, hn, hc⟩
  clear h hn hr hc
  obtain ⟨S', hS⟩ : ∃ S', S' = callS ⟨ts, r, ca, fu, en⟩ u v := ⟨_, rfl⟩
  rw [← hS]
  have HS : Hid (S' = callS ⟨ts, r, ca, fu, en⟩ u v) := hS
  clear hS
  go_enter Tryz.func115, Tryz.ntmps115
  go_wp2_with fail
  refine (take_any' H.out.1 rfl (by have := H.out.2.1; simp only [List.length_cons]; omega)).mono ?_
  rintro e w1 ⟨p1, rfl, hv1, h1, f1⟩
  have H1 : Hid (MS w0 w1 M G ⟨ts, u :: r, ca, fu, en⟩ ∧ G.vp p1 v ∧ Fr M w w1) := ⟨h1, hv1, f1⟩
  clear hv1 h1 f1
  go_wp2_with fail
  refine (take_any' H1.out.1 rfl (by have := H.out.2.1; omega)).mono ?_
  rintro e w2 ⟨p2, rfl, hv2, h2, f2⟩
  obtain ⟨b2, rfl, u0, u1, lu⟩ := vp_top h2.hg hv2
  have H2 : Hid (MS w0 w2 M G ⟨ts, r, ca, fu, en⟩ ∧ Fr M w w2 ∧ G.vp (some ⟨b2, 0, none⟩) u ∧ G.vp p1 v) := ⟨h2, H1.out.2.2.trans f2, hv2, H1.out.2.1⟩
  clear h2 f2 hv2 H1 u1
  have fin : ∀ e w', StPost w0 w2 M G S' e w' → e = .returned (.tuple #[]) ∧ Hid (StPost w0 w M G S' (.returned (.tuple #[])) w') := fun e w' h => by
    obtain ⟨rfl, K, hl, hm, hf⟩ := h
    exact ⟨rfl, rfl, K, hl, hm, H2.out.2.1.trans hf⟩
  have HF : Hid (∀ e w', StPost w0 w2 M G S' e w' → e = .returned (.tuple #[]) ∧ Hid (StPost w0 w M G S' (.returned (.tuple #[])) w')) := fin
  clear fin
  by_cases h3 : u.k = 3
  · have HC : Hid (Calls Tryz.prog 155 #[.pointer (some ⟨M, 0, none⟩), .pointer (some ⟨b2, 0, none⟩), .pointer p1] w2 fun e w' => e = .returned (.tuple #[]) ∧ Hid (StPost w0 w M G S' (.returned (.tuple #[])) w')) := by
      refine (enter_raw H2.out.1 (by have := H.out.2.2.1; show ts.length + 1 ≤ _; omega) H.out.2.2.2 H2.out.2.2.1 H2.out.2.2.2 h3).mono fun e w' hp => HF.out e w' ?_
      have e1 : callS ⟨ts, r, ca, fu, en⟩ u v = enterS ⟨ts, r, ca, fu, en⟩ u v := by unfold callS; rw [if_pos h3]
      rw [HS.out, e1]; exact hp
    rw [h3] at u0
    clear h3
    go_wp2_with fail
    refine HC.out.mono ?_
    rintro e w3 ⟨rfl, HE⟩
    go_wp2_with fail
    go_end0
    exact HE.out
  · by_cases h4 : u.k = 4
    · have HC : Hid (Calls Tryz.prog 156 #[.pointer (some ⟨M, 0, none⟩), .pointer (some ⟨b2, 0, none⟩), .pointer p1] w2 fun e w' => e = .returned (.tuple #[]) ∧ Hid (StPost w0 w M G S' (.returned (.tuple #[])) w')) := by
        refine (accomp_raw H2.out.1 H.out.2.2.1 H.out.2.1 H2.out.2.2.1 H2.out.2.2.2 h4).mono fun e w' hp => HF.out e w' ?_
        have e1 : callS ⟨ts, r, ca, fu, en⟩ u v = accompS ⟨ts, r, ca, fu, en⟩ u v := by unfold callS; rw [if_neg h3, if_pos h4]
        rw [HS.out, e1]; exact hp
      rw [h4] at u0
      clear h3 h4
      go_wp2_with fail
      refine HC.out.mono ?_
      rintro e w3 ⟨rfl, HE⟩
      go_wp2_with fail
      go_end0
      exact HE.out
    · have HC : Hid (Calls Tryz.prog 154 #[.pointer (some ⟨M, 0, none⟩)] w2 fun e w' => e = .returned (.tuple #[]) ∧ Hid (StPost w0 w M G S' (.returned (.tuple #[])) w')) := by
        refine (stick_any H2.out.1).mono fun e w' hp => HF.out e w' ?_
        have e1 : callS ⟨ts, r, ca, fu, en⟩ u v = St.stop ⟨ts, r, ca, fu, en⟩ stuckO := by unfold callS; rw [if_neg h3, if_neg h4]
        rw [HS.out, e1]
        exact StPost.of hp.1 hp.2.1 hp.2.2
      have q3 : (u.k == 3) = false := by simpa using h3
      have q4 : (u.k == 4) = false := by simpa using h4
      clear h3 h4
      go_wp2_with fail
      refine HC.out.mono ?_
      rintro e w3 ⟨rfl, HE⟩
      go_wp2_with fail
      go_end0
      exact HE.out
end Go.Proofs.YtnddkmccagiclabGreatDoor

/-
  What the call of the machine's change does.
-/
namespace Go.Proofs.YtnddkmccagiclabGreatDoor
open Go.RowKit
set_option maxRecDepth 20000 in
set_option maxHeartbeats 4000000 in
theorem change_raw {w0 w : World} {M : Nat} {G : Gh} {ts : List Task} {v : Val} {r : List Val} {ca fu : Nat} {en : Out} (h : MS w0 w M G ⟨ts, v :: r, ca, fu, en⟩) (hr : r.length + 1 ≤ 1000000000) {pc : Option Addr} {c : Option Ca} (hc : G.cp pc c) :
    Calls Tryz.prog 116 #[.pointer (some ⟨M, 0, none⟩), .pointer pc] w (StPost w0 w M G (changeS ⟨ts, r, ca, fu, en⟩ c v)) := by
  have H : Hid (Calls Tryz.prog 75 #[.pointer (some ⟨M, 0, none⟩)] w fun e w' => ∃ p, e = .returned (.pointer p) ∧ G.vp p v ∧ MS w0 w' M G ⟨ts, r, ca, fu, en⟩ ∧ Fr M w w') := take_any' h rfl (by omega)
  have HR : Hid (r.length + 1 ≤ 1000000000) := hr
  clear h hr
  obtain ⟨S', hS⟩ : ∃ S', S' = changeS ⟨ts, r, ca, fu, en⟩ c v := ⟨_, rfl⟩
  rw [← hS]
  rcases hc with ⟨rfl, rfl⟩ | ⟨q, x, rfl, rfl, hq⟩
  · have HS : Hid (S' = St.push ⟨ts, r, ca, fu, en⟩ v) := hS
    clear hS
    go_enter Tryz.func116, Tryz.ntmps116
    go_wp2_with fail
    refine H.out.mono ?_
    rintro e w1 ⟨p1, rfl, hv1, h1, f1⟩
    have H1 : Hid (MS w0 w1 M G ⟨ts, r, ca, fu, en⟩ ∧ G.vp p1 v ∧ Fr M w w1) := ⟨h1, hv1, f1⟩
    clear hv1 h1 f1
    go_wp2_with fail
    refine (keep_any H1.out.1 H1.out.2.1 HR.out).mono ?_
    rintro e w2 ⟨rfl, h2, f2⟩
    have HE : Hid (StPost w0 w M G S' (.returned (.tuple #[])) w2) := by rw [HS.out]; exact StPost.of rfl h2 (H1.out.2.2.trans f2)
    clear h2 f2
    go_wp2_with fail
    go_end0
    exact HE.out
  · have HX : Hid (G.c q = some x) := hq
    have HS : Hid (S' = changeS ⟨ts, r, ca, fu, en⟩ (some x) v) := hS
    clear hS hq
    obtain ⟨op, hop⟩ : ∃ b, x.opens = b := ⟨_, rfl⟩
    have e1 : op = true → v.k ≠ 5 → S' = St.stop ⟨ts, r, ca, fu, en⟩ stuckO := fun h1 h2 => by rw [HS.out]; simp only [changeS]; rw [if_pos ⟨by rw [hop]; exact h1, h2⟩]
    have e2 : op = true → v.k = 5 → v.as ≠ x.kind → S' = St.stop ⟨ts, r, ca, fu, en⟩ x.wrong := fun h1 h2 h3 => by rw [HS.out]; simp only [changeS]; rw [if_neg (fun h => h.2 h2), if_pos ⟨by rw [hop]; exact h1, h3⟩]
    have e3 : (op = true → v.k = 5 ∧ v.as = x.kind) → x.ends.k ≠ 0 → S' = St.stop ⟨ts, r, ca, fu, en⟩ x.ends := fun h1 h2 => by rw [HS.out]; simp only [changeS]; rw [if_neg (fun h => h.2 (h1 (by rw [← hop]; exact h.1)).1), if_neg (fun h => h.2 (h1 (by rw [← hop]; exact h.1)).2), if_pos h2]
    have e4 : (op = true → v.k = 5 ∧ v.as = x.kind) → x.ends.k = 0 → S' = St.push ⟨ts, r, ca, fu, en⟩ (ofC x v) := fun h1 h2 => by rw [HS.out]; simp only [changeS]; rw [if_neg (fun h => h.2 (h1 (by rw [← hop]; exact h.1)).1), if_neg (fun h => h.2 (h1 (by rw [← hop]; exact h.1)).2), if_neg (fun h => h h2)]
    have H4 : Hid ((op = true → v.k ≠ 5 → S' = St.stop ⟨ts, r, ca, fu, en⟩ stuckO) ∧ (op = true → v.k = 5 → v.as ≠ x.kind → S' = St.stop ⟨ts, r, ca, fu, en⟩ x.wrong) ∧ ((op = true → v.k = 5 ∧ v.as = x.kind) → x.ends.k ≠ 0 → S' = St.stop ⟨ts, r, ca, fu, en⟩ x.ends) ∧ ((op = true → v.k = 5 ∧ v.as = x.kind) → x.ends.k = 0 → S' = St.push ⟨ts, r, ca, fu, en⟩ (ofC x v)) ∧ x.opens = op) := ⟨e1, e2, e3, e4, hop⟩
    clear e1 e2 e3 e4
    have HM : ∀ (w1 : World) (p1 : Option Addr), MS w0 w1 M G ⟨ts, r, ca, fu, en⟩ → G.vp p1 v → Fr M w w1 → Hid ((∀ n, S' = St.stop ⟨ts, r, ca, fu, en⟩ stuckO → Calls Tryz.prog 154 #[.pointer (some ⟨M, 0, none⟩)] (w1.drewN n) fun e w' => e = .returned (.tuple #[]) ∧ Hid (StPost w0 w M G S' (.returned (.tuple #[])) w')) ∧
        (∀ n (o : Out), S' = St.stop ⟨ts, r, ca, fu, en⟩ o → Calls Tryz.prog 157 #[.pointer (some ⟨M, 0, none⟩), .agg #[.int .i64 o.k, .int .i64 o.n, .bool o.b]] (w1.drewN n) fun e w' => e = .returned (.tuple #[]) ∧ Hid (StPost w0 w M G S' (.returned (.tuple #[])) w')) ∧
        (∀ n, S' = St.push ⟨ts, r, ca, fu, en⟩ (ofC x v) → (op = true → v.k = 5) → Calls Tryz.prog 158 #[.pointer (some ⟨q, 0, none⟩), .pointer p1] (w1.drewN n) fun e w' => ∃ p2, e = .returned (.pointer p2) ∧ Hid (Calls Tryz.prog 150 #[.pointer (some ⟨M, 0, none⟩), .pointer p2] w' fun e w'' => e = .returned (.tuple #[]) ∧ Hid (StPost w0 w M G S' (.returned (.tuple #[])) w'')))) := by
      intro w1 p1 h1 hv1 f1
      have hb := fun n => below_rN (Below.refl w1.heap.size w1) n
      refine ⟨fun n hs => ?_, fun n o hs => ?_, fun n hs ho => ?_⟩
      · refine (stick_any (h1.below (hb n))).mono ?_
        rintro e w' ⟨rfl, a, b⟩
        refine ⟨rfl, ?_⟩
        rw [hs]; exact StPost.of rfl a (f1.trans ((Fr.below (hb n) h1.lt).trans b))
      · refine (end_any (h1.below (hb n)) o).mono ?_
        rintro e w' ⟨rfl, a, b⟩
        refine ⟨rfl, ?_⟩
        rw [hs]; exact StPost.of rfl a (f1.trans ((Fr.below (hb n) h1.lt).trans b))
      · have h1' := h1.below (hb n)
        refine (of_any h1'.hg hv1 (.inr ⟨q, x, rfl, rfl, HX.out⟩) (fun h => ho (by rw [← H4.out.2.2.2.2]; exact h))).mono ?_
        rintro e w' ⟨p2, H2, rfl, hp2, hpost⟩
        obtain ⟨m1, m2⟩ := h1'.post hpost
        refine ⟨p2, rfl, (keep_any m1 hp2 HR.out).mono ?_⟩
        rintro e w'' ⟨rfl, a, b⟩
        refine ⟨rfl, ?_⟩
        rw [hs]; exact ⟨rfl, H2, hpost.le, a, f1.trans ((Fr.below (hb n) h1.lt).trans (m2.trans b))⟩
    have HMH : Hid (∀ (w1 : World) (p1 : Option Addr), MS w0 w1 M G ⟨ts, r, ca, fu, en⟩ → G.vp p1 v → Fr M w w1 → Hid ((∀ n, S' = St.stop ⟨ts, r, ca, fu, en⟩ stuckO → Calls Tryz.prog 154 #[.pointer (some ⟨M, 0, none⟩)] (w1.drewN n) fun e w' => e = .returned (.tuple #[]) ∧ Hid (StPost w0 w M G S' (.returned (.tuple #[])) w')) ∧
        (∀ n (o : Out), S' = St.stop ⟨ts, r, ca, fu, en⟩ o → Calls Tryz.prog 157 #[.pointer (some ⟨M, 0, none⟩), .agg #[.int .i64 o.k, .int .i64 o.n, .bool o.b]] (w1.drewN n) fun e w' => e = .returned (.tuple #[]) ∧ Hid (StPost w0 w M G S' (.returned (.tuple #[])) w')) ∧
        (∀ n, S' = St.push ⟨ts, r, ca, fu, en⟩ (ofC x v) → (op = true → v.k = 5) → Calls Tryz.prog 158 #[.pointer (some ⟨q, 0, none⟩), .pointer p1] (w1.drewN n) fun e w' => ∃ p2, e = .returned (.pointer p2) ∧ Hid (Calls Tryz.prog 150 #[.pointer (some ⟨M, 0, none⟩), .pointer p2] w' fun e w'' => e = .returned (.tuple #[]) ∧ Hid (StPost w0 w M G S' (.returned (.tuple #[])) w''))))) := HM
    clear HM hop
    have HCL : Hid (∀ (w1 : World) (p1 : Option Addr), HG w0 w1 G → G.vp p1 v → ∃ b pg pa, p1 = some ⟨b, 0, none⟩ ∧ b < w1.heap.size ∧ q < w1.heap.size ∧ w1.cell? ⟨b, 0, none⟩ = some (.int .i64 v.k) ∧ w1.cell? ⟨b, 7, none⟩ = some (.int .i64 v.as) ∧ CAt w1 q x pg pa) := by
      intro w1 p1 hg hv
      obtain ⟨b, rfl, hb⟩ := hv
      obtain ⟨pb, ps, pi, pg, pa, h0, h1, h2, h3, h4, h5, h6, h7, _⟩ := hg.v b v hb
      obtain ⟨pg', pa', hC, _, _⟩ := hg.c q x HX.out
      exact ⟨b, pg', pa', rfl, World.block_lt_of_cell? _ _ h0, World.block_lt_of_cell? _ _ hC.c0, h0, h7, hC⟩
    go_enter Tryz.func116, Tryz.ntmps116
    go_wp2_with fail
    refine H.out.mono ?_
    rintro e w1 ⟨p1, rfl, hv1, h1, f1⟩
    obtain ⟨b, pg, pa, rfl, lb, lq, v0, v7, hC⟩ := HCL.out w1 p1 h1.hg hv1
    have HA := HMH.out w1 _ h1 hv1 f1
    obtain ⟨c0, c1, c2, c3, c4, c5, c6, c7, c8, c9, c10⟩ := hC
    rw [H4.out.2.2.2.2] at c0
    clear h1 f1 hv1 H HMH HCL HS c8 c9 c10
    cases op
    · by_cases h0 : x.ends.k = 0
      · have HS : Hid (S' = St.push ⟨ts, r, ca, fu, en⟩ (ofC x v)) := H4.out.2.2.2.1 (fun h => by cases h) h0
        have z0 : (x.ends.k != 0) = false := by simpa using h0
        clear h0 H4
        go_wp2_with fail
        go_quiet (fail)
        go_wp2_with fail
        refine (HA.out.2.2 _ HS.out (fun h => by cases h)).mono ?_
        rintro e w2 ⟨p2, rfl, HKp⟩
        go_wp2_with fail
        refine HKp.out.mono ?_
        rintro e w3 ⟨rfl, HE⟩
        go_wp2_with fail
        go_end0
        exact HE.out
      · have HS : Hid (S' = St.stop ⟨ts, r, ca, fu, en⟩ x.ends) := H4.out.2.2.1 (fun h => by cases h) h0
        have z0 : (x.ends.k != 0) = true := by simpa using h0
        clear h0 H4
        go_wp2_with fail
        go_quiet (fail)
        go_wp2_with fail
        refine (HA.out.2.1 _ x.ends HS.out).mono ?_
        rintro e w2 ⟨rfl, HE⟩
        go_wp2_with fail
        go_end0
        exact HE.out
    · by_cases h5 : v.k = 5
      · by_cases ha : v.as = x.kind
        · have hok : (true = true → v.k = 5 ∧ v.as = x.kind) := fun _ => ⟨h5, ha⟩
          have z7 : (v.as != x.kind) = false := by simpa using ha
          have H5 : Hid (v.k = 5) := h5
          rw [h5] at v0
          by_cases h0 : x.ends.k = 0
          · have HS : Hid (S' = St.push ⟨ts, r, ca, fu, en⟩ (ofC x v)) := H4.out.2.2.2.1 hok h0
            have z0 : (x.ends.k != 0) = false := by simpa using h0
            clear h0 H4 h5 ha hok
            go_wp2_with fail
            go_quiet (fail)
            go_wp2_with fail
            refine (HA.out.2.2 _ HS.out (fun _ => H5.out)).mono ?_
            rintro e w2 ⟨p2, rfl, HKp⟩
            go_wp2_with fail
            refine HKp.out.mono ?_
            rintro e w3 ⟨rfl, HE⟩
            go_wp2_with fail
            go_end0
            exact HE.out
          · have HS : Hid (S' = St.stop ⟨ts, r, ca, fu, en⟩ x.ends) := H4.out.2.2.1 hok h0
            have z0 : (x.ends.k != 0) = true := by simpa using h0
            clear h0 H4 h5 ha hok
            go_wp2_with fail
            go_quiet (fail)
            go_wp2_with fail
            refine (HA.out.2.1 _ x.ends HS.out).mono ?_
            rintro e w2 ⟨rfl, HE⟩
            go_wp2_with fail
            go_end0
            exact HE.out
        · have HS : Hid (S' = St.stop ⟨ts, r, ca, fu, en⟩ x.wrong) := H4.out.2.1 rfl h5 ha
          have z7 : (v.as != x.kind) = true := by simpa using ha
          rw [h5] at v0
          clear h5 ha H4
          go_wp2_with fail
          go_quiet (fail)
          go_wp2_with fail
          refine (HA.out.2.1 _ x.wrong HS.out).mono ?_
          rintro e w2 ⟨rfl, HE⟩
          go_wp2_with fail
          go_end0
          exact HE.out
      · have HS : Hid (S' = St.stop ⟨ts, r, ca, fu, en⟩ stuckO) := H4.out.1 rfl h5
        have z5 : (v.k != 5) = true := by simpa using h5
        clear h5 H4
        go_wp2_with fail
        refine (HA.out.1 0 HS.out).mono ?_
        rintro e w2 ⟨rfl, HE⟩
        go_wp2_with fail
        go_end0
        exact HE.out
end Go.Proofs.YtnddkmccagiclabGreatDoor

/-
  What the call of run's newCast answers: the cast from a type to another one.
-/
namespace Go.Proofs.YtnddkmccagiclabGreatDoor
open Go.RowKit
/-- What newCast answers: nothing, or a cast in a new block that nothing else knows yet. -/
def NPost (w0 w : World) (G : Gh) (oc : Option Ca) (e : Ending) (w' : World) : Prop := ∃ p H, e = .returned (.pointer p) ∧ HPost w0 w G w' H ∧
  ((p = none ∧ oc = none) ∨ ∃ b c pg pa, p = some ⟨b, 0, none⟩ ∧ oc = some c ∧ CAt w' b c pg pa ∧ H.cp pg c.given ∧ H.cp pa c.answer ∧ ¬ H.dom b ∧ w.heap.size ≤ b ∧ ∀ o, w'.frozen? ⟨b, o, none⟩ = false)
/-- It is known from now on. -/
theorem NPost.known {w0 w w' : World} {G : Gh} {oc : Option Ca} {e : Ending} (h : NPost w0 w G oc e w') : ∃ p H, e = .returned (.pointer p) ∧ H.cp p oc ∧ HPost w0 w G w' H := by
  obtain ⟨p, H, rfl, hp, ⟨rfl, rfl⟩ | ⟨b, c, pg, pa, rfl, rfl, hc, hg, ha, hd, hb, _⟩⟩ := h
  · exact ⟨none, H, rfl, Gh.cp_none _, hp⟩
  · refine ⟨_, H.addC b c, rfl, Gh.cp_addC _ _ _, hp.le.trans (Gh.le_addC hd), hp.hg.addC hd hc hg ha, hp.bel, fun k hk => ?_⟩
    rcases Gh.dom_addC hk with rfl | hk
    · exact .inr hb
    · exact hp.new k hk
/-- The boxes of newCast. -/
def nW (f t : Tr) (o : Out) (w : World) : World := ((w.alloc (.cells #[.int .i64 f.k, .slice f.a f.l.length f.c] 24)).alloc (.cells #[.int .i64 t.k, .slice t.a t.l.length t.c] 24)).alloc (.cells #[.int .i64 o.k, .int .i64 o.n, .bool o.b] 29)
structure NB (f t : Tr) (o : Out) (H : Nat) (W : World) : Prop where
  f0 : W.cell? ⟨H, 0, none⟩ = some (.int .i64 f.k)
  f1 : W.cell? ⟨H, 1, none⟩ = some (.slice f.a f.l.length f.c)
  t0 : W.cell? ⟨H + 1, 0, none⟩ = some (.int .i64 t.k)
  t1 : W.cell? ⟨H + 1, 1, none⟩ = some (.slice t.a t.l.length t.c)
  o0 : W.cell? ⟨H + 1 + 1, 0, none⟩ = some (.int .i64 o.k)
  o1 : W.cell? ⟨H + 1 + 1, 1, none⟩ = some (.int .i64 o.n)
  o2 : W.cell? ⟨H + 1 + 1, 2, none⟩ = some (.bool o.b)
theorem NB.below {f t : Tr} {o : Out} {H : Nat} {W W' : World} (h : NB f t o H W) (hb : Below W.heap.size W W') : NB f t o H W' := ⟨cell_later hb h.f0, cell_later hb h.f1, cell_later hb h.t0, cell_later hb h.t1, cell_later hb h.o0, cell_later hb h.o1, cell_later hb h.o2⟩
theorem NB.lt {f t : Tr} {o : Out} {H : Nat} {W : World} (h : NB f t o H W) : H + 1 + 1 < W.heap.size := World.block_lt_of_cell? _ _ h.o0
theorem nW_nb (f t : Tr) (o : Out) (w : World) : NB f t o w.heap.size (nW f t o w) := by
  constructor <;> simp [nW, go_sem]
theorem nW_below (f t : Tr) (o : Out) (w : World) : Below w.heap.size w (nW f t o w) := (((Below.refl _ _).alloc (Nat.le_refl _) _).alloc (by simp) _).alloc (by simp; omega) _
set_option maxRecDepth 20000 in
set_option maxHeartbeats 1000000 in
theorem new_same (f t : Tr) (o : Out) (w0 w : World) (G : Gh) (hG : HG w0 w G) (hs : ∀ W, Below w.heap.size w W → Calls Tryz.prog 147 #[.agg #[.int .i64 f.k, .slice f.a f.l.length f.c], .agg #[.int .i64 t.k, .slice t.a t.l.length t.c]] W fun e w' => e = .returned (.bool true) ∧ Below W.heap.size W w') :
    Calls Tryz.prog 151 #[.agg #[.int .i64 f.k, .slice f.a f.l.length f.c], .agg #[.int .i64 t.k, .slice t.a t.l.length t.c], .agg #[.int .i64 o.k, .int .i64 o.n, .bool o.b]] w (NPost w0 w G none) := by
  have HS : Hid (HG w0 w G ∧ Calls Tryz.prog 147 #[.agg #[.int .i64 f.k, .slice f.a f.l.length f.c], .agg #[.int .i64 t.k, .slice t.a t.l.length t.c]] (nW f t o w) fun e w' => e = .returned (.bool true) ∧ Below (nW f t o w).heap.size (nW f t o w) w') := ⟨hG, hs _ (nW_below f t o w)⟩
  clear hs hG
  go_enter Tryz.func151, Tryz.ntmps151
  go_wp2_with fail
  refine HS.out.2.mono ?_
  rintro e w2 ⟨rfl, hb⟩
  have HB : Hid (Below w.heap.size w w2) := (nW_below f t o w).trans (hb.mono (nW_below f t o w).size)
  clear hb
  go_wp2_with fail
  go_ret
  exact ⟨none, G, rfl, HPost.below HS.out.1 HB.out, .inl ⟨rfl, rfl⟩⟩
set_option maxRecDepth 20000 in
set_option maxHeartbeats 1000000 in
theorem new_stuck (f t : Tr) (o : Out) (w0 w : World) (G : Gh) (hG : HG w0 w G) (h3 : (f.k == 3) = false ∨ (t.k == 3) = false) (hf0 : (f.k == 0) = false) (ht0 : (t.k == 0) = false) (hs : ∀ W, Below w.heap.size w W → Calls Tryz.prog 147 #[.agg #[.int .i64 f.k, .slice f.a f.l.length f.c], .agg #[.int .i64 t.k, .slice t.a t.l.length t.c]] W fun e w' => e = .returned (.bool false) ∧ Below W.heap.size W w') :
    Calls Tryz.prog 151 #[.agg #[.int .i64 f.k, .slice f.a f.l.length f.c], .agg #[.int .i64 t.k, .slice t.a t.l.length t.c], .agg #[.int .i64 o.k, .int .i64 o.n, .bool o.b]] w (NPost w0 w G (some ⟨false, out0, f.k, stuckO, none, none, false⟩)) := by
  have HS : Hid (HG w0 w G ∧ Calls Tryz.prog 147 #[.agg #[.int .i64 f.k, .slice f.a f.l.length f.c], .agg #[.int .i64 t.k, .slice t.a t.l.length t.c]] (nW f t o w) fun e w' => e = .returned (.bool false) ∧ Below (nW f t o w).heap.size (nW f t o w) w') := ⟨hG, hs _ (nW_below f t o w)⟩
  clear hs hG
  have fin : ∀ w2, Below (nW f t o w).heap.size (nW f t o w) w2 → NPost w0 w G (some ⟨false, out0, f.k, stuckO, none, none, false⟩) (.returned (.pointer (some ⟨w2.heap.size, 0, none⟩))) (w2.alloc (castO ⟨false, out0, f.k, stuckO, none, none, false⟩ none none)) := fun w2 hb => by
    have h1 := (nW_below f t o w).trans (hb.mono (nW_below f t o w).size)
    have h2 : Below w.heap.size w (w2.alloc (castO ⟨false, out0, f.k, stuckO, none, none, false⟩ none none)) := h1.alloc h1.size _
    refine ⟨_, G, rfl, HPost.below HS.out.1 h2, .inr ⟨w2.heap.size, _, none, none, rfl, rfl, castO_at _ _ _ _, Gh.cp_none _, Gh.cp_none _, fun hd => ?_, h1.size, fun i => ?_⟩⟩
    · have := HS.out.1.lt hd
      have := h1.size
      omega
    · simp [castO, go_sem]
  have HF : Hid (∀ w2, Below (nW f t o w).heap.size (nW f t o w) w2 → NPost w0 w G (some ⟨false, out0, f.k, stuckO, none, none, false⟩) (.returned (.pointer (some ⟨w2.heap.size, 0, none⟩))) (w2.alloc (castO ⟨false, out0, f.k, stuckO, none, none, false⟩ none none))) := fin
  have HN := nW_nb f t o w
  clear fin
  by_cases hf3 : (f.k == 3) = true
  · have ht3 : (t.k == 3) = false := by
      rcases h3 with h3 | h3
      · rw [hf3] at h3; cases h3
      · exact h3
    clear h3
    go_enter Tryz.func151, Tryz.ntmps151
    go_wp2_with fail
    refine HS.out.2.mono ?_
    rintro e w2 ⟨rfl, hb⟩
    obtain ⟨b0, b1, b2, b3, b4, b5, b6⟩ := HN.below hb
    have HB : Hid (Below (nW f t o w).heap.size (nW f t o w) w2) := hb
    clear hb HN
    go_wp2_with fail
    go_ret
    exact HF.out w2 HB.out
  · have hf3' : (f.k == 3) = false := by simpa using hf3
    clear h3 hf3
    go_enter Tryz.func151, Tryz.ntmps151
    go_wp2_with fail
    refine HS.out.2.mono ?_
    rintro e w2 ⟨rfl, hb⟩
    obtain ⟨b0, b1, b2, b3, b4, b5, b6⟩ := HN.below hb
    have HB : Hid (Below (nW f t o w).heap.size (nW f t o w) w2) := hb
    clear hb HN
    go_wp2_with fail
    go_ret
    exact HF.out w2 HB.out
end Go.Proofs.YtnddkmccagiclabGreatDoor

/-
  What the call of run's newCast answers, where it casts to Any, from Any, or a function to a function.
-/
namespace Go.Proofs.YtnddkmccagiclabGreatDoor
open Go.RowKit
set_option maxRecDepth 20000 in
set_option maxHeartbeats 1000000 in
theorem ground_fun (a : Option Addr) (m c : Nat) (w : World) :
    Calls Tryz.prog 185 #[.agg #[.int .i64 3, .slice a m c]] w fun e w' => ∃ g, e = .returned (.agg #[.int .i64 3, .slice (some ⟨g, 0, none⟩) 2 2]) ∧ (Tr.mk 3 (some ⟨g, 0, none⟩) 2 [leaf 0, leaf 0]).In w' ∧ Below w.heap.size w w' := by
  obtain ⟨W1, hW1⟩ : ∃ W, W = (w.alloc (.cells #[.int .i64 3, .slice a m c] 24)).alloc (.cells #[.int .i64 0, .slice none 0 0] 24) := ⟨_, rfl⟩
  have hb1 : Below w.heap.size w W1 := by rw [hW1]; exact ((Below.refl _ _).alloc (Nat.le_refl _) _).alloc (by simp) _
  have hs1 : W1.heap.size = w.heap.size + 1 + 1 := by rw [hW1]; simp
  have z0 : W1.cell? ⟨w.heap.size + 1, 0, none⟩ = some (.int .i64 0) := by rw [hW1]; simp [go_sem]
  have z1 : W1.cell? ⟨w.heap.size + 1, 1, none⟩ = some (.slice none 0 0) := by rw [hW1]; simp [go_sem]
  have zf : ∀ o, W1.frozen? ⟨w.heap.size + 1, o, none⟩ = false := by intro o; rw [hW1]; simp [go_sem]
  have HT : Hid (Calls Tryz.prog 106 #[.agg #[.int .i64 0, .slice none 0 0], .agg #[.int .i64 0, .slice none 0 0]] W1 fun e w' => ∃ g, W1.heap.size ≤ g ∧ e = .returned (.agg #[.int .i64 3, .slice (some ⟨g, 0, none⟩) 2 2]) ∧ (Tr.mk 3 (some ⟨g, 0, none⟩) 2 [leaf 0, leaf 0]).In w' ∧ Below W1.heap.size W1 w') := to_any (leaf 0) (leaf 0) W1 (leaf_in _ _) (leaf_in _ _)
  have HZ : Hid (Below w.heap.size w W1 ∧ W1.heap.size = w.heap.size + 1 + 1 ∧ W1.cell? ⟨w.heap.size + 1, 0, none⟩ = some (.int .i64 0) ∧ W1.cell? ⟨w.heap.size + 1, 1, none⟩ = some (.slice none 0 0) ∧ ∀ o, W1.frozen? ⟨w.heap.size + 1, o, none⟩ = false) := ⟨hb1, hs1, z0, z1, zf⟩
  clear hb1 hs1 z0 z1 zf
  go_enter Tryz.func185, Tryz.ntmps185
  go_wp2_with fail
  rw [← hW1]
  clear hW1
  refine HT.out.mono ?_
  rintro e w2 ⟨g, hg, rfl, hin, hb⟩
  obtain ⟨y1, y2, y3, y4, y5⟩ := HZ.out
  have x0 := cell_later hb y3
  have x1 := cell_later hb y4
  have f0 := (hb.frozen (p := ⟨w.heap.size + 1, 0, none⟩) (by rw [y2]; show w.heap.size + 1 < _; omega)).trans (y5 0)
  have f1 := (hb.frozen (p := ⟨w.heap.size + 1, 1, none⟩) (by rw [y2]; show w.heap.size + 1 < _; omega)).trans (y5 1)
  have HF : Hid (g ≠ w.heap.size + 1 ∧ (Tr.mk 3 (some ⟨g, 0, none⟩) 2 [leaf 0, leaf 0]).In w2 ∧ Below w.heap.size w w2) := ⟨by omega, hin, y1.trans (hb.mono y1.size)⟩
  clear hb hg hin y1 y2 y3 y4 y5
  go_wp2_with fail
  have hh := set_cells (io := 0) (u := .int .i64 3) (v := .slice (some ⟨g, 0, none⟩) 2 2) x0 x1
  refine bodyPost_ret (v := .agg #[.int .i64 3, .slice (some ⟨g, 0, none⟩) 2 2]) (by simp [results, Tryz.results185, go_sem, hh.1, hh.2]) rfl ⟨g, rfl, ?_, ?_⟩
  · exact set_keeps (io := 0) HF.out.2.1 (Tr.Bl_two HF.out.1 (leaf_bl _ _) (leaf_bl _ _))
  · exact (HF.out.2.2.setCell (by simp) _).setCell (by simp) _
/-- Ground. -/
theorem ground_any (t : Tr) (w : World) : Calls Tryz.prog 185 #[.agg #[.int .i64 t.k, .slice t.a t.l.length t.c]] w fun e w' => ∃ u : Tr, e = .returned (.agg #[.int .i64 u.k, .slice u.a u.l.length u.c]) ∧ u.ty = groundY t.ty ∧ u.In w' ∧ Below w.heap.size w w' := by
  by_cases hk : t.k = 3
  · rw [hk]
    refine (ground_fun t.a t.l.length t.c w).mono ?_
    rintro e w' ⟨g, rfl, hin, hb⟩
    refine ⟨_, rfl, ?_, hin, hb⟩
    unfold groundY
    rw [if_pos (by rw [t.ty_k]; exact hk), Tr.ty_mk]
    simp [leaf, Tr.ty_mk, anyY]
  · refine (ground_leaf t.k (by simpa using hk) t.a t.l.length t.c w).mono ?_
    rintro e w' ⟨rfl, hb⟩
    refine ⟨leaf t.k, rfl, ?_, leaf_in _ _, hb⟩
    unfold groundY
    rw [if_neg (by rw [t.ty_k]; exact hk), t.ty_k]
    simp [leaf, Tr.ty_mk]
theorem cast0_at (w : World) (k : Int) : CAt (w.alloc (cast0 k)) w.heap.size ⟨false, out0, k, out0, none, none, false⟩ none none := by
  constructor <;> simp [cast0, out0, go_sem]
/-- notNil, of what newCast answered. -/
theorem notNil_any {w0 w1 w : World} {G H : Gh} {oc : Option Ca} {p : Option Addr} (k : Int) (hp : HPost w0 w1 G w H) (h : (p = none ∧ oc = none) ∨ ∃ b c pg pa, p = some ⟨b, 0, none⟩ ∧ oc = some c ∧ CAt w b c pg pa ∧ H.cp pg c.given ∧ H.cp pa c.answer ∧ ¬ H.dom b ∧ w1.heap.size ≤ b ∧ ∀ o, w.frozen? ⟨b, o, none⟩ = false) :
    Calls Tryz.prog 184 #[.pointer p, .int .i64 k] w fun e w' => ∃ b pg pa, e = .returned (.pointer (some ⟨b, 0, none⟩)) ∧ CAt w' b (someC oc k) pg pa ∧ H.cp pg (someC oc k).given ∧ H.cp pa (someC oc k).answer ∧ ¬ H.dom b ∧ w1.heap.size ≤ b ∧ (∀ o, w'.frozen? ⟨b, o, none⟩ = false) ∧ HPost w0 w1 G w' H ∧ Below w.heap.size w w' := by
  rcases h with ⟨rfl, rfl⟩ | ⟨b, c, pg, pa, rfl, rfl, hc, hg, ha, hd, hb, hf⟩
  · refine (notNil_none k w).mono ?_
    rintro e w' ⟨rfl, rfl⟩
    have hbb : Below w.heap.size w (w.alloc (cast0 k)) := (Below.refl _ _).alloc (Nat.le_refl _) _
    refine ⟨w.heap.size, none, none, rfl, cast0_at w k, Gh.cp_none _, Gh.cp_none _, fun hd => ?_, hp.bel.size, fun o => by simp [cast0, go_sem], ⟨hp.le, hp.hg.below hbb, hp.bel.trans (hbb.mono hp.bel.size), hp.new⟩, hbb⟩
    have := hp.hg.lt hd; omega
  · refine (notNil_some b k w).mono ?_
    rintro e w' ⟨rfl, rfl⟩
    exact ⟨b, pg, pa, rfl, hc, hg, ha, hd, hb, hf, hp, Below.refl _ _⟩
theorem HPost.set {w0 w W : World} {G H : Gh} (h : HPost w0 w G W H) {b : Nat} (hd : ¬ H.dom b) (hb : w.heap.size ≤ b) (j : Nat) (v : Value) : HPost w0 w G (W.setCell ⟨b, j, none⟩ v) H :=
  ⟨h.le, h.hg.of fun k hk i => World.cell?_setCell_far _ _ _ _ (by intro e; simp only at e; exact hd (e ▸ hk)), h.bel.setCell hb _, h.new⟩
theorem CAt.setOpens {W : World} {b : Nat} {c : Ca} {pg pa : Option Addr} (h : CAt W b c pg pa) (o : Out) : CAt ((((W.setCell ⟨b, 0, none⟩ (.bool true)).setCell ⟨b, 1, none⟩ (.int .i64 o.k)).setCell ⟨b, 2, none⟩ (.int .i64 o.n)).setCell ⟨b, 3, none⟩ (.bool o.b)) b ⟨true, o, c.kind, c.ends, c.given, c.answer, c.hides⟩ pg pa := by
  obtain ⟨h0, h1, h2, h3, h4, h5, h6, h7, h8, h9, h10⟩ := h
  have far : ∀ i, 4 ≤ i → ((((W.setCell ⟨b, 0, none⟩ (.bool true)).setCell ⟨b, 1, none⟩ (.int .i64 o.k)).setCell ⟨b, 2, none⟩ (.int .i64 o.n)).setCell ⟨b, 3, none⟩ (.bool o.b)).cell? ⟨b, i, none⟩ = W.cell? ⟨b, i, none⟩ := fun i hi => by rw [set_other (by omega), set_other (by omega), set_other (by omega), set_other (by omega)]
  refine ⟨?_, ?_, ?_, ?_, (far 4 (by omega)).trans h4, (far 5 (by omega)).trans h5, (far 6 (by omega)).trans h6, (far 7 (by omega)).trans h7, (far 8 (by omega)).trans h8, (far 9 (by omega)).trans h9, (far 10 (by omega)).trans h10⟩
  · rw [set_other (by omega), set_other (by omega), set_other (by omega)]; exact set_same h0
  · rw [set_other (by omega), set_other (by omega)]; exact set_same ((set_other (by omega)).trans h1)
  · rw [set_other (by omega)]; exact set_same ((set_other (by omega)).trans ((set_other (by omega)).trans h2))
  · exact set_same ((set_other (by omega)).trans ((set_other (by omega)).trans ((set_other (by omega)).trans h3)))
set_option maxRecDepth 20000 in
set_option maxHeartbeats 4000000 in
theorem new_toAny (m : Nat) (f t : Tr) (o : Out) (w0 w : World) (G : Gh) (hG : HG w0 w G) (ht0 : t.k = 0) (hs : ∀ W, Below w.heap.size w W → Calls Tryz.prog 147 #[.agg #[.int .i64 f.k, .slice f.a f.l.length f.c], .agg #[.int .i64 t.k, .slice t.a t.l.length t.c]] W fun e w' => e = .returned (.bool false) ∧ Below W.heap.size W w')
    (IH : ∀ W (u : Tr), Below w.heap.size w W → u.In W → u.ty = groundY f.ty → HG w0 W G → Calls Tryz.prog 151 #[.agg #[.int .i64 f.k, .slice f.a f.l.length f.c], .agg #[.int .i64 u.k, .slice u.a u.l.length u.c], .agg #[.int .i64 o.k, .int .i64 o.n, .bool o.b]] W (NPost w0 W G (newC m f.ty (groundY f.ty) o))) :
    Calls Tryz.prog 151 #[.agg #[.int .i64 f.k, .slice f.a f.l.length f.c], .agg #[.int .i64 t.k, .slice t.a t.l.length t.c], .agg #[.int .i64 o.k, .int .i64 o.n, .bool o.b]] w (NPost w0 w G (some ⟨(someC (newC m f.ty (groundY f.ty) o) f.k).opens, (someC (newC m f.ty (groundY f.ty) o) f.k).wrong, (someC (newC m f.ty (groundY f.ty) o) f.k).kind, (someC (newC m f.ty (groundY f.ty) o) f.k).ends, (someC (newC m f.ty (groundY f.ty) o) f.k).given, (someC (newC m f.ty (groundY f.ty) o) f.k).answer, true⟩)) := by
  obtain ⟨oc, hoc⟩ : ∃ oc, oc = newC m f.ty (groundY f.ty) o := ⟨_, rfl⟩
  rw [← hoc] at IH ⊢
  have t3 : (t.k == 3) = false := by rw [ht0]; rfl
  have HS : Hid (HG w0 w G ∧ Calls Tryz.prog 147 #[.agg #[.int .i64 f.k, .slice f.a f.l.length f.c], .agg #[.int .i64 t.k, .slice t.a t.l.length t.c]] (nW f t o w) fun e w' => e = .returned (.bool false) ∧ Below (nW f t o w).heap.size (nW f t o w) w') := ⟨hG, hs _ (nW_below f t o w)⟩
  have HI : Hid (∀ W (u : Tr), Below w.heap.size w W → u.In W → u.ty = groundY f.ty → HG w0 W G → Calls Tryz.prog 151 #[.agg #[.int .i64 f.k, .slice f.a f.l.length f.c], .agg #[.int .i64 u.k, .slice u.a u.l.length u.c], .agg #[.int .i64 o.k, .int .i64 o.n, .bool o.b]] W (NPost w0 W G oc)) := IH
  have HN := nW_nb f t o w
  have e0 : (t.k == 0) = true := by rw [ht0]; rfl
  clear hs hG IH hoc ht0
  obtain ⟨x3, hx3⟩ : ∃ x3, (f.k == 3) = x3 := ⟨_, rfl⟩
  cases x3
  all_goals
    go_enter Tryz.func151, Tryz.ntmps151
    go_wp2_with fail
    refine HS.out.2.mono ?_
    rintro e w2 ⟨rfl, hb⟩
    have HB : Hid (Below w.heap.size w w2 ∧ NB f t o w.heap.size w2) := ⟨(nW_below f t o w).trans (hb.mono (nW_below f t o w).size), HN.below hb⟩
    obtain ⟨b0, b1, b2, b3, b4, b5, b6⟩ := HN.below hb
    clear hb HN
    go_wp2_with fail
    have hbn : Below w2.heap.size w2 w2.drew := (Below.refl _ _).drew
    have HK : Hid (∀ w', Below w2.heap.size w2 w' → w'.cell? ⟨w.heap.size, 0, none⟩ = some (.int .i64 f.k) ∧ w'.cell? ⟨w.heap.size, 1, none⟩ = some (.slice f.a f.l.length f.c) ∧ w'.cell? ⟨w.heap.size + 1 + 1, 0, none⟩ = some (.int .i64 o.k) ∧ w'.cell? ⟨w.heap.size + 1 + 1, 1, none⟩ = some (.int .i64 o.n) ∧ w'.cell? ⟨w.heap.size + 1 + 1, 2, none⟩ = some (.bool o.b)) := fun w' h => by
      obtain ⟨q0, q1, q2, q3, q4, q5, q6⟩ := HB.out.2.below h
      exact ⟨q0, q1, q4, q5, q6⟩
    have HG1 : Hid (∀ W, Calls Tryz.prog 185 #[.agg #[.int .i64 f.k, .slice f.a f.l.length f.c]] W fun e w' => ∃ u : Tr, e = .returned (.agg #[.int .i64 u.k, .slice u.a u.l.length u.c]) ∧ u.ty = groundY f.ty ∧ u.In w' ∧ Below W.heap.size W w') := fun W => ground_any f W
    have HL : Hid (∀ W, Below w2.heap.size w2 W → Below w.heap.size w W ∧ HG w0 W G) := fun W h => ⟨HB.out.1.trans (h.mono HB.out.1.size), HS.out.1.below (HB.out.1.trans (h.mono HB.out.1.size))⟩
    clear b0 b1 b2 b3 b4 b5 b6
    go_region_held3 (fun w' => w'.cell? ⟨w.heap.size, 0, none⟩ = some (.int .i64 f.k) ∧ w'.cell? ⟨w.heap.size, 1, none⟩ = some (.slice f.a f.l.length f.c) ∧ w'.cell? ⟨w.heap.size + 1 + 1, 0, none⟩ = some (.int .i64 o.k) ∧ w'.cell? ⟨w.heap.size + 1 + 1, 1, none⟩ = some (.int .i64 o.n) ∧ w'.cell? ⟨w.heap.size + 1 + 1, 2, none⟩ = some (.bool o.b))
      (first
        | exact HK.out _ hbn
        | go_keep)
      (first
        | (go_at_call 185; refine (HG1.out _).mono ?_; rintro e w3 ⟨u, rfl, hu, hui, hb3⟩; replace hbn := hbn.trans (hb3.mono hbn.size); clear HG1)
        | (go_at_call 151; refine (HI.out _ u (HL.out _ hbn).1 hui hu (HL.out _ hbn).2).mono ?_; rintro e w4 ⟨p4, H4, rfl, hp4, hd4⟩; replace hbn := hbn.trans (hp4.bel.mono hbn.size); clear HI)
        | (go_at_call 184; refine (notNil_any f.k hp4 hd4).mono ?_; rintro e w5 ⟨b, pg, pa, rfl, hC, hg, ha, hd, hsz, hfz, hp5, hb5⟩; replace hbn := hbn.trans (hb5.mono hbn.size)))
    have hlb : b < w5.heap.size := World.block_lt_of_cell? _ _ hC.c0
    have d10 := hC.c10
    have g10 := hfz 10
    have hw3 : Below w.heap.size w w3 := (HL.out w3 ((Below.refl _ _).drew.trans hb3)).1
    have HE : Hid (NPost w0 w G (some ⟨(someC oc f.k).opens, (someC oc f.k).wrong, (someC oc f.k).kind, (someC oc f.k).ends, (someC oc f.k).given, (someC oc f.k).answer, true⟩) (.returned (.pointer (some ⟨b, 0, none⟩))) (w5.setCell ⟨b, 10, none⟩ (.bool true))) := by
      have h1 : HPost w0 w G w5 H4 := (HPost.below HS.out.1 hw3).trans hp5
      exact ⟨_, H4, rfl, h1.set hd (Nat.le_trans hw3.size hsz) 10 _, .inr ⟨b, _, pg, pa, rfl, rfl, hC.setHides true, hg, ha, hd, Nat.le_trans hw3.size hsz, fun i => by simpa using hfz i⟩⟩
    clear hC hfz hp5 hb5 hg ha hd hsz hp4 hd4 hu hui hb3 hbn hw3
    go_wp2_with fail
    go_ret
    exact HE.out
set_option maxRecDepth 20000 in
set_option maxHeartbeats 4000000 in
theorem new_fromAny (m : Nat) (f t : Tr) (o : Out) (w0 w : World) (G : Gh) (hG : HG w0 w G) (hf0 : f.k = 0) (ht0 : (t.k == 0) = false) (hs : ∀ W, Below w.heap.size w W → Calls Tryz.prog 147 #[.agg #[.int .i64 f.k, .slice f.a f.l.length f.c], .agg #[.int .i64 t.k, .slice t.a t.l.length t.c]] W fun e w' => e = .returned (.bool false) ∧ Below W.heap.size W w')
    (IH : ∀ W (u : Tr), Below w.heap.size w W → u.In W → u.ty = groundY t.ty → HG w0 W G → Calls Tryz.prog 151 #[.agg #[.int .i64 u.k, .slice u.a u.l.length u.c], .agg #[.int .i64 t.k, .slice t.a t.l.length t.c], .agg #[.int .i64 o.k, .int .i64 o.n, .bool o.b]] W (NPost w0 W G (newC m (groundY t.ty) t.ty o))) :
    Calls Tryz.prog 151 #[.agg #[.int .i64 f.k, .slice f.a f.l.length f.c], .agg #[.int .i64 t.k, .slice t.a t.l.length t.c], .agg #[.int .i64 o.k, .int .i64 o.n, .bool o.b]] w (NPost w0 w G (some ⟨true, o, (someC (newC m (groundY t.ty) t.ty o) t.k).kind, (someC (newC m (groundY t.ty) t.ty o) t.k).ends, (someC (newC m (groundY t.ty) t.ty o) t.k).given, (someC (newC m (groundY t.ty) t.ty o) t.k).answer, (someC (newC m (groundY t.ty) t.ty o) t.k).hides⟩)) := by
  obtain ⟨oc, hoc⟩ : ∃ oc, oc = newC m (groundY t.ty) t.ty o := ⟨_, rfl⟩
  rw [← hoc] at IH ⊢
  have f3 : (f.k == 3) = false := by rw [hf0]; rfl
  have HS : Hid (HG w0 w G ∧ Calls Tryz.prog 147 #[.agg #[.int .i64 f.k, .slice f.a f.l.length f.c], .agg #[.int .i64 t.k, .slice t.a t.l.length t.c]] (nW f t o w) fun e w' => e = .returned (.bool false) ∧ Below (nW f t o w).heap.size (nW f t o w) w') := ⟨hG, hs _ (nW_below f t o w)⟩
  have HI : Hid (∀ W (u : Tr), Below w.heap.size w W → u.In W → u.ty = groundY t.ty → HG w0 W G → Calls Tryz.prog 151 #[.agg #[.int .i64 u.k, .slice u.a u.l.length u.c], .agg #[.int .i64 t.k, .slice t.a t.l.length t.c], .agg #[.int .i64 o.k, .int .i64 o.n, .bool o.b]] W (NPost w0 W G oc)) := IH
  have HN := nW_nb f t o w
  have e0 : (f.k == 0) = true := by rw [hf0]; rfl
  clear hs hG IH hoc hf0
  go_enter Tryz.func151, Tryz.ntmps151
  go_wp2_with fail
  refine HS.out.2.mono ?_
  rintro e w2 ⟨rfl, hb⟩
  have HB : Hid (Below w.heap.size w w2 ∧ NB f t o w.heap.size w2) := ⟨(nW_below f t o w).trans (hb.mono (nW_below f t o w).size), HN.below hb⟩
  obtain ⟨b0, b1, b2, b3, b4, b5, b6⟩ := HN.below hb
  clear hb HN
  go_wp2_with fail
  have hbn : Below w2.heap.size w2 w2.drew := (Below.refl _ _).drew
  have HK : Hid (∀ w', Below w2.heap.size w2 w' → w'.cell? ⟨w.heap.size + 1, 0, none⟩ = some (.int .i64 t.k) ∧ w'.cell? ⟨w.heap.size + 1, 1, none⟩ = some (.slice t.a t.l.length t.c) ∧ w'.cell? ⟨w.heap.size + 1 + 1, 0, none⟩ = some (.int .i64 o.k) ∧ w'.cell? ⟨w.heap.size + 1 + 1, 1, none⟩ = some (.int .i64 o.n) ∧ w'.cell? ⟨w.heap.size + 1 + 1, 2, none⟩ = some (.bool o.b)) := fun w' h => by
    obtain ⟨q0, q1, q2, q3, q4, q5, q6⟩ := HB.out.2.below h
    exact ⟨q2, q3, q4, q5, q6⟩
  have HG1 : Hid (∀ W, Calls Tryz.prog 185 #[.agg #[.int .i64 t.k, .slice t.a t.l.length t.c]] W fun e w' => ∃ u : Tr, e = .returned (.agg #[.int .i64 u.k, .slice u.a u.l.length u.c]) ∧ u.ty = groundY t.ty ∧ u.In w' ∧ Below W.heap.size W w') := fun W => ground_any t W
  have HL : Hid (∀ W, Below w2.heap.size w2 W → Below w.heap.size w W ∧ HG w0 W G) := fun W h => ⟨HB.out.1.trans (h.mono HB.out.1.size), HS.out.1.below (HB.out.1.trans (h.mono HB.out.1.size))⟩
  clear b0 b1 b2 b3 b4 b5 b6
  go_region_held3 (fun w' => w'.cell? ⟨w.heap.size + 1, 0, none⟩ = some (.int .i64 t.k) ∧ w'.cell? ⟨w.heap.size + 1, 1, none⟩ = some (.slice t.a t.l.length t.c) ∧ w'.cell? ⟨w.heap.size + 1 + 1, 0, none⟩ = some (.int .i64 o.k) ∧ w'.cell? ⟨w.heap.size + 1 + 1, 1, none⟩ = some (.int .i64 o.n) ∧ w'.cell? ⟨w.heap.size + 1 + 1, 2, none⟩ = some (.bool o.b))
    (first
      | exact HK.out _ hbn
      | go_keep)
    (first
      | (go_at_call 185; refine (HG1.out _).mono ?_; rintro e w3 ⟨u, rfl, hu, hui, hb3⟩; replace hbn := hbn.trans (hb3.mono hbn.size); clear HG1)
      | (go_at_call 151; refine (HI.out _ u (HL.out _ hbn).1 hui hu (HL.out _ hbn).2).mono ?_; rintro e w4 ⟨p4, H4, rfl, hp4, hd4⟩; replace hbn := hbn.trans (hp4.bel.mono hbn.size); clear HI)
      | (go_at_call 184; refine (notNil_any t.k hp4 hd4).mono ?_; rintro e w5 ⟨b, pg, pa, rfl, hC, hg, ha, hd, hsz, hfz, hp5, hb5⟩; replace hbn := hbn.trans (hb5.mono hbn.size)))
  have hlb : b < w5.heap.size := World.block_lt_of_cell? _ _ hC.c0
  have d0 := hC.c0
  have d1 := hC.c1
  have d2 := hC.c2
  have d3 := hC.c3
  have g0 := hfz 0
  have g1 := hfz 1
  have g2 := hfz 2
  have g3 := hfz 3
  obtain ⟨_, _, k4, k5, k6⟩ := HK.out _ hbn
  have hw3 : Below w.heap.size w w3 := (HL.out w3 ((Below.refl _ _).drew.trans hb3)).1
  have hw5 : w.heap.size + 1 + 1 < w5.heap.size := World.block_lt_of_cell? _ _ k4
  have hbne : b ≠ w.heap.size + 1 + 1 := by
    have h1 := HB.out.2.lt
    have h2 : w2.heap.size ≤ w3.heap.size := ((Below.refl w2.heap.size w2).drew.trans hb3).size
    omega
  have HE : Hid (∀ n, NPost w0 w G (some ⟨true, o, (someC oc t.k).kind, (someC oc t.k).ends, (someC oc t.k).given, (someC oc t.k).answer, (someC oc t.k).hides⟩) (.returned (.pointer (some ⟨b, 0, none⟩))) (((((w5.drewN n).setCell ⟨b, 0, none⟩ (.bool true)).setCell ⟨b, 1, none⟩ (.int .i64 o.k)).setCell ⟨b, 2, none⟩ (.int .i64 o.n)).setCell ⟨b, 3, none⟩ (.bool o.b))) := by
    intro n
    have h0 : HPost w0 w5 H4 (w5.drewN n) H4 := HPost.below hp5.hg (below_rN (Below.refl _ _) n)
    have h1 : HPost w0 w G (w5.drewN n) H4 := ((HPost.below HS.out.1 hw3).trans hp5).trans h0
    have hsz' := Nat.le_trans hw3.size hsz
    refine ⟨_, H4, rfl, (((h1.set hd hsz' 0 _).set hd hsz' 1 _).set hd hsz' 2 _).set hd hsz' 3 _, .inr ⟨b, _, pg, pa, rfl, rfl, (hC.of (w' := w5.drewN n) fun _ => rfl).setOpens o, hg, ha, hd, hsz', fun i => by simpa using hfz i⟩⟩
  clear hC hfz hp5 hb5 hg ha hd hsz hp4 hd4 hu hui hb3 hbn hw3
  go_wp2_with fail
  go_region
  all_goals
    go_wp2_with fail
    go_ret
    exact HE.out 1
set_option maxRecDepth 20000 in
set_option maxHeartbeats 8000000 in
theorem new_fun (m : Nat) (f t x0 x1 y0 y1 : Tr) (fb fo tb tq : Nat) (o : Out) (w0 w : World) (G : Gh) (hG : HG w0 w G) (ef : f.a = some ⟨fb, fo, none⟩) (et : t.a = some ⟨tb, tq, none⟩) (lf : f.l.length = 2) (lt : t.l.length = 2) (kf : f.k = 3) (kt : t.k = 3)
    (p0 : w.cell? ⟨fb, fo, none⟩ = some (.int .i64 x0.k)) (p1 : w.cell? ⟨fb, fo + 1, none⟩ = some (.slice x0.a x0.l.length x0.c)) (p2 : w.cell? ⟨fb, fo + 2, none⟩ = some (.int .i64 x1.k)) (p3 : w.cell? ⟨fb, fo + 3, none⟩ = some (.slice x1.a x1.l.length x1.c))
    (q0 : w.cell? ⟨tb, tq, none⟩ = some (.int .i64 y0.k)) (q1 : w.cell? ⟨tb, tq + 1, none⟩ = some (.slice y0.a y0.l.length y0.c)) (q2 : w.cell? ⟨tb, tq + 2, none⟩ = some (.int .i64 y1.k)) (q3 : w.cell? ⟨tb, tq + 3, none⟩ = some (.slice y1.a y1.l.length y1.c))
    (hs : ∀ W, Below w.heap.size w W → Calls Tryz.prog 147 #[.agg #[.int .i64 f.k, .slice f.a f.l.length f.c], .agg #[.int .i64 t.k, .slice t.a t.l.length t.c]] W fun e w' => e = .returned (.bool false) ∧ Below W.heap.size W w')
    (I0 : ∀ W, Below w.heap.size w W → HG w0 W G → Calls Tryz.prog 151 #[.agg #[.int .i64 y0.k, .slice y0.a y0.l.length y0.c], .agg #[.int .i64 x0.k, .slice x0.a x0.l.length x0.c], .agg #[.int .i64 o.k, .int .i64 o.n, .bool (!o.b)]] W (NPost w0 W G (newC m y0.ty x0.ty (turnO o))))
    (I1 : ∀ W H, Below w.heap.size w W → HG w0 W H → Calls Tryz.prog 151 #[.agg #[.int .i64 x1.k, .slice x1.a x1.l.length x1.c], .agg #[.int .i64 y1.k, .slice y1.a y1.l.length y1.c], .agg #[.int .i64 o.k, .int .i64 o.n, .bool o.b]] W (NPost w0 W H (newC m x1.ty y1.ty o))) :
    Calls Tryz.prog 151 #[.agg #[.int .i64 f.k, .slice f.a f.l.length f.c], .agg #[.int .i64 t.k, .slice t.a t.l.length t.c], .agg #[.int .i64 o.k, .int .i64 o.n, .bool o.b]] w (NPost w0 w G (some ⟨false, out0, 3, out0, newC m y0.ty x0.ty (turnO o), newC m x1.ty y1.ty o, false⟩)) := by
  have lfb : fb < w.heap.size := World.block_lt_of_cell? _ _ p0
  have ltb : tb < w.heap.size := World.block_lt_of_cell? _ _ q0
  obtain ⟨n0, hn0⟩ : ∃ n, n = newC m y0.ty x0.ty (turnO o) := ⟨_, rfl⟩
  obtain ⟨n1, hn1⟩ : ∃ n, n = newC m x1.ty y1.ty o := ⟨_, rfl⟩
  rw [← hn0] at I0 ⊢
  rw [← hn1] at I1 ⊢
  have HN0 := nW_nb f t o w
  have HS0 := hs _ (nW_below f t o w)
  obtain ⟨W1, hW1⟩ : ∃ W, W = nW f t o w := ⟨_, rfl⟩
  have hb1 : Below w.heap.size w W1 := by rw [hW1]; exact nW_below f t o w
  rw [← hW1] at HN0 HS0
  have HS : Hid (HG w0 w G ∧ Calls Tryz.prog 147 #[.agg #[.int .i64 f.k, .slice f.a f.l.length f.c], .agg #[.int .i64 t.k, .slice t.a t.l.length t.c]] W1 fun e w' => e = .returned (.bool false) ∧ Below W1.heap.size W1 w') := ⟨hG, HS0⟩
  have HI0 : Hid (∀ W, Below w.heap.size w W → HG w0 W G → Calls Tryz.prog 151 #[.agg #[.int .i64 y0.k, .slice y0.a y0.l.length y0.c], .agg #[.int .i64 x0.k, .slice x0.a x0.l.length x0.c], .agg #[.int .i64 o.k, .int .i64 o.n, .bool (!o.b)]] W fun e w' => ∃ p H, e = .returned (.pointer p) ∧ H.cp p n0 ∧ HPost w0 W G w' H) := fun W h1 h2 => (I0 W h1 h2).mono fun e w' h => h.known
  have HI1 : Hid (∀ W H, Below w.heap.size w W → HG w0 W H → Calls Tryz.prog 151 #[.agg #[.int .i64 x1.k, .slice x1.a x1.l.length x1.c], .agg #[.int .i64 y1.k, .slice y1.a y1.l.length y1.c], .agg #[.int .i64 o.k, .int .i64 o.n, .bool o.b]] W fun e w' => ∃ p H', e = .returned (.pointer p) ∧ H'.cp p n1 ∧ HPost w0 W H w' H') := fun W H h1 h2 => (I1 W H h1 h2).mono fun e w' h => h.known
  have HT : Hid (∀ W, Calls Tryz.prog 183 #[.agg #[.int .i64 o.k, .int .i64 o.n, .bool o.b]] W fun e w' => e = .returned (.agg #[.int .i64 o.k, .int .i64 o.n, .bool (!o.b)]) ∧ Below W.heap.size W w') := fun W => turned_any o.k o.n o.b W
  have HP : Hid (∀ W', Below w.heap.size w W' → W'.cell? ⟨fb, fo, none⟩ = some (.int .i64 x0.k) ∧ W'.cell? ⟨fb, fo + 1, none⟩ = some (.slice x0.a x0.l.length x0.c) ∧ W'.cell? ⟨fb, fo + 2, none⟩ = some (.int .i64 x1.k) ∧ W'.cell? ⟨fb, fo + 3, none⟩ = some (.slice x1.a x1.l.length x1.c) ∧ W'.cell? ⟨tb, tq, none⟩ = some (.int .i64 y0.k) ∧ W'.cell? ⟨tb, tq + 1, none⟩ = some (.slice y0.a y0.l.length y0.c) ∧ W'.cell? ⟨tb, tq + 2, none⟩ = some (.int .i64 y1.k) ∧ W'.cell? ⟨tb, tq + 3, none⟩ = some (.slice y1.a y1.l.length y1.c)) :=
    fun W' h => ⟨cell_later h p0, cell_later h p1, cell_later h p2, cell_later h p3, cell_later h q0, cell_later h q1, cell_later h q2, cell_later h q3⟩
  have HN : Hid (NB f t o w.heap.size W1 ∧ Below w.heap.size w W1) := ⟨HN0, hb1⟩
  rw [ef, lf, kf, et, lt, kt] at HS ⊢
  have HN1 := HN0
  clear hs hG I0 I1 p0 p1 p2 p3 q0 q1 q2 q3 hn0 hn1 HS0 HN0 hb1
  unfold nW at hW1
  rw [ef, lf, kf, et, lt, kt] at hW1
  go_enter Tryz.func151, Tryz.ntmps151
  go_wp2_with fail
  rw [← hW1]
  clear hW1
  refine HS.out.2.mono ?_
  rintro e w2 ⟨rfl, hb⟩
  have HB : Hid (Below w.heap.size w w2 ∧ NB f t o w.heap.size w2) := ⟨HN.out.2.trans (hb.mono HN.out.2.size), HN.out.1.below hb⟩
  obtain ⟨b0, b1, b2, b3, b4, b5, b6⟩ := HB.out.2
  rw [kf] at b0
  rw [kt] at b2
  rw [ef, lf] at b1
  rw [et, lt] at b3
  clear hb HN HN1
  go_wp2_with fail
  have hbn : Below w2.heap.size w2 w2.drew := (Below.refl _ _).drew
  have HK : Hid (∀ w', Below w2.heap.size w2 w' → w'.cell? ⟨w.heap.size, 1, none⟩ = some (.slice (some ⟨fb, fo, none⟩) 2 f.c) ∧ w'.cell? ⟨w.heap.size + 1, 1, none⟩ = some (.slice (some ⟨tb, tq, none⟩) 2 t.c) ∧ w'.cell? ⟨w.heap.size + 1 + 1, 0, none⟩ = some (.int .i64 o.k) ∧ w'.cell? ⟨w.heap.size + 1 + 1, 1, none⟩ = some (.int .i64 o.n) ∧ w'.cell? ⟨w.heap.size + 1 + 1, 2, none⟩ = some (.bool o.b) ∧ w'.cell? ⟨fb, fo, none⟩ = some (.int .i64 x0.k) ∧ w'.cell? ⟨fb, fo + 1, none⟩ = some (.slice x0.a x0.l.length x0.c) ∧ w'.cell? ⟨fb, fo + 2, none⟩ = some (.int .i64 x1.k) ∧ w'.cell? ⟨fb, fo + 3, none⟩ = some (.slice x1.a x1.l.length x1.c) ∧ w'.cell? ⟨tb, tq, none⟩ = some (.int .i64 y0.k) ∧ w'.cell? ⟨tb, tq + 1, none⟩ = some (.slice y0.a y0.l.length y0.c) ∧ w'.cell? ⟨tb, tq + 2, none⟩ = some (.int .i64 y1.k) ∧ w'.cell? ⟨tb, tq + 3, none⟩ = some (.slice y1.a y1.l.length y1.c)) := fun w' h =>
    ⟨cell_later h b1, cell_later h b3, cell_later h b4, cell_later h b5, cell_later h b6, HP.out w' (HB.out.1.trans (h.mono HB.out.1.size))⟩
  have HL : Hid (∀ W, Below w2.heap.size w2 W → Below w.heap.size w W ∧ HG w0 W G) := fun W h => ⟨HB.out.1.trans (h.mono HB.out.1.size), HS.out.1.below (HB.out.1.trans (h.mono HB.out.1.size))⟩
  clear b0 b1 b2 b3 b4 b5 b6
  go_region_held3 (fun w' => w'.cell? ⟨w.heap.size, 1, none⟩ = some (.slice (some ⟨fb, fo, none⟩) 2 f.c) ∧ w'.cell? ⟨w.heap.size + 1, 1, none⟩ = some (.slice (some ⟨tb, tq, none⟩) 2 t.c) ∧ w'.cell? ⟨w.heap.size + 1 + 1, 0, none⟩ = some (.int .i64 o.k) ∧ w'.cell? ⟨w.heap.size + 1 + 1, 1, none⟩ = some (.int .i64 o.n) ∧ w'.cell? ⟨w.heap.size + 1 + 1, 2, none⟩ = some (.bool o.b) ∧ w'.cell? ⟨fb, fo, none⟩ = some (.int .i64 x0.k) ∧ w'.cell? ⟨fb, fo + 1, none⟩ = some (.slice x0.a x0.l.length x0.c) ∧ w'.cell? ⟨fb, fo + 2, none⟩ = some (.int .i64 x1.k) ∧ w'.cell? ⟨fb, fo + 3, none⟩ = some (.slice x1.a x1.l.length x1.c) ∧ w'.cell? ⟨tb, tq, none⟩ = some (.int .i64 y0.k) ∧ w'.cell? ⟨tb, tq + 1, none⟩ = some (.slice y0.a y0.l.length y0.c) ∧ w'.cell? ⟨tb, tq + 2, none⟩ = some (.int .i64 y1.k) ∧ w'.cell? ⟨tb, tq + 3, none⟩ = some (.slice y1.a y1.l.length y1.c))
    (first
      | exact HK.out _ hbn
      | exact HK.out _ (hbn.alloc hbn.size _)
      | go_keep)
    (first
      | (go_at_call 183; refine (HT.out _).mono ?_; rintro e w3 ⟨rfl, hb3⟩; replace hbn := hbn.trans (hb3.mono hbn.size); clear HT)
      | (go_at_call 151; refine (HI0.out _ (HL.out _ hbn).1 (HL.out _ hbn).2).mono ?_; rintro e w4 ⟨p4, H4, rfl, hc4, hp4⟩; replace hbn := hbn.trans (hp4.bel.mono hbn.size); clear HI0)
      | (go_at_call 151; refine (HI1.out _ H4 (HL.out _ hbn).1 hp4.hg).mono ?_; rintro e w5 ⟨p5, H5, rfl, hc5, hp5⟩; replace hbn := hbn.trans (hp5.bel.mono hbn.size); clear HI1))
  have HE : Hid (NPost w0 w G (some ⟨false, out0, 3, out0, n0, n1, false⟩) (.returned (.pointer (some ⟨w5.heap.size, 0, none⟩))) (w5.alloc (castO ⟨false, out0, 3, out0, n0, n1, false⟩ p4 p5))) := by
    have hw3 : Below w.heap.size w w3 := (HL.out w3 ((Below.refl _ _).drew.trans hb3)).1
    have h1 : HPost w0 w G w5 H5 := ((HPost.below HS.out.1 hw3).trans hp4).trans hp5
    have hb5 : Below w5.heap.size w5 (w5.alloc (castO ⟨false, out0, 3, out0, n0, n1, false⟩ p4 p5)) := (Below.refl _ _).alloc (Nat.le_refl _) _
    refine ⟨_, H5, rfl, h1.trans (HPost.below h1.hg hb5), .inr ⟨w5.heap.size, _, p4, p5, rfl, rfl, castO_at _ _ _ _, hc4.le hp5.le, hc5, fun hd => ?_, h1.bel.size, fun i => by simp [castO, go_sem]⟩⟩
    have := h1.hg.lt hd; omega
  clear hc4 hp4 hc5 hp5 hb3 hbn
  go_wp2_with fail
  go_ret
  exact HE.out
/-- newCast. -/
theorem new_any (w0 : World) : ∀ (m n : Nat) (f t : Tr) (o : Out) (w : World) (G : Gh), n ≤ 500 → goodT n f = true → goodT n t = true → 2 * n + (if f.k = 0 ∨ t.k = 0 then 1 else 0) ≤ m → f.In w → t.In w → HG w0 w G →
    Calls Tryz.prog 151 #[.agg #[.int .i64 f.k, .slice f.a f.l.length f.c], .agg #[.int .i64 t.k, .slice t.a t.l.length t.c], .agg #[.int .i64 o.k, .int .i64 o.n, .bool o.b]] w (NPost w0 w G (newC m f.ty t.ty o))
  | 0, 0, f, t, o, w, G, _, hf, _, _, _, _, _ => by simp [goodT] at hf
  | 0, n + 1, f, t, o, w, G, _, _, _, hm, _, _, _ => by omega
  | m + 1, 0, f, t, o, w, G, _, hf, _, _, _, _, _ => by simp [goodT] at hf
  | m + 1, n + 1, f, t, o, w, G, hn, hf, ht, hm, hfi, hti, hG => by
    have hh : f.hgt ≤ 1000 := Nat.le_trans (Tr.hgt_good _ f hf) (by omega)
    have hsm := Tr.sm_good _ f hf
    have HS : ∀ W, Below w.heap.size w W → Calls Tryz.prog 147 #[.agg #[.int .i64 f.k, .slice f.a f.l.length f.c], .agg #[.int .i64 t.k, .slice t.a t.l.length t.c]] W fun e w' => e = .returned (.bool (relY escSame f.ty t.ty)) ∧ Below W.heap.size W w' := fun W hb => same_whole f t W (hfi.below hb) (hti.below hb) hh hsm
    rw [newC]
    by_cases hs : relY escSame f.ty t.ty = true
    · rw [if_pos hs]
      rw [hs] at HS
      exact new_same f t o w0 w G hG HS
    rw [if_neg hs]
    have hs' : relY escSame f.ty t.ty = false := by simpa using hs
    rw [hs'] at HS
    have kf := f.ty_k
    have kt := t.ty_k
    have gf : goodY (n + 1) f.ty = true := by rw [← goodT_eq]; exact hf
    have gt : goodY (n + 1) t.ty = true := by rw [← goodT_eq]; exact ht
    have gg : ∀ u : Ty, goodY (n + 1) u = true → goodY (n + 1) (groundY u) = true := fun u hu => by
      unfold groundY
      split
      · rename_i h3
        cases n with
        | zero =>
          exfalso
          obtain ⟨k, l⟩ := u
          simp only at h3
          subst h3
          match l, hu with
          | [], hu => simp [goodY] at hu
          | [x], hu => simp [goodY] at hu
          | [x, y], hu => simp [goodY] at hu
          | x :: y :: z :: r, hu => simp [goodY] at hu
        | succ n => simp [goodY, anyY]
      · rename_i h3
        obtain ⟨k, l⟩ := u
        match l, hu with
        | [], hu => exact hu
        | [x], hu => simp [goodY] at hu
        | [x, y], hu => simp only [goodY, Bool.and_eq_true, beq_iff_eq] at hu; exact absurd hu.1.1 h3
        | x :: y :: z :: r, hu => simp [goodY] at hu
    have g0 : ∀ u : Ty, u.k ≠ 0 → (groundY u).k ≠ 0 := fun u hu => by
      unfold groundY
      split
      · simp
      · exact hu
    by_cases h3 : f.k = 3 ∧ t.k = 3
    · rw [if_pos (by rw [kf, kt]; exact h3)]
      rcases (Tr.right_good _ f hf).cases with ⟨_, h⟩ | ⟨x0, x1, lf, _, _, _⟩
      · omega
      rcases (Tr.right_good _ t ht).cases with ⟨_, h⟩ | ⟨y0, y1, lt, _, _, _⟩
      · omega
      obtain ⟨fb, fo, af, p0, p1, hx0⟩ := hfi.part 0 (by simp [lf])
      obtain ⟨fb', fo', af', p2, p3, hx1⟩ := hfi.part 1 (by simp [lf])
      obtain ⟨tb, tq, at', q0, q1, hy0⟩ := hti.part 0 (by simp [lt])
      obtain ⟨tb', to', at'', q2, q3, hy1⟩ := hti.part 1 (by simp [lt])
      rw [af] at af'
      rw [at'] at at''
      obtain ⟨rfl, rfl⟩ : fb = fb' ∧ fo = fo' := by simpa using af'
      obtain ⟨rfl, rfl⟩ : tb = tb' ∧ tq = to' := by simpa using at''
      simp only [lf, List.getElem_cons_zero, List.getElem_cons_succ] at p0 p1 p2 p3 hx0 hx1
      simp only [lt, List.getElem_cons_zero, List.getElem_cons_succ] at q0 q1 q2 q3 hy0 hy1
      have gfx : goodT n x0 = true ∧ goodT n x1 = true := by
        obtain ⟨k, a, c, l⟩ := f
        simp only at lf
        subst lf
        simp only [goodT, Bool.and_eq_true] at hf
        exact ⟨hf.1.2, hf.2⟩
      have gty : goodT n y0 = true ∧ goodT n y1 = true := by
        obtain ⟨k, a, c, l⟩ := t
        simp only at lt
        subst lt
        simp only [goodT, Bool.and_eq_true] at ht
        exact ⟨ht.1.2, ht.2⟩
      have ef : f.ty.l.getD 0 anyY = x0.ty ∧ f.ty.l.getD 1 anyY = x1.ty := by rw [f.ty_l, lf]; exact ⟨rfl, rfl⟩
      have et : t.ty.l.getD 0 anyY = y0.ty ∧ t.ty.l.getD 1 anyY = y1.ty := by rw [t.ty_l, lt]; exact ⟨rfl, rfl⟩
      rw [ef.1, ef.2, et.1, et.2]
      have hm' : 2 * (n + 1) ≤ m + 1 := by omega
      have i1 : ∀ p : Prop, ∀ [Decidable p], (if p then 1 else 0) ≤ 1 := fun p _ => by split <;> omega
      have i2 := i1 (y0.k = 0 ∨ x0.k = 0)
      have i3 := i1 (x1.k = 0 ∨ y1.k = 0)
      exact new_fun m f t x0 x1 y0 y1 fb fo tb tq o w0 w G hG af at' (by rw [lf]; rfl) (by rw [lt]; rfl) h3.1 h3.2 (by simpa using p0) (by simpa using p1) (by simpa using p2) (by simpa using p3) (by simpa using q0) (by simpa using q1) (by simpa using q2) (by simpa using q3) HS
        (fun W hb hW => new_any w0 m n y0 x0 (turnO o) W G (by omega) gty.1 gfx.1 (by omega) (hy0.below hb) (hx0.below hb) hW)
        (fun W H hb hW => new_any w0 m n x1 y1 o W H (by omega) gfx.2 gty.2 (by omega) (hx1.below hb) (hy1.below hb) hW)
    rw [if_neg (by rw [kf, kt]; exact h3)]
    by_cases ht0 : t.k = 0
    · rw [if_pos (by rw [kt]; exact ht0)]
      have hf0 : f.k ≠ 0 := fun e => hs (by
        rcases (Tr.right_good _ f hf).cases with ⟨lf, _⟩ | ⟨x0, x1, _, h, _, _⟩
        · rcases (Tr.right_good _ t ht).cases with ⟨lt, _⟩ | ⟨y0, y1, _, h, _, _⟩
          · have e1 : f.ty = ⟨0, []⟩ := by cases f; simp only at e lf; subst e lf; simp [Tr.ty_mk]
            have e2 : t.ty = ⟨0, []⟩ := by cases t; simp only at ht0 lt; subst ht0 lt; simp [Tr.ty_mk]
            rw [e1, e2, relY_mk]; rfl
          · omega
        · omega)
      simp only [kf]
      rw [if_pos (.inr ht0)] at hm
      refine new_toAny m f t o w0 w G hG ht0 HS fun W u hb hu hut hW => ?_
      have gu : goodT (n + 1) u = true := by rw [goodT_eq, hut]; exact gg _ gf
      have ku : u.k ≠ 0 := by rw [← u.ty_k, hut]; exact g0 _ (by rw [kf]; exact hf0)
      rw [← hut]
      exact new_any w0 m (n + 1) f u o W G hn hf gu (by rw [if_neg (by omega)]; omega) (hfi.below hb) hu hW
    rw [if_neg (by rw [kt]; exact ht0)]
    by_cases hf0 : f.k = 0
    · rw [if_pos (by rw [kf]; exact hf0)]
      simp only [kt]
      rw [if_pos (.inl hf0)] at hm
      refine new_fromAny m f t o w0 w G hG hf0 (by simpa using ht0) HS fun W u hb hu hut hW => ?_
      have gu : goodT (n + 1) u = true := by rw [goodT_eq, hut]; exact gg _ gt
      have ku : u.k ≠ 0 := by rw [← u.ty_k, hut]; exact g0 _ (by rw [kt]; exact ht0)
      rw [← hut]
      exact new_any w0 m (n + 1) u t o W G hn gu ht (by rw [if_neg (by omega)]; omega) hu (hti.below hb) hW
    rw [if_neg (by rw [kf]; exact hf0), kf]
    refine new_stuck f t o w0 w G hG ?_ (by simpa using hf0) (by simpa using ht0) HS
    by_cases hf3 : f.k = 3
    · exact .inr (by simpa using fun h => h3 ⟨hf3, h⟩)
    · exact .inl (by simpa using hf3)
end Go.Proofs.YtnddkmccagiclabGreatDoor
