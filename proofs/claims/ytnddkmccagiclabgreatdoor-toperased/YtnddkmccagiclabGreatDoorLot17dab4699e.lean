/-
  What the calls of the machine's refer, lookAtBoth, takeNumbers, sum, compare and choose do.
-/
import Derived.Test.YtnddkmccagiclabGreatDoorLot0a9d65eb36
import Derived.Test.YtnddkmccagiclabGreatDoorLotb947ceb944
import Derived.Deep.RegionHeld3
namespace Go.Proofs.YtnddkmccagiclabGreatDoor
open Go.RowKit
/-- A call of the machine's that answers nothing. -/
def StPost (w0 w : World) (M : Nat) (G : Gh) (s : St) (e : Ending) (w' : World) : Prop := e = .returned (.tuple #[]) ∧ ∃ H, G.le H ∧ MS w0 w' M H s ∧ Fr M w w'
theorem StPost.of {w0 w w' : World} {M : Nat} {G : Gh} {s : St} {e : Ending} (he : e = .returned (.tuple #[])) (h : MS w0 w' M G s) (hf : Fr M w w') : StPost w0 w M G s e w' := ⟨he, G, Gh.le.refl G, h, hf⟩
set_option maxRecDepth 20000 in
set_option maxHeartbeats 1000000 in
theorem refer_none {w0 w : World} {M : Nat} {G : Gh} {s : St} (h : MS w0 w M G s) : Calls Tryz.prog 148 #[.pointer (some ⟨M, 0, none⟩), .pointer none] w (StPost w0 w M G (s.stop stuckO)) := by
  have H : Hid (MS w0 w M G s) := h
  clear h
  go_enter Tryz.func148, Tryz.ntmps148
  go_wp2_with fail
  refine (stick_any H.out).mono ?_
  rintro e w' ⟨rfl, h1, h2⟩
  have HE : Hid (StPost w0 w M G (s.stop stuckO) (.returned (.tuple #[])) w') := StPost.of rfl h1 h2
  clear h1 h2
  go_wp2_with fail
  go_end0
  exact HE.out
set_option maxRecDepth 20000 in
set_option maxHeartbeats 1000000 in
theorem refer_some {w0 w : World} {M : Nat} {G : Gh} {s : St} (h : MS w0 w M G s) {b : Nat} {v : Val} (hv : G.vp (some ⟨b, 0, none⟩) v) (hn : s.vs.length + 1 ≤ 1000000000) : Calls Tryz.prog 148 #[.pointer (some ⟨M, 0, none⟩), .pointer (some ⟨b, 0, none⟩)] w (StPost w0 w M G (s.push v)) := by
  have H : Hid (MS w0 w M G s ∧ G.vp (some ⟨b, 0, none⟩) v ∧ s.vs.length + 1 ≤ 1000000000) := ⟨h, hv, hn⟩
  clear h hv hn
  go_enter Tryz.func148, Tryz.ntmps148
  go_wp2_with fail
  refine (keep_any H.out.1 H.out.2.1 H.out.2.2).mono ?_
  rintro e w' ⟨rfl, h1, h2⟩
  have HE : Hid (StPost w0 w M G (s.push v) (.returned (.tuple #[])) w') := StPost.of rfl h1 h2
  clear h1 h2
  go_wp2_with fail
  go_end0
  exact HE.out
/-- A part of a term that lies in memory. -/
theorem TmP.part {w0 : World} {p : Option Addr} {x : Tm} (h : TmP w0 p x) {j : Nat} (hj : j < x.l.length) : ∃ b o lb lo c, p = some ⟨b, o, none⟩ ∧ w0.cell? ⟨b, o + 6, none⟩ = some (.slice (some ⟨lb, lo, none⟩) x.l.length c) ∧ ∀ i, i < x.l.length → TmP w0 (some ⟨lb, lo + i * 7, none⟩) (x.at i) := by
  obtain ⟨b, o, y, rfl, ha, hi, rfl⟩ := h
  have hl : y.tm.l.length = y.l.length := by rw [y.tm_l]; simp
  obtain ⟨lb, lo, ea, _, _⟩ := hi.part j (by omega)
  refine ⟨b, o, lb, lo, y.c, rfl, ?_, fun i hi' => ?_⟩
  · rw [hl, ← ea]; exact ha.c6
  · obtain ⟨lb', lo', ea', h7, hin⟩ := hi.part i (by omega)
    rw [ea] at ea'
    obtain ⟨rfl, rfl⟩ : lb = lb' ∧ lo = lo' := by simpa using ea'
    refine ⟨lb, lo + i * 7, y.l[i], rfl, h7, hin, ?_⟩
    rw [Tm.at_eq (by omega)]
    simp [y.tm_l]
/-- Its numbers. -/
theorem TmP.top {w0 : World} {p : Option Addr} {x : Tm} (h : TmP w0 p x) : ∃ b o, p = some ⟨b, o, none⟩ ∧ w0.cell? ⟨b, o, none⟩ = some (.int .i64 x.k) ∧ w0.cell? ⟨b, o + 1, none⟩ = some (.int .i64 x.n) := by
  obtain ⟨b, o, y, rfl, ha, hi, rfl⟩ := h
  exact ⟨b, o, rfl, by rw [y.tm_k]; exact ha.c0, by rw [y.tm_n]; exact ha.c1⟩
theorem TkP.look {w0 : World} {G : Gh} {p q : Option Addr} {x : Tm} {e : List Val} (h : TmP w0 p x) (hs : G.sp q e) : TkP w0 G (lookT x e) 1 p q none := ⟨rfl, fun _ => ⟨h, hs⟩, Gh.cp_none _⟩
theorem TkP.do_ {w0 : World} {G : Gh} (d : Int) (h1 : d ≠ 1) (h4 : d ≠ 4) : TkP w0 G (doT d) (dOf d) none none none := ⟨rfl, fun h => by rcases h with h | h; exact absurd h h1; exact absurd h h4, Gh.cp_none _⟩
theorem TkP.choose {w0 : World} {G : Gh} {p q : Option Addr} {x : Tm} {e : List Val} (h : TmP w0 p x) (hs : G.sp q e) : TkP w0 G (chooseT x e) 4 p q none := ⟨rfl, fun _ => ⟨h, hs⟩, Gh.cp_none _⟩
theorem TkP.change {w0 : World} {G : Gh} {p : Option Addr} {c : Option Ca} (h : G.cp p c) : TkP w0 G (changeT c) 6 none none p := ⟨rfl, fun h => by rcases h with h | h <;> simp [changeT] at h, h⟩
set_option maxRecDepth 20000 in
set_option maxHeartbeats 1000000 in
theorem both_any {w0 w : World} {M : Nat} {G : Gh} {s : St} (h : MS w0 w M G s) {p q : Option Addr} {x : Tm} {e : List Val} (hx : TmP w0 p x) (hs : G.sp q e) (hl : x.l.length = 2) (d : Int) (hd : d = 2 ∨ d = 3 ∨ d = 5) (hn : s.ts.length + 3 ≤ 1000000000) : Calls Tryz.prog 152 #[.pointer (some ⟨M, 0, none⟩), .pointer p, .pointer q, .int .i64 d] w (StPost w0 w M G (bothS s x e d)) := by
  obtain ⟨b, o, lb, lo, c, rfl, c6, hp⟩ := hx.part (j := 0) (by omega)
  rw [hl] at c6
  have lb0 : b < w0.heap.size := World.block_lt_of_cell? _ _ c6
  have hd' : dOf d = d := by unfold dOf; rw [if_neg (by omega)]
  have H : Hid (MS w0 w M G s ∧ G.sp q e ∧ TmP w0 (some ⟨lb, lo + 7, none⟩) (x.at 1) ∧ TmP w0 (some ⟨lb, lo, none⟩) (x.at 0) ∧ TkP w0 G (doT d) d none none none ∧ s.ts.length + 3 ≤ 1000000000 ∧ w0.cell? ⟨b, o + 6, none⟩ = some (.slice (some ⟨lb, lo, none⟩) 2 c)) := ⟨h, hs, by simpa using hp 1 (by omega), by simpa using hp 0 (by omega), by have := TkP.do_ (w0 := w0) (G := G) d (by omega) (by omega); rwa [hd'] at this, hn, c6⟩
  clear hs hp hn hd hd' hl hx c6 h
  go_enter Tryz.func152, Tryz.ntmps152
  go_wp2_with fail
  refine (plan_any H.out.1 H.out.2.2.2.2.1 (by have := H.out.2.2.2.2.2.1; omega)).mono ?_
  rintro e' w1 ⟨rfl, h1, f1⟩
  have k1 := cell_later h1.bel H.out.2.2.2.2.2.2
  have l1 : b < w1.heap.size := World.block_lt_of_cell? _ _ k1
  have H1 : Hid (MS w0 w1 M G (s.plan (doT d)) ∧ Fr M w w1) := ⟨h1, f1⟩
  clear h1 f1
  go_wp2_with fail
  refine (plan_any H1.out.1 (TkP.look H.out.2.2.1 H.out.2.1) (by have := H.out.2.2.2.2.2.1; simp only [St.plan, List.length_cons]; omega)).mono ?_
  rintro e' w2 ⟨rfl, h2, f2⟩
  have k2 := cell_later h2.bel H.out.2.2.2.2.2.2
  have l2 : b < w2.heap.size := World.block_lt_of_cell? _ _ k2
  have H2 : Hid (MS w0 w2 M G ((s.plan (doT d)).plan (lookT (x.at 1) e)) ∧ Fr M w w2) := ⟨h2, H1.out.2.trans f2⟩
  clear h2 f2 k1 l1
  go_wp2_with fail
  refine (plan_any H2.out.1 (TkP.look H.out.2.2.2.1 H.out.2.1) (by have := H.out.2.2.2.2.2.1; simp only [St.plan, List.length_cons]; omega)).mono ?_
  rintro e' w3 ⟨rfl, h3, f3⟩
  have HE : Hid (StPost w0 w M G (bothS s x e d) (.returned (.tuple #[])) w3) := StPost.of rfl h3 (H2.out.2.trans f3)
  clear h3 f3 k2 l2
  go_wp2_with fail
  go_end0
  exact HE.out
/-- A value's first two cells. -/
theorem vp_top {w0 w : World} {G : Gh} (h : HG w0 w G) {p : Option Addr} {v : Val} (hv : G.vp p v) : ∃ b, p = some ⟨b, 0, none⟩ ∧ w.cell? ⟨b, 0, none⟩ = some (.int .i64 v.k) ∧ w.cell? ⟨b, 1, none⟩ = some (.int .i64 v.n) ∧ b < w.heap.size := by
  obtain ⟨b, rfl, hb⟩ := hv
  obtain ⟨pb, ps, pi, pg, pa, h0, h1, _⟩ := h.v b v hb
  exact ⟨b, rfl, h0, h1, World.block_lt_of_cell? _ _ h0⟩
set_option maxRecDepth 20000 in
set_option maxHeartbeats 2000000 in
theorem numbers_raw {w0 w : World} {M : Nat} {G : Gh} {ts : List Task} {u v : Val} {r : List Val} {ca fu : Nat} {en en' : Out} (h : MS w0 w M G ⟨ts, v :: u :: r, ca, fu, en⟩) (hn : r.length + 1 ≤ 1000000000) (he : en' = if u.k = 1 ∧ v.k = 1 then en else stuckO) :
    Calls Tryz.prog 153 #[.pointer (some ⟨M, 0, none⟩)] w fun e w' => e = .returned (.tuple #[.int .i64 u.n, .int .i64 v.n]) ∧ MS w0 w' M G ⟨ts, r, ca, fu, en'⟩ ∧ Fr M w w' := by
  have H : Hid (MS w0 w M G ⟨ts, v :: u :: r, ca, fu, en⟩ ∧ r.length + 1 ≤ 1000000000) := ⟨h, hn⟩
  have HI : Hid (en' = if u.k = 1 ∧ v.k = 1 then en else stuckO) := he
  clear h hn he
  go_enter Tryz.func153, Tryz.ntmps153
  go_wp2_with fail
  refine (take_any' H.out.1 rfl (by have := H.out.2; simp only [List.length_cons]; omega)).mono ?_
  rintro e w1 ⟨p1, rfl, hv1, h1, f1⟩
  have H1 : Hid (MS w0 w1 M G ⟨ts, u :: r, ca, fu, en⟩ ∧ G.vp p1 v ∧ Fr M w w1) := ⟨h1, hv1, f1⟩
  clear hv1 h1 f1
  go_wp2_with fail
  refine (take_any' H1.out.1 rfl (by have := H.out.2; omega)).mono ?_
  rintro e w2 ⟨p2, rfl, hv2, h2, f2⟩
  obtain ⟨b2, rfl, u0, u1, lu⟩ := vp_top h2.hg hv2
  obtain ⟨b1, rfl, v0, v1, lv⟩ := vp_top h2.hg H1.out.2.1
  have H2 : Hid (MS w0 w2 M G ⟨ts, r, ca, fu, en⟩ ∧ Fr M w w2 ∧ G.vp (some ⟨b2, 0, none⟩) u ∧ G.vp (some ⟨b1, 0, none⟩) v) := ⟨h2, H1.out.2.2.trans f2, hv2, H1.out.2.1⟩
  clear h2 f2 hv2 H H1
  have good : ∀ n, u.k = 1 → v.k = 1 → MS w0 (w2.drewN n) M G ⟨ts, r, ca, fu, en'⟩ ∧ Fr M w (w2.drewN n) := fun n hu hv => by
    rw [HI.out, if_pos ⟨hu, hv⟩]
    have hb := below_rN (Below.refl w2.heap.size w2) n
    exact ⟨H2.out.1.below hb, H2.out.2.1.trans (Fr.below hb H2.out.1.lt)⟩
  have HB : Hid (¬ (u.k = 1 ∧ v.k = 1) → Calls Tryz.prog 154 #[.pointer (some ⟨M, 0, none⟩)] w2 fun e w' => e = .returned (.tuple #[]) ∧ MS w0 w' M G ⟨ts, r, ca, fu, en'⟩ ∧ Fr M w w') := fun hn => by
    refine (stick_any H2.out.1).mono ?_
    rintro e w' ⟨rfl, h1, f1⟩
    rw [HI.out, if_neg hn]
    exact ⟨rfl, h1, H2.out.2.1.trans f1⟩
  have HGd : Hid (∀ n, u.k = 1 → v.k = 1 → MS w0 (w2.drewN n) M G ⟨ts, r, ca, fu, en'⟩ ∧ Fr M w (w2.drewN n)) := good
  clear good
  by_cases hu : u.k = 1
  · by_cases hv : v.k = 1
    · have HV : Hid (u.k = 1 ∧ v.k = 1) := ⟨hu, hv⟩
      rw [hu] at u0
      rw [hv] at v0
      clear hu hv
      go_wp2_with fail
      go_quiet (fail)
      go_wp2_with fail
      refine bodyPost_ret (v := .tuple #[.int .i64 u.n, .int .i64 v.n]) (by simp [results, Tryz.results153, go_sem]) rfl ⟨rfl, HGd.out _ HV.out.1 HV.out.2⟩
    · have HV : Hid (¬ (u.k = 1 ∧ v.k = 1)) := fun h => hv h.2
      have hv' : (v.k != 1) = true := by simpa using hv
      rw [hu] at u0
      clear hu hv
      go_wp2_with fail
      refine (HB.out HV.out).mono ?_
      rintro e w3 ⟨rfl, h3, f3⟩
      have y1 := (vp_top h3.hg H2.out.2.2.1)
      have y2 := (vp_top h3.hg H2.out.2.2.2)
      obtain ⟨_, e1, _, u1', lu'⟩ := y1
      obtain ⟨_, e2, _, v1', lv'⟩ := y2
      cases e1
      cases e2
      have H3 : Hid (MS w0 w3 M G ⟨ts, r, ca, fu, en'⟩ ∧ Fr M w w3) := ⟨h3, f3⟩
      clear h3 f3
      go_wp2_with fail
      go_quiet (fail)
      go_wp2_with fail
      have hb := below_rN (Below.refl w3.heap.size w3) nq
      refine bodyPost_ret (v := .tuple #[.int .i64 u.n, .int .i64 v.n]) (by simp [results, Tryz.results153, go_sem]) rfl ⟨rfl, H3.out.1.below hb, H3.out.2.trans (Fr.below hb H3.out.1.lt)⟩
  · have HV : Hid (¬ (u.k = 1 ∧ v.k = 1)) := fun h => hu h.1
    have hu' : (u.k != 1) = true := by simpa using hu
    clear hu
    go_wp2_with fail
    refine (HB.out HV.out).mono ?_
    rintro e w3 ⟨rfl, h3, f3⟩
    have y1 := (vp_top h3.hg H2.out.2.2.1)
    have y2 := (vp_top h3.hg H2.out.2.2.2)
    obtain ⟨_, e1, _, u1', lu'⟩ := y1
    obtain ⟨_, e2, _, v1', lv'⟩ := y2
    cases e1
    cases e2
    have H3 : Hid (MS w0 w3 M G ⟨ts, r, ca, fu, en'⟩ ∧ Fr M w w3) := ⟨h3, f3⟩
    clear h3 f3
    go_wp2_with fail
    go_quiet (fail)
    go_wp2_with fail
    have hb := below_rN (Below.refl w3.heap.size w3) nq
    refine bodyPost_ret (v := .tuple #[.int .i64 u.n, .int .i64 v.n]) (by simp [results, Tryz.results153, go_sem]) rfl ⟨rfl, H3.out.1.below hb, H3.out.2.trans (Fr.below hb H3.out.1.lt)⟩
/-- A value is made and kept. -/
theorem val_keep {w0 w W : World} {M : Nat} {G : Gh} {s : St} (h : MS w0 w M G s) {v : Val} (hb : Below w.heap.size w W) (hv : VAt w0 W G w.heap.size v) (hn : s.vs.length + 1 ≤ 1000000000) :
    Calls Tryz.prog 150 #[.pointer (some ⟨M, 0, none⟩), .pointer (some ⟨w.heap.size, 0, none⟩)] W (fun e w' => e = .returned (.tuple #[]) ∧ ∃ H, G.le H ∧ MS w0 w' M H (s.push v) ∧ Fr M w w') := by
  obtain ⟨r1, r2⟩ := val_new h.hg hb hv
  obtain ⟨m1, m2⟩ := h.post r1
  refine (keep_any m1 r2 hn).mono ?_
  rintro e w' ⟨rfl, h1, h2⟩
  exact ⟨rfl, _, r1.le, h1, m2.trans h2⟩
theorem val_num {w0 w : World} {G : Gh} (n : Int) : VAt w0 (w.alloc (valO 1 n none none none none none 0)) G w.heap.size (numV n) := valO_at (fun _ => rfl) rfl rfl rfl (fun h => by simp [numV] at h) (fun h => by simp [numV] at h) (Gh.cp_none _) (Gh.cp_none _)
theorem val_truth {w0 w : World} {G : Gh} (n : Int) : VAt w0 (w.alloc (valO 2 n none none none none none 0)) G w.heap.size (truthV n) := valO_at (fun _ => rfl) rfl rfl rfl (fun h => by simp [truthV] at h) (fun h => by simp [truthV] at h) (Gh.cp_none _) (Gh.cp_none _)
set_option maxRecDepth 20000 in
set_option maxHeartbeats 2000000 in
theorem sum_raw {w0 w : World} {M : Nat} {G : Gh} {ts : List Task} {u v : Val} {r : List Val} {ca fu : Nat} {en en' : Out} (h : MS w0 w M G ⟨ts, v :: u :: r, ca, fu, en⟩) (hn : r.length + 1 ≤ 1000000000) (he : en' = if u.k = 1 ∧ v.k = 1 then en else stuckO) (hu : -1000000 ≤ u.n ∧ u.n ≤ 1000000) (hv : -1000000 ≤ v.n ∧ v.n ≤ 1000000) :
    Calls Tryz.prog 112 #[.pointer (some ⟨M, 0, none⟩)] w (StPost w0 w M G ⟨ts, numV (clampI (u.n + v.n)) :: r, ca, fu, en'⟩) := by
  have H : Hid (Calls Tryz.prog 153 #[.pointer (some ⟨M, 0, none⟩)] w fun e w' => e = .returned (.tuple #[.int .i64 u.n, .int .i64 v.n]) ∧ MS w0 w' M G ⟨ts, r, ca, fu, en'⟩ ∧ Fr M w w') := numbers_raw h hn he
  clear h he
  obtain ⟨a, ha⟩ : ∃ a, a = u.n := ⟨_, rfl⟩
  obtain ⟨b, hb⟩ : ∃ b, b = v.n := ⟨_, rfl⟩
  rw [← ha] at hu H ⊢
  rw [← hb] at hv H ⊢
  clear ha hb
  obtain ⟨a1, a2⟩ := hu
  obtain ⟨b1, b2⟩ := hv
  go_enter Tryz.func112, Tryz.ntmps112
  go_wp2_with fail
  refine H.out.mono ?_
  rintro e w1 ⟨rfl, h1, f1⟩
  have HK : Hid (∀ X, X = clampI (a + b) → Calls Tryz.prog 150 #[.pointer (some ⟨M, 0, none⟩), .pointer (some ⟨w1.heap.size, 0, none⟩)] (w1.alloc (valO 1 X none none none none none 0)) (fun e w' => e = .returned (.tuple #[]) ∧ Hid (StPost w0 w M G ⟨ts, numV (clampI (a + b)) :: r, ca, fu, en'⟩ (.returned (.tuple #[])) w'))) := by
    intro X hX
    subst hX
    refine (val_keep h1 ((Below.refl _ _).alloc (Nat.le_refl _) _) (val_num _) hn).mono ?_
    rintro e w' ⟨rfl, H', hl, h2, f2⟩
    exact ⟨rfl, rfl, H', hl, h2, f1.trans f2⟩
  clear h1 f1 hn H
  go_wp2_with fail
  all_goals
    refine (HK.out _ (by unfold clampI; omega)).mono ?_
    rintro e w2 ⟨rfl, HE⟩
    go_wp2_with fail
    go_end0
    exact HE.out
set_option maxRecDepth 20000 in
set_option maxHeartbeats 2000000 in
theorem compare_raw {w0 w : World} {M : Nat} {G : Gh} {ts : List Task} {u v : Val} {r : List Val} {ca fu : Nat} {en en' : Out} (h : MS w0 w M G ⟨ts, v :: u :: r, ca, fu, en⟩) (hn : r.length + 1 ≤ 1000000000) (he : en' = if u.k = 1 ∧ v.k = 1 then en else stuckO) :
    Calls Tryz.prog 113 #[.pointer (some ⟨M, 0, none⟩)] w (StPost w0 w M G ⟨ts, truthV (if u.n < v.n then 1 else 0) :: r, ca, fu, en'⟩) := by
  have H : Hid (Calls Tryz.prog 153 #[.pointer (some ⟨M, 0, none⟩)] w fun e w' => e = .returned (.tuple #[.int .i64 u.n, .int .i64 v.n]) ∧ MS w0 w' M G ⟨ts, r, ca, fu, en'⟩ ∧ Fr M w w') := numbers_raw h hn he
  clear h he
  obtain ⟨a, ha⟩ : ∃ a, a = u.n := ⟨_, rfl⟩
  obtain ⟨b, hb⟩ : ∃ b, b = v.n := ⟨_, rfl⟩
  rw [← ha] at H ⊢
  rw [← hb] at H ⊢
  clear ha hb
  obtain ⟨z, hz⟩ : ∃ z : Int, z = if a < b then 1 else 0 := ⟨_, rfl⟩
  rw [← hz]
  have HK : Hid (∀ w1 X, MS w0 w1 M G ⟨ts, r, ca, fu, en'⟩ → Fr M w w1 → X = z → Calls Tryz.prog 150 #[.pointer (some ⟨M, 0, none⟩), .pointer (some ⟨w1.heap.size, 0, none⟩)] (w1.alloc (valO 2 X none none none none none 0)) (fun e w' => e = .returned (.tuple #[]) ∧ Hid (StPost w0 w M G ⟨ts, truthV z :: r, ca, fu, en'⟩ (.returned (.tuple #[])) w'))) := by
    intro w1 X h1 f1 hX
    subst hX
    refine (val_keep h1 ((Below.refl _ _).alloc (Nat.le_refl _) _) (val_truth _) hn).mono ?_
    rintro e w' ⟨rfl, H', hl, h2, f2⟩
    exact ⟨rfl, rfl, H', hl, h2, f1.trans f2⟩
  by_cases hlt : a < b
  · have HZ : Hid (1 = z) := by rw [hz, if_pos hlt]; rfl
    have hd : decide (a < b) = true := by simpa using hlt
    clear hz hn
    go_enter Tryz.func113, Tryz.ntmps113
    go_wp2_with fail
    refine H.out.mono ?_
    rintro e w1 ⟨rfl, h1, f1⟩
    have H1 : Hid (MS w0 w1 M G ⟨ts, r, ca, fu, en'⟩ ∧ Fr M w w1) := ⟨h1, f1⟩
    clear h1 f1
    go_wp2_with fail
    refine (HK.out w1 _ H1.out.1 H1.out.2 HZ.out).mono ?_
    rintro e w2 ⟨rfl, HE⟩
    go_wp2_with fail
    go_end0
    exact HE.out
  · have HZ : Hid (0 = z) := by rw [hz, if_neg hlt]; rfl
    have hd : decide (a < b) = false := by simpa using hlt
    clear hz hn
    go_enter Tryz.func113, Tryz.ntmps113
    go_wp2_with fail
    refine H.out.mono ?_
    rintro e w1 ⟨rfl, h1, f1⟩
    have H1 : Hid (MS w0 w1 M G ⟨ts, r, ca, fu, en'⟩ ∧ Fr M w w1) := ⟨h1, f1⟩
    clear h1 f1
    go_wp2_with fail
    refine (HK.out w1 _ H1.out.1 H1.out.2 HZ.out).mono ?_
    rintro e w2 ⟨rfl, HE⟩
    go_wp2_with fail
    go_end0
    exact HE.out
set_option maxRecDepth 20000 in
set_option maxHeartbeats 2000000 in
theorem choose_raw {w0 w : World} {M : Nat} {G : Gh} {ts : List Task} {v : Val} {r : List Val} {ca fu : Nat} {en : Out} (h : MS w0 w M G ⟨ts, v :: r, ca, fu, en⟩) (hr : r.length ≤ 1000000000) (hn : ts.length + 1 ≤ 1000000000) {p q : Option Addr} {x : Tm} {e : List Val} (hx : TmP w0 p x) (hs : G.sp q e) (hl : x.l.length = 3) :
    Calls Tryz.prog 114 #[.pointer (some ⟨M, 0, none⟩), .pointer p, .pointer q] w (StPost w0 w M G (if v.k = 2 then (St.plan ⟨ts, r, ca, fu, en⟩ (lookT (x.at (if v.n = 1 then 1 else 2)) e)) else St.stop ⟨ts, r, ca, fu, en⟩ stuckO)) := by
  obtain ⟨b, o, lb, lo, c, rfl, c6, hp⟩ := hx.part (j := 0) (by omega)
  rw [hl] at c6
  have H : Hid (Calls Tryz.prog 75 #[.pointer (some ⟨M, 0, none⟩)] w fun e w' => ∃ p, e = .returned (.pointer p) ∧ G.vp p v ∧ MS w0 w' M G ⟨ts, r, ca, fu, en⟩ ∧ Fr M w w') := take_any' h rfl hr
  have HT : Hid (G.sp q e ∧ TmP w0 (some ⟨lb, lo + 7, none⟩) (x.at 1) ∧ TmP w0 (some ⟨lb, lo + 14, none⟩) (x.at 2) ∧ ts.length + 1 ≤ 1000000000 ∧ w0.cell? ⟨b, o + 6, none⟩ = some (.slice (some ⟨lb, lo, none⟩) 3 c)) := ⟨hs, by simpa using hp 1 (by omega), by simpa using hp 2 (by omega), hn, c6⟩
  clear h hx hs hp c6 hn hr
  obtain ⟨S', hS⟩ : ∃ S', S' = (if v.k = 2 then (St.plan ⟨ts, r, ca, fu, en⟩ (lookT (x.at (if v.n = 1 then 1 else 2)) e)) else St.stop ⟨ts, r, ca, fu, en⟩ stuckO) := ⟨_, rfl⟩
  rw [← hS]
  have HS : Hid (S' = (if v.k = 2 then (St.plan ⟨ts, r, ca, fu, en⟩ (lookT (x.at (if v.n = 1 then 1 else 2)) e)) else St.stop ⟨ts, r, ca, fu, en⟩ stuckO)) := hS
  clear hS hl
  go_enter Tryz.func114, Tryz.ntmps114
  go_wp2_with fail
  refine H.out.mono ?_
  rintro e' w1 ⟨p1, rfl, hv1, h1, f1⟩
  obtain ⟨b1, rfl, v0, v1, lv⟩ := vp_top h1.hg hv1
  have k6 := cell_later h1.bel HT.out.2.2.2.2
  have lb6 : b < w1.heap.size := World.block_lt_of_cell? _ _ k6
  have H1 : Hid (MS w0 w1 M G ⟨ts, r, ca, fu, en⟩ ∧ Fr M w w1) := ⟨h1, f1⟩
  clear h1 f1 hv1 H
  by_cases hk : v.k = 2
  · rw [hk] at v0
    by_cases hn : v.n = 1
    · rw [hn] at v1
      have HS' : Hid (S' = St.plan ⟨ts, r, ca, fu, en⟩ (lookT (x.at 1) e)) := by rw [HS.out, if_pos hk, if_pos hn]; rfl
      clear hk hn HS
      go_wp2_with fail
      refine (plan_any H1.out.1 (TkP.look HT.out.2.1 HT.out.1) HT.out.2.2.2.1).mono ?_
      rintro e' w2 ⟨rfl, h2, f2⟩
      have HE : Hid (StPost w0 w M G S' (.returned (.tuple #[])) w2) := by rw [HS'.out]; exact StPost.of rfl h2 (H1.out.2.trans f2)
      clear h2 f2
      go_wp2_with fail
      go_end0
      exact HE.out
    · have hn' : (v.n == 1) = false := by simpa using hn
      have HS' : Hid (S' = St.plan ⟨ts, r, ca, fu, en⟩ (lookT (x.at 2) e)) := by rw [HS.out, if_pos hk, if_neg hn]; rfl
      clear hk hn HS
      go_wp2_with fail
      refine (plan_any H1.out.1 (TkP.look HT.out.2.2.1 HT.out.1) HT.out.2.2.2.1).mono ?_
      rintro e' w2 ⟨rfl, h2, f2⟩
      have HE : Hid (StPost w0 w M G S' (.returned (.tuple #[])) w2) := by rw [HS'.out]; exact StPost.of rfl h2 (H1.out.2.trans f2)
      clear h2 f2
      go_wp2_with fail
      go_end0
      exact HE.out
  · have hk' : (v.k != 2) = true := by simpa using hk
    have HS' : Hid (S' = St.stop ⟨ts, r, ca, fu, en⟩ stuckO) := by rw [HS.out, if_neg hk]; rfl
    clear hk HS
    go_wp2_with fail
    refine (stick_any H1.out.1).mono ?_
    rintro e' w2 ⟨rfl, h2, f2⟩
    have HE : Hid (StPost w0 w M G S' (.returned (.tuple #[])) w2) := by rw [HS'.out]; exact StPost.of rfl h2 (H1.out.2.trans f2)
    clear h2 f2
    go_wp2_with fail
    go_end0
    exact HE.out
end Go.Proofs.YtnddkmccagiclabGreatDoor

/-
  What the calls of the machine's enter, accompany, call and change do.
-/
namespace Go.Proofs.YtnddkmccagiclabGreatDoor
open Go.RowKit
theorem scope_new {w0 w W : World} {G : Gh} (hG : HG w0 w G) (hb : Below w.heap.size w W) {e : List Val} (hv : SAt W G w.heap.size e) : HPost w0 w G W (G.addS w.heap.size e) ∧ (G.addS w.heap.size e).sp (some ⟨w.heap.size, 0, none⟩) e := by
  have hd : ¬ G.dom w.heap.size := fun h => by have := hG.lt h; omega
  refine ⟨⟨Gh.le_addS hd, (hG.below hb).addS hd hv, hb, fun b h => ?_⟩, Gh.sp_addS _ _ _⟩
  rcases Gh.dom_addS h with rfl | h
  · exact .inr (Nat.le_refl _)
  · exact .inl h
set_option maxRecDepth 20000 in
set_option maxHeartbeats 2000000 in
theorem enter_raw {w0 w : World} {M : Nat} {G : Gh} {s : St} (h : MS w0 w M G s) (hn : s.ts.length + 1 ≤ 1000000000) (hc : s.calls ≤ 1000) {pf pg : Option Addr} {f g : Val} (hf : G.vp pf f) (hg : G.vp pg g) (hk : f.k = 3) :
    Calls Tryz.prog 155 #[.pointer (some ⟨M, 0, none⟩), .pointer pf, .pointer pg] w (StPost w0 w M G (enterS s f g)) := by
  obtain ⟨b, rfl, hb⟩ := hf
  obtain ⟨pb, ps, pi, pga, pa, h0, h1, h2, h3, h4, h5, h6, h7, a1, a2, a3, a4⟩ := h.hg.v b f hb
  obtain ⟨hbody, henv⟩ := a1 hk
  have lb : b < w.heap.size := World.block_lt_of_cell? _ _ h0
  have lM := h.lt
  have m2 := h.c2
  have m3 := h.c3
  have g2 := h.fz 2
  have hbM := (h.far b (.inl (by rw [hb]; simp))).1
  obtain ⟨S', hS⟩ : ∃ S', S' = enterS s f g := ⟨_, rfl⟩
  rw [← hS]
  by_cases hcf : s.calls = s.fuel
  · have HS : Hid (S' = s.stop fuelO) := by rw [hS]; unfold enterS; rw [if_pos hcf]; rfl
    have e1 : ((s.calls : Int) == (s.fuel : Int)) = true := by rw [hcf]; simp
    have H : Hid (MS w0 w M G s) := h
    clear hS hcf h hn hc hg a1 a2 a3 a4 hbody henv h0 h1 h2 h3 h4 h5 h6 h7
    go_enter Tryz.func155, Tryz.ntmps155
    go_wp2_with fail
    go_quiet (fail)
    go_wp2_with fail
    refine (end_any (H.out.below (below_rN (Below.refl _ _) _)) fuelO).mono ?_
    rintro e w1 ⟨rfl, x1, x2⟩
    have HE : Hid (StPost w0 w M G S' (.returned (.tuple #[])) w1) := by rw [HS.out]; exact StPost.of rfl x1 ((Fr.below (below_rN (Below.refl _ _) _) lM).trans x2)
    clear x1 x2
    go_wp2_with fail
    go_end0
    exact HE.out
  · have HS : Hid (S' = ⟨lookT f.body (g :: f.env) :: s.ts, s.vs, s.calls + 1, s.fuel, s.ended⟩) := by rw [hS]; unfold enterS; rw [if_neg hcf]; rfl
    have e1 : ((s.calls : Int) == (s.fuel : Int)) = false := by simp; omega
    have H : Hid (MS w0 w M G s ∧ s.ts.length + 1 ≤ 1000000000 ∧ G.vp pg g ∧ TmP w0 pb f.body ∧ G.sp ps f.env) := ⟨h, hn, hg, hbody, henv⟩
    clear hS hcf h hn hg a1 a2 a3 a4 hbody henv h0 h1 h4 h5 h6 h7
    go_enter Tryz.func155, Tryz.ntmps155
    go_wp2_with fail
    go_quiet (fail)
    go_wp2_with fail
    obtain ⟨W2, hW2⟩ : ∃ W, W = (w.drewN nq).setCell ⟨M, 2, none⟩ (.int .i64 ((s.calls : Int) + 1)) := ⟨_, rfl⟩
    have hms : MS w0 W2 M G ⟨s.ts, s.vs, s.calls + 1, s.fuel, s.ended⟩ ∧ Fr M w W2 := by
      rw [hW2]
      refine H.out.1.set (s' := ⟨s.ts, s.vs, s.calls + 1, s.fuel, s.ended⟩) _ ?_ ?_ rfl rfl ⟨rfl, rfl, rfl, by simp [World.setCell], fun k hk h1 _ => Below.heap_setCell _ _ _ _ h1⟩ ?_ ?_ ?_ ?_ ?_ ?_
      · rw [set_other (by omega)]; rfl
      · rw [set_other (by omega)]; rfl
      · have := set_same (u := w.drewN nq) (v := .int .i64 ((s.calls : Int) + 1)) (j := 2) (b := M) H.out.1.c2
        simpa using this
      · rw [set_other (by omega)]; exact H.out.1.c3
      · rw [set_other (by omega)]; exact H.out.1.c4
      · rw [set_other (by omega)]; exact H.out.1.c5
      · rw [set_other (by omega)]; exact H.out.1.c6
      · intro i; simpa using H.out.1.fz i
    have k2 : W2.cell? ⟨b, 2, none⟩ = some (.pointer pb) := by rw [hW2, World.cell?_setCell_far _ _ _ _ (by intro e; exact hbM e.symm)]; exact h2
    have k3 : W2.cell? ⟨b, 3, none⟩ = some (.pointer ps) := by rw [hW2, World.cell?_setCell_far _ _ _ _ (by intro e; exact hbM e.symm)]; exact h3
    have lb2 : b < W2.heap.size := World.block_lt_of_cell? _ _ k2
    have lM2 := hms.1.lt
    have HP : Hid (Calls Tryz.prog 72 #[.pointer (some ⟨M, 0, none⟩), .agg #[.int .i64 1, .pointer pb, .pointer (some ⟨W2.heap.size, 0, none⟩), .pointer none]] (W2.alloc (.cells #[.pointer pg, .pointer ps] 223)).drew fun e w' => e = .returned (.tuple #[]) ∧ Hid (StPost w0 w M G S' (.returned (.tuple #[])) w')) := by
      have hb2 : Below W2.heap.size W2 (W2.alloc (.cells #[.pointer pg, .pointer ps] 223)).drew := ((Below.refl _ _).alloc (Nat.le_refl _) _).drew
      obtain ⟨r1, r2⟩ := scope_new (e := g :: f.env) hms.1.hg hb2 ⟨g, f.env, pg, ps, rfl, by simp [go_sem], by simp [go_sem], H.out.2.2.1, H.out.2.2.2.2⟩
      obtain ⟨m1, m2⟩ := hms.1.post r1
      refine (plan_any m1 (TkP.look H.out.2.2.2.1 r2) H.out.2.1).mono ?_
      rintro e w' ⟨rfl, x1, x2⟩
      refine ⟨rfl, ?_⟩
      rw [HS.out]
      exact ⟨rfl, _, r1.le, x1, hms.2.trans (m2.trans x2)⟩
    rw [← hW2]
    clear hW2 hms h2 h3 m2 m3 g2
    go_region_with (go_at_call 72; refine HP.out.mono ?_; rintro e w3 ⟨rfl, HE⟩)
    all_goals
      go_wp2_with fail
      go_end0
      exact HE.out
set_option maxRecDepth 20000 in
set_option maxHeartbeats 2000000 in
theorem accomp_raw {w0 w : World} {M : Nat} {G : Gh} {s : St} (h : MS w0 w M G s) (hn : s.ts.length + 3 ≤ 1000000000) (hv : s.vs.length + 2 ≤ 1000000000) {pf pg : Option Addr} {f g : Val} (hf : G.vp pf f) (hg : G.vp pg g) (hk : f.k = 4) :
    Calls Tryz.prog 156 #[.pointer (some ⟨M, 0, none⟩), .pointer pf, .pointer pg] w (StPost w0 w M G (accompS s f g)) := by
  obtain ⟨b, rfl, hb⟩ := hf
  have cells : ∀ W, HG w0 W G → ∃ pi pga pa, W.cell? ⟨b, 4, none⟩ = some (.pointer pi) ∧ W.cell? ⟨b, 5, none⟩ = some (.pointer pga) ∧ W.cell? ⟨b, 6, none⟩ = some (.pointer pa) ∧ G.vp pi f.core ∧ G.cp pga f.given ∧ G.cp pa f.answer ∧ b < W.heap.size := fun W hW => by
    obtain ⟨pb, ps, pi, pga, pa, h0, h1, h2, h3, h4, h5, h6, h7, a1, a2, a3, a4⟩ := hW.v b f hb
    obtain ⟨u, hi, hu⟩ := a2 (.inl hk)
    have hcore : f.core = u := by unfold Val.core; rw [hi]; rfl
    exact ⟨pi, pga, pa, h4, h5, h6, by rw [hcore]; exact hu, a3, a4, World.block_lt_of_cell? _ _ h0⟩
  have HC : Hid (∀ W, HG w0 W G → ∃ pi pga pa, W.cell? ⟨b, 4, none⟩ = some (.pointer pi) ∧ W.cell? ⟨b, 5, none⟩ = some (.pointer pga) ∧ W.cell? ⟨b, 6, none⟩ = some (.pointer pa) ∧ G.vp pi f.core ∧ G.cp pga f.given ∧ G.cp pa f.answer ∧ b < W.heap.size) := cells
  obtain ⟨pi, pga, pa, c4, _, _, i1, _, _, lb⟩ := cells w h.hg
  have H : Hid (MS w0 w M G s ∧ G.vp pi f.core ∧ G.vp pg g ∧ s.ts.length + 3 ≤ 1000000000 ∧ s.vs.length + 2 ≤ 1000000000) := ⟨h, i1, hg, hn, hv⟩
  clear h i1 hg hn hv cells hk hb
  go_enter Tryz.func156, Tryz.ntmps156
  go_wp2_with fail
  refine (keep_any H.out.1 H.out.2.1 (by have := H.out.2.2.2.2; omega)).mono ?_
  rintro e w1 ⟨rfl, h1, f1⟩
  have H1 : Hid (MS w0 w1 M G (s.push f.core) ∧ Fr M w w1) := ⟨h1, f1⟩
  clear h1 f1 c4 lb
  go_wp2_with fail
  refine (keep_any H1.out.1 H.out.2.2.1 (by have := H.out.2.2.2.2; simp only [St.push, List.length_cons]; omega)).mono ?_
  rintro e w2 ⟨rfl, h2, f2⟩
  obtain ⟨_, _, pa2, _, _, c6, _, _, i6, lb⟩ := HC.out w2 h2.hg
  have H2 : Hid (MS w0 w2 M G ((s.push f.core).push g) ∧ Fr M w w2 ∧ G.cp pa2 f.answer) := ⟨h2, H1.out.2.trans f2, i6⟩
  clear h2 f2 i6
  go_wp2_with fail
  refine (plan_any H2.out.1 (TkP.change H2.out.2.2) (by have := H.out.2.2.2.1; simp only [St.push]; omega)).mono ?_
  rintro e w3 ⟨rfl, h3, f3⟩
  have H3 : Hid (MS w0 w3 M G (((s.push f.core).push g).plan (changeT f.answer)) ∧ Fr M w w3) := ⟨h3, H2.out.2.1.trans f3⟩
  clear h3 f3 c6 lb
  go_wp2_with fail
  refine (plan_any (t := doT 7) H3.out.1 (TkP.do_ (w0 := w0) (G := G) 7 (by omega) (by omega)) (by have := H.out.2.2.2.1; simp only [St.push, St.plan, List.length_cons]; omega)).mono ?_
  rintro e w4 ⟨rfl, h4, f4⟩
  obtain ⟨_, pg4, _, _, c5, _, _, i5, _, lb⟩ := HC.out w4 h4.hg
  have H4 : Hid (MS w0 w4 M G ((((s.push f.core).push g).plan (changeT f.answer)).plan (doT 7)) ∧ Fr M w w4 ∧ G.cp pg4 f.given) := ⟨h4, H3.out.2.trans f4, i5⟩
  clear h4 f4 i5
  go_wp2_with fail
  refine (plan_any H4.out.1 (TkP.change H4.out.2.2) (by have := H.out.2.2.2.1; simp only [St.push, St.plan, List.length_cons]; omega)).mono ?_
  rintro e w5 ⟨rfl, h5, f5⟩
  have HE : Hid (StPost w0 w M G (accompS s f g) (.returned (.tuple #[])) w5) := StPost.of rfl h5 (H4.out.2.1.trans f5)
  clear h5 f5
  go_wp2_with fail
  go_end0
  exact HE.out
set_option maxRecDepth 20000 in
set_option maxHeartbeats 2000000 in
theorem call_raw {w0 w : World} {M : Nat} {G : Gh} {ts : List Task} {u v : Val} {r : List Val} {ca fu : Nat} {en : Out} (h : MS w0 w M G ⟨ts, v :: u :: r, ca, fu, en⟩) (hr : r.length + 2 ≤ 1000000000) (hn : ts.length + 3 ≤ 1000000000) (hc : ca ≤ 1000) :
    Calls Tryz.prog 115 #[.pointer (some ⟨M, 0, none⟩)] w (StPost w0 w M G (callS ⟨ts, r, ca, fu, en⟩ u v)) := by
  have H : Hid (MS w0 w M G ⟨ts, v :: u :: r, ca, fu, en⟩ ∧ r.length + 2 ≤ 1000000000 ∧ ts.length + 3 ≤ 1000000000 ∧ ca ≤ 1000) := ⟨h, hr, hn, hc⟩
  clear h hn hr hc
  obtain ⟨S', hS⟩ : ∃ S', S' = callS ⟨ts, r, ca, fu, en⟩ u v := ⟨_, rfl⟩
  rw [← hS]
  have HS : Hid (S' = callS ⟨ts, r, ca, fu, en⟩ u v) := hS
  clear hS
  go_enter Tryz.func115, Tryz.ntmps115
  go_wp2_with fail
  refine (take_any' H.out.1 rfl (by have := H.out.2.1; simp only [List.length_cons]; omega)).mono ?_
  rintro e w1 ⟨p1, rfl, hv1, h1, f1⟩
  have H1 : Hid (MS w0 w1 M G ⟨ts, u :: r, ca, fu, en⟩ ∧ G.vp p1 v ∧ Fr M w w1) := ⟨h1, hv1, f1⟩
  clear hv1 h1 f1
  go_wp2_with fail
  refine (take_any' H1.out.1 rfl (by have := H.out.2.1; omega)).mono ?_
  rintro e w2 ⟨p2, rfl, hv2, h2, f2⟩
  obtain ⟨b2, rfl, u0, u1, lu⟩ := vp_top h2.hg hv2
  have H2 : Hid (MS w0 w2 M G ⟨ts, r, ca, fu, en⟩ ∧ Fr M w w2 ∧ G.vp (some ⟨b2, 0, none⟩) u ∧ G.vp p1 v) := ⟨h2, H1.out.2.2.trans f2, hv2, H1.out.2.1⟩
  clear h2 f2 hv2 H1 u1
  have fin : ∀ e w', StPost w0 w2 M G S' e w' → e = .returned (.tuple #[]) ∧ Hid (StPost w0 w M G S' (.returned (.tuple #[])) w') := fun e w' h => by
    obtain ⟨rfl, K, hl, hm, hf⟩ := h
    exact ⟨rfl, rfl, K, hl, hm, H2.out.2.1.trans hf⟩
  have HF : Hid (∀ e w', StPost w0 w2 M G S' e w' → e = .returned (.tuple #[]) ∧ Hid (StPost w0 w M G S' (.returned (.tuple #[])) w')) := fin
  clear fin
  by_cases h3 : u.k = 3
  · have HC : Hid (Calls Tryz.prog 155 #[.pointer (some ⟨M, 0, none⟩), .pointer (some ⟨b2, 0, none⟩), .pointer p1] w2 fun e w' => e = .returned (.tuple #[]) ∧ Hid (StPost w0 w M G S' (.returned (.tuple #[])) w')) := by
      refine (enter_raw H2.out.1 (by have := H.out.2.2.1; show ts.length + 1 ≤ _; omega) H.out.2.2.2 H2.out.2.2.1 H2.out.2.2.2 h3).mono fun e w' hp => HF.out e w' ?_
      have e1 : callS ⟨ts, r, ca, fu, en⟩ u v = enterS ⟨ts, r, ca, fu, en⟩ u v := by unfold callS; rw [if_pos h3]
      rw [HS.out, e1]; exact hp
    rw [h3] at u0
    clear h3
    go_wp2_with fail
    refine HC.out.mono ?_
    rintro e w3 ⟨rfl, HE⟩
    go_wp2_with fail
    go_end0
    exact HE.out
  · by_cases h4 : u.k = 4
    · have HC : Hid (Calls Tryz.prog 156 #[.pointer (some ⟨M, 0, none⟩), .pointer (some ⟨b2, 0, none⟩), .pointer p1] w2 fun e w' => e = .returned (.tuple #[]) ∧ Hid (StPost w0 w M G S' (.returned (.tuple #[])) w')) := by
        refine (accomp_raw H2.out.1 H.out.2.2.1 H.out.2.1 H2.out.2.2.1 H2.out.2.2.2 h4).mono fun e w' hp => HF.out e w' ?_
        have e1 : callS ⟨ts, r, ca, fu, en⟩ u v = accompS ⟨ts, r, ca, fu, en⟩ u v := by unfold callS; rw [if_neg h3, if_pos h4]
        rw [HS.out, e1]; exact hp
      rw [h4] at u0
      clear h3 h4
      go_wp2_with fail
      refine HC.out.mono ?_
      rintro e w3 ⟨rfl, HE⟩
      go_wp2_with fail
      go_end0
      exact HE.out
    · have HC : Hid (Calls Tryz.prog 154 #[.pointer (some ⟨M, 0, none⟩)] w2 fun e w' => e = .returned (.tuple #[]) ∧ Hid (StPost w0 w M G S' (.returned (.tuple #[])) w')) := by
        refine (stick_any H2.out.1).mono fun e w' hp => HF.out e w' ?_
        have e1 : callS ⟨ts, r, ca, fu, en⟩ u v = St.stop ⟨ts, r, ca, fu, en⟩ stuckO := by unfold callS; rw [if_neg h3, if_neg h4]
        rw [HS.out, e1]
        exact StPost.of hp.1 hp.2.1 hp.2.2
      have q3 : (u.k == 3) = false := by simpa using h3
      have q4 : (u.k == 4) = false := by simpa using h4
      clear h3 h4
      go_wp2_with fail
      refine HC.out.mono ?_
      rintro e w3 ⟨rfl, HE⟩
      go_wp2_with fail
      go_end0
      exact HE.out
end Go.Proofs.YtnddkmccagiclabGreatDoor

/-
  What the call of the machine's change does.
-/
namespace Go.Proofs.YtnddkmccagiclabGreatDoor
open Go.RowKit
set_option maxRecDepth 20000 in
set_option maxHeartbeats 4000000 in
theorem change_raw {w0 w : World} {M : Nat} {G : Gh} {ts : List Task} {v : Val} {r : List Val} {ca fu : Nat} {en : Out} (h : MS w0 w M G ⟨ts, v :: r, ca, fu, en⟩) (hr : r.length + 1 ≤ 1000000000) {pc : Option Addr} {c : Option Ca} (hc : G.cp pc c) :
    Calls Tryz.prog 116 #[.pointer (some ⟨M, 0, none⟩), .pointer pc] w (StPost w0 w M G (changeS ⟨ts, r, ca, fu, en⟩ c v)) := by
  have H : Hid (Calls Tryz.prog 75 #[.pointer (some ⟨M, 0, none⟩)] w fun e w' => ∃ p, e = .returned (.pointer p) ∧ G.vp p v ∧ MS w0 w' M G ⟨ts, r, ca, fu, en⟩ ∧ Fr M w w') := take_any' h rfl (by omega)
  have HR : Hid (r.length + 1 ≤ 1000000000) := hr
  clear h hr
  obtain ⟨S', hS⟩ : ∃ S', S' = changeS ⟨ts, r, ca, fu, en⟩ c v := ⟨_, rfl⟩
  rw [← hS]
  rcases hc with ⟨rfl, rfl⟩ | ⟨q, x, rfl, rfl, hq⟩
  · have HS : Hid (S' = St.push ⟨ts, r, ca, fu, en⟩ v) := hS
    clear hS
    go_enter Tryz.func116, Tryz.ntmps116
    go_wp2_with fail
    refine H.out.mono ?_
    rintro e w1 ⟨p1, rfl, hv1, h1, f1⟩
    have H1 : Hid (MS w0 w1 M G ⟨ts, r, ca, fu, en⟩ ∧ G.vp p1 v ∧ Fr M w w1) := ⟨h1, hv1, f1⟩
    clear hv1 h1 f1
    go_wp2_with fail
    refine (keep_any H1.out.1 H1.out.2.1 HR.out).mono ?_
    rintro e w2 ⟨rfl, h2, f2⟩
    have HE : Hid (StPost w0 w M G S' (.returned (.tuple #[])) w2) := by rw [HS.out]; exact StPost.of rfl h2 (H1.out.2.2.trans f2)
    clear h2 f2
    go_wp2_with fail
    go_end0
    exact HE.out
  · have HX : Hid (G.c q = some x) := hq
    have HS : Hid (S' = changeS ⟨ts, r, ca, fu, en⟩ (some x) v) := hS
    clear hS hq
    obtain ⟨op, hop⟩ : ∃ b, x.opens = b := ⟨_, rfl⟩
    have e1 : op = true → v.k ≠ 5 → S' = St.stop ⟨ts, r, ca, fu, en⟩ stuckO := fun h1 h2 => by rw [HS.out]; simp only [changeS]; rw [if_pos ⟨by rw [hop]; exact h1, h2⟩]
    have e2 : op = true → v.k = 5 → v.as ≠ x.kind → S' = St.stop ⟨ts, r, ca, fu, en⟩ x.wrong := fun h1 h2 h3 => by rw [HS.out]; simp only [changeS]; rw [if_neg (fun h => h.2 h2), if_pos ⟨by rw [hop]; exact h1, h3⟩]
    have e3 : (op = true → v.k = 5 ∧ v.as = x.kind) → x.ends.k ≠ 0 → S' = St.stop ⟨ts, r, ca, fu, en⟩ x.ends := fun h1 h2 => by rw [HS.out]; simp only [changeS]; rw [if_neg (fun h => h.2 (h1 (by rw [← hop]; exact h.1)).1), if_neg (fun h => h.2 (h1 (by rw [← hop]; exact h.1)).2), if_pos h2]
    have e4 : (op = true → v.k = 5 ∧ v.as = x.kind) → x.ends.k = 0 → S' = St.push ⟨ts, r, ca, fu, en⟩ (ofC x v) := fun h1 h2 => by rw [HS.out]; simp only [changeS]; rw [if_neg (fun h => h.2 (h1 (by rw [← hop]; exact h.1)).1), if_neg (fun h => h.2 (h1 (by rw [← hop]; exact h.1)).2), if_neg (fun h => h h2)]
    have H4 : Hid ((op = true → v.k ≠ 5 → S' = St.stop ⟨ts, r, ca, fu, en⟩ stuckO) ∧ (op = true → v.k = 5 → v.as ≠ x.kind → S' = St.stop ⟨ts, r, ca, fu, en⟩ x.wrong) ∧ ((op = true → v.k = 5 ∧ v.as = x.kind) → x.ends.k ≠ 0 → S' = St.stop ⟨ts, r, ca, fu, en⟩ x.ends) ∧ ((op = true → v.k = 5 ∧ v.as = x.kind) → x.ends.k = 0 → S' = St.push ⟨ts, r, ca, fu, en⟩ (ofC x v)) ∧ x.opens = op) := ⟨e1, e2, e3, e4, hop⟩
    clear e1 e2 e3 e4
    have HM : ∀ (w1 : World) (p1 : Option Addr), MS w0 w1 M G ⟨ts, r, ca, fu, en⟩ → G.vp p1 v → Fr M w w1 → Hid ((∀ n, S' = St.stop ⟨ts, r, ca, fu, en⟩ stuckO → Calls Tryz.prog 154 #[.pointer (some ⟨M, 0, none⟩)] (w1.drewN n) fun e w' => e = .returned (.tuple #[]) ∧ Hid (StPost w0 w M G S' (.returned (.tuple #[])) w')) ∧
        (∀ n (o : Out), S' = St.stop ⟨ts, r, ca, fu, en⟩ o → Calls Tryz.prog 157 #[.pointer (some ⟨M, 0, none⟩), .agg #[.int .i64 o.k, .int .i64 o.n, .bool o.b]] (w1.drewN n) fun e w' => e = .returned (.tuple #[]) ∧ Hid (StPost w0 w M G S' (.returned (.tuple #[])) w')) ∧
        (∀ n, S' = St.push ⟨ts, r, ca, fu, en⟩ (ofC x v) → (op = true → v.k = 5) → Calls Tryz.prog 158 #[.pointer (some ⟨q, 0, none⟩), .pointer p1] (w1.drewN n) fun e w' => ∃ p2, e = .returned (.pointer p2) ∧ Hid (Calls Tryz.prog 150 #[.pointer (some ⟨M, 0, none⟩), .pointer p2] w' fun e w'' => e = .returned (.tuple #[]) ∧ Hid (StPost w0 w M G S' (.returned (.tuple #[])) w'')))) := by
      intro w1 p1 h1 hv1 f1
      have hb := fun n => below_rN (Below.refl w1.heap.size w1) n
      refine ⟨fun n hs => ?_, fun n o hs => ?_, fun n hs ho => ?_⟩
      · refine (stick_any (h1.below (hb n))).mono ?_
        rintro e w' ⟨rfl, a, b⟩
        refine ⟨rfl, ?_⟩
        rw [hs]; exact StPost.of rfl a (f1.trans ((Fr.below (hb n) h1.lt).trans b))
      · refine (end_any (h1.below (hb n)) o).mono ?_
        rintro e w' ⟨rfl, a, b⟩
        refine ⟨rfl, ?_⟩
        rw [hs]; exact StPost.of rfl a (f1.trans ((Fr.below (hb n) h1.lt).trans b))
      · have h1' := h1.below (hb n)
        refine (of_any h1'.hg hv1 (.inr ⟨q, x, rfl, rfl, HX.out⟩) (fun h => ho (by rw [← H4.out.2.2.2.2]; exact h))).mono ?_
        rintro e w' ⟨p2, H2, rfl, hp2, hpost⟩
        obtain ⟨m1, m2⟩ := h1'.post hpost
        refine ⟨p2, rfl, (keep_any m1 hp2 HR.out).mono ?_⟩
        rintro e w'' ⟨rfl, a, b⟩
        refine ⟨rfl, ?_⟩
        rw [hs]; exact ⟨rfl, H2, hpost.le, a, f1.trans ((Fr.below (hb n) h1.lt).trans (m2.trans b))⟩
    have HMH : Hid (∀ (w1 : World) (p1 : Option Addr), MS w0 w1 M G ⟨ts, r, ca, fu, en⟩ → G.vp p1 v → Fr M w w1 → Hid ((∀ n, S' = St.stop ⟨ts, r, ca, fu, en⟩ stuckO → Calls Tryz.prog 154 #[.pointer (some ⟨M, 0, none⟩)] (w1.drewN n) fun e w' => e = .returned (.tuple #[]) ∧ Hid (StPost w0 w M G S' (.returned (.tuple #[])) w')) ∧
        (∀ n (o : Out), S' = St.stop ⟨ts, r, ca, fu, en⟩ o → Calls Tryz.prog 157 #[.pointer (some ⟨M, 0, none⟩), .agg #[.int .i64 o.k, .int .i64 o.n, .bool o.b]] (w1.drewN n) fun e w' => e = .returned (.tuple #[]) ∧ Hid (StPost w0 w M G S' (.returned (.tuple #[])) w')) ∧
        (∀ n, S' = St.push ⟨ts, r, ca, fu, en⟩ (ofC x v) → (op = true → v.k = 5) → Calls Tryz.prog 158 #[.pointer (some ⟨q, 0, none⟩), .pointer p1] (w1.drewN n) fun e w' => ∃ p2, e = .returned (.pointer p2) ∧ Hid (Calls Tryz.prog 150 #[.pointer (some ⟨M, 0, none⟩), .pointer p2] w' fun e w'' => e = .returned (.tuple #[]) ∧ Hid (StPost w0 w M G S' (.returned (.tuple #[])) w''))))) := HM
    clear HM hop
    have HCL : Hid (∀ (w1 : World) (p1 : Option Addr), HG w0 w1 G → G.vp p1 v → ∃ b pg pa, p1 = some ⟨b, 0, none⟩ ∧ b < w1.heap.size ∧ q < w1.heap.size ∧ w1.cell? ⟨b, 0, none⟩ = some (.int .i64 v.k) ∧ w1.cell? ⟨b, 7, none⟩ = some (.int .i64 v.as) ∧ CAt w1 q x pg pa) := by
      intro w1 p1 hg hv
      obtain ⟨b, rfl, hb⟩ := hv
      obtain ⟨pb, ps, pi, pg, pa, h0, h1, h2, h3, h4, h5, h6, h7, _⟩ := hg.v b v hb
      obtain ⟨pg', pa', hC, _, _⟩ := hg.c q x HX.out
      exact ⟨b, pg', pa', rfl, World.block_lt_of_cell? _ _ h0, World.block_lt_of_cell? _ _ hC.c0, h0, h7, hC⟩
    go_enter Tryz.func116, Tryz.ntmps116
    go_wp2_with fail
    refine H.out.mono ?_
    rintro e w1 ⟨p1, rfl, hv1, h1, f1⟩
    obtain ⟨b, pg, pa, rfl, lb, lq, v0, v7, hC⟩ := HCL.out w1 p1 h1.hg hv1
    have HA := HMH.out w1 _ h1 hv1 f1
    obtain ⟨c0, c1, c2, c3, c4, c5, c6, c7, c8, c9, c10⟩ := hC
    rw [H4.out.2.2.2.2] at c0
    clear h1 f1 hv1 H HMH HCL HS c8 c9 c10
    cases op
    · by_cases h0 : x.ends.k = 0
      · have HS : Hid (S' = St.push ⟨ts, r, ca, fu, en⟩ (ofC x v)) := H4.out.2.2.2.1 (fun h => by cases h) h0
        have z0 : (x.ends.k != 0) = false := by simpa using h0
        clear h0 H4
        go_wp2_with fail
        go_quiet (fail)
        go_wp2_with fail
        refine (HA.out.2.2 _ HS.out (fun h => by cases h)).mono ?_
        rintro e w2 ⟨p2, rfl, HKp⟩
        go_wp2_with fail
        refine HKp.out.mono ?_
        rintro e w3 ⟨rfl, HE⟩
        go_wp2_with fail
        go_end0
        exact HE.out
      · have HS : Hid (S' = St.stop ⟨ts, r, ca, fu, en⟩ x.ends) := H4.out.2.2.1 (fun h => by cases h) h0
        have z0 : (x.ends.k != 0) = true := by simpa using h0
        clear h0 H4
        go_wp2_with fail
        go_quiet (fail)
        go_wp2_with fail
        refine (HA.out.2.1 _ x.ends HS.out).mono ?_
        rintro e w2 ⟨rfl, HE⟩
        go_wp2_with fail
        go_end0
        exact HE.out
    · by_cases h5 : v.k = 5
      · by_cases ha : v.as = x.kind
        · have hok : (true = true → v.k = 5 ∧ v.as = x.kind) := fun _ => ⟨h5, ha⟩
          have z7 : (v.as != x.kind) = false := by simpa using ha
          have H5 : Hid (v.k = 5) := h5
          rw [h5] at v0
          by_cases h0 : x.ends.k = 0
          · have HS : Hid (S' = St.push ⟨ts, r, ca, fu, en⟩ (ofC x v)) := H4.out.2.2.2.1 hok h0
            have z0 : (x.ends.k != 0) = false := by simpa using h0
            clear h0 H4 h5 ha hok
            go_wp2_with fail
            go_quiet (fail)
            go_wp2_with fail
            refine (HA.out.2.2 _ HS.out (fun _ => H5.out)).mono ?_
            rintro e w2 ⟨p2, rfl, HKp⟩
            go_wp2_with fail
            refine HKp.out.mono ?_
            rintro e w3 ⟨rfl, HE⟩
            go_wp2_with fail
            go_end0
            exact HE.out
          · have HS : Hid (S' = St.stop ⟨ts, r, ca, fu, en⟩ x.ends) := H4.out.2.2.1 hok h0
            have z0 : (x.ends.k != 0) = true := by simpa using h0
            clear h0 H4 h5 ha hok
            go_wp2_with fail
            go_quiet (fail)
            go_wp2_with fail
            refine (HA.out.2.1 _ x.ends HS.out).mono ?_
            rintro e w2 ⟨rfl, HE⟩
            go_wp2_with fail
            go_end0
            exact HE.out
        · have HS : Hid (S' = St.stop ⟨ts, r, ca, fu, en⟩ x.wrong) := H4.out.2.1 rfl h5 ha
          have z7 : (v.as != x.kind) = true := by simpa using ha
          rw [h5] at v0
          clear h5 ha H4
          go_wp2_with fail
          go_quiet (fail)
          go_wp2_with fail
          refine (HA.out.2.1 _ x.wrong HS.out).mono ?_
          rintro e w2 ⟨rfl, HE⟩
          go_wp2_with fail
          go_end0
          exact HE.out
      · have HS : Hid (S' = St.stop ⟨ts, r, ca, fu, en⟩ stuckO) := H4.out.1 rfl h5
        have z5 : (v.k != 5) = true := by simpa using h5
        clear h5 H4
        go_wp2_with fail
        refine (HA.out.1 0 HS.out).mono ?_
        rintro e w2 ⟨rfl, HE⟩
        go_wp2_with fail
        go_end0
        exact HE.out
end Go.Proofs.YtnddkmccagiclabGreatDoor

/-
  What the call of kind.same answers at two trees that lie in memory, where there is room for all levels of the first.
-/
namespace Go.Proofs.YtnddkmccagiclabGreatDoor
open Go.RowKit
theorem wrap_small (n : Nat) (hn : n ≤ 1000) : IntKind.i64.wrap (n : Int) = (n : Int) := by
  rw [IntKind.wrap_i64]; omega
set_option maxHeartbeats 1000000 in
theorem same_step (n : Nat) (hn : n ≤ 1000) (x y : Tr) (rp : Option Addr) (w : World) (hx : x.In w) (hy : y.In w) (hh : x.hgt ≤ n + 1) (hs : x.sm)
    (ih : Hid (∀ (x y : Tr) (w : World), x.In w → y.In w → x.hgt ≤ n → x.sm → Calls Tryz.prog 182 #[.agg #[.int .i64 x.k, .slice x.a x.l.length x.c], .agg #[.int .i64 y.k, .slice y.a y.l.length y.c], .int .i64 (n : Int), .pointer rp] w fun e w' => e = .returned (.bool (relY escSame x.ty y.ty)) ∧ Below w.heap.size w w')) :
    Calls Tryz.prog 182 #[.agg #[.int .i64 x.k, .slice x.a x.l.length x.c], .agg #[.int .i64 y.k, .slice y.a y.l.length y.c], .int .i64 ((n : Int) + 1), .pointer rp] w fun e w' => e = .returned (.bool (relY escSame x.ty y.ty)) ∧ Below w.heap.size w w' := by
  have hz : (((n : Int) + 1) == 0) = false := by simp; omega
  have hlen := hs.len
  by_cases ht0 : (x.k == y.k && (x.l.length : Int) == (y.l.length : Int)) = false
  · have ht : Hid ((x.k == y.k && (x.l.length : Int) == (y.l.length : Int)) = false) := ht0
    clear ht0
    go_enter Tryz.func182, Tryz.ntmps182
    go_wp2_with fail
    refine (alike_any _ _ _ _ _ _ _ _ false ht.out _).mono ?_
    rintro e w1 ⟨rfl, hb1⟩
    go_wp2_with fail
    go_ret
    refine ⟨?_, (((Below.refl _ _).alloc (Nat.le_refl _) _).alloc (by simp) _).trans (hb1.mono (by simp; omega))⟩
    rw [relY_top escSame x y rfl ht.out]
    rfl
  · have ht' : Hid ((x.k == y.k && (x.l.length : Int) == (y.l.length : Int)) = true) := by simpa [Hid] using ht0
    clear ht0
    have hk : Hid (x.k = y.k) := by have h := ht'.out; simp at h; exact h.1
    have hl : Hid (x.l.length = y.l.length) := by have h := ht'.out; simp at h; exact Int.ofNat.inj h.2
    go_enter Tryz.func182, Tryz.ntmps182
    go_wp2_with fail
    refine (alike_any _ _ _ _ _ _ _ _ true ht'.out _).mono ?_
    rintro e w1 ⟨rfl, hb1⟩
    have hbw : Below w.heap.size w w1 := (((Below.refl _ _).alloc (Nat.le_refl _) _).alloc (by simp) _).trans (hb1.mono (by simp; omega))
    have p1 : w1.cell? ⟨w.heap.size, 1, none⟩ = some (.slice x.a x.l.length x.c) := cell_later hb1 (by simp [go_sem])
    have p3 : w1.cell? ⟨w.heap.size + 1, 1, none⟩ = some (.slice y.a y.l.length y.c) := cell_later hb1 (by simp [go_sem])
    clear hb1
    go_wp2_with fail
    go_loopw [24] (fun i wr => ∃ j : Nat, j ≤ x.l.length ∧ i = .int .i64 (j : Int) ∧ Below w1.heap.size w1 wr ∧ ∀ q (h : q < x.l.length) (h' : q < y.l.length), q < j → relY escSame x.l[q].ty y.l[q].ty = true) (fun i _ => x.l.length - (intOf i).toNat)
    case atStart => exact ⟨0, Nat.zero_le _, rfl, Below.refl _ _, fun q _ _ h => absurd h (by omega)⟩
    case round =>
      obtain ⟨j, hj, rfl, hbr, hall⟩ := hrel
      have HA : Hid (∀ q (h : q < x.l.length) (h' : q < y.l.length), q < j → relY escSame x.l[q].ty y.l[q].ty = true) := hall
      clear hall
      have hbwr : Below w.heap.size w wr := hbw.trans (hbr.mono hbw.size)
      by_cases hlt : j < x.l.length
      · have hlt' : j < y.l.length := hl.out ▸ hlt
        obtain ⟨b, o, ea, x0, x1, hxj⟩ := hx.part j hlt
        obtain ⟨b', o', eb, y0, y1, hyj⟩ := hy.part j hlt'
        have q1 : wr.cell? ⟨w.heap.size, 1, none⟩ = some (.slice (some ⟨b, o, none⟩) x.l.length x.c) := by rw [← ea]; exact cell_later hbr p1
        have q3 : wr.cell? ⟨w.heap.size + 1, 1, none⟩ = some (.slice (some ⟨b', o', none⟩) y.l.length y.c) := by rw [← eb]; exact cell_later hbr p3
        replace x0 := cell_later hbwr x0
        replace x1 := cell_later hbwr x1
        replace y0 := cell_later hbwr y0
        replace y1 := cell_later hbwr y1
        have i1 : (j : Int) < (x.l.length : Int) := by omega
        have i2 : (j : Int) < (y.l.length : Int) := by omega
        have i0 : (0 : Int) ≤ (j : Int) := by omega
        clear p1 p3 ea eb hx hy ht'
        have hwr : IntKind.i64.wrap (n : Int) = (n : Int) := wrap_small n hn
        obtain ⟨r, hr⟩ : ∃ r, relY escSame x.l[j].ty y.l[j].ty = r := ⟨_, rfl⟩
        have HC : Hid (∀ (w : World), x.l[j].In w → y.l[j].In w → Calls Tryz.prog 182 #[.agg #[.int .i64 x.l[j].k, .slice x.l[j].a x.l[j].l.length x.l[j].c], .agg #[.int .i64 y.l[j].k, .slice y.l[j].a y.l[j].l.length y.l[j].c], .int .i64 (n : Int), .pointer rp] w fun e w' => e = .returned (.bool r) ∧ Below w.heap.size w w') := by
          intro w h1 h2
          have := ih.out x.l[j] y.l[j] w h1 h2 (Tr.hgt_part hh j hlt) (hs.part j hlt)
          rw [hr] at this
          exact this
        have HR : Hid (relY escSame x.l[j].ty y.l[j].ty = r) := hr
        clear hr
        cases r
        · go_wp2_with fail
          go_region_held3 (fun w' => w'.cell? ⟨w.heap.size, 1, none⟩ = some (.slice (some ⟨b, o, none⟩) x.l.length x.c) ∧ w'.cell? ⟨w.heap.size + 1, 1, none⟩ = some (.slice (some ⟨b', o', none⟩) y.l.length y.c) ∧ w'.cell? ⟨b, o + j * 2, none⟩ = some (.int .i64 x.l[j].k) ∧ w'.cell? ⟨b, o + j * 2 + 1, none⟩ = some (.slice x.l[j].a x.l[j].l.length x.l[j].c) ∧ w'.cell? ⟨b', o' + j * 2, none⟩ = some (.int .i64 y.l[j].k) ∧ w'.cell? ⟨b', o' + j * 2 + 1, none⟩ = some (.slice y.l[j].a y.l[j].l.length y.l[j].c)) (first | exact ⟨cell_later hb2 q1, cell_later hb2 q3, cell_later hb2 x0, cell_later hb2 x1, cell_later hb2 y0, cell_later hb2 y1⟩ | go_keep) (first | (go_at_call 182; refine (HC.out _ (hxj.below hbwr.drew) (hyj.below hbwr.drew)).mono ?_; rintro e w2 ⟨rfl, hb2⟩))
          have hbr2 : Below w1.heap.size w1 w2 := hbr.drew.trans (hb2.mono hbr.size)
          go_wp2_with fail
          go_ret
          refine ⟨?_, hbw.trans (hbr2.mono hbw.size)⟩
          rw [relY_part_not escSame x y rfl j hlt hlt' HR.out]
          rfl
        · go_wp2_with fail
          go_region_held3 (fun w' => w'.cell? ⟨w.heap.size, 1, none⟩ = some (.slice (some ⟨b, o, none⟩) x.l.length x.c) ∧ w'.cell? ⟨w.heap.size + 1, 1, none⟩ = some (.slice (some ⟨b', o', none⟩) y.l.length y.c) ∧ w'.cell? ⟨b, o + j * 2, none⟩ = some (.int .i64 x.l[j].k) ∧ w'.cell? ⟨b, o + j * 2 + 1, none⟩ = some (.slice x.l[j].a x.l[j].l.length x.l[j].c) ∧ w'.cell? ⟨b', o' + j * 2, none⟩ = some (.int .i64 y.l[j].k) ∧ w'.cell? ⟨b', o' + j * 2 + 1, none⟩ = some (.slice y.l[j].a y.l[j].l.length y.l[j].c)) (first | exact ⟨cell_later hb2 q1, cell_later hb2 q3, cell_later hb2 x0, cell_later hb2 x1, cell_later hb2 y0, cell_later hb2 y1⟩ | go_keep) (first | (go_at_call 182; refine (HC.out _ (hxj.below hbwr.drew) (hyj.below hbwr.drew)).mono ?_; rintro e w2 ⟨rfl, hb2⟩))
          have hbr2 : Below w1.heap.size w1 w2 := hbr.drew.trans (hb2.mono hbr.size)
          go_wp2_with fail
          go_roundw
          case rel =>
            refine ⟨j + 1, by omega, by go_num, hbr2, fun q h h' hq => ?_⟩
            by_cases e : q = j
            · subst e; exact HR.out
            · exact HA.out q h h' (by omega)
          case measure => simp [intOf]; omega
      · go_wp2_with fail
        go_ret
        refine ⟨?_, hbwr⟩
        rw [relY_parts escSame x y hk.out hl.out fun q h h' => HA.out q h h' (by omega)]
        rfl
theorem same_any (n : Nat) : n ≤ 1000 → ∀ (x y : Tr) (rp : Option Addr) (w : World), x.In w → y.In w → x.hgt ≤ n → x.sm → Calls Tryz.prog 182 #[.agg #[.int .i64 x.k, .slice x.a x.l.length x.c], .agg #[.int .i64 y.k, .slice y.a y.l.length y.c], .int .i64 (n : Int), .pointer rp] w fun e w' => e = .returned (.bool (relY escSame x.ty y.ty)) ∧ Below w.heap.size w w' := by
  induction n with
  | zero =>
    intro _ x y rp w _ _ h
    have := x.hgt_pos
    omega
  | succ n ih =>
    intro hn x y rp w hx hy h hs
    have e : ((n + 1 : Nat) : Int) = (n : Int) + 1 := by omega
    rw [e]
    exact same_step n (by omega) x y rp w hx hy h hs (fun x y w hx hy h hs => ih (by omega) x y rp w hx hy h hs)
end Go.Proofs.YtnddkmccagiclabGreatDoor
