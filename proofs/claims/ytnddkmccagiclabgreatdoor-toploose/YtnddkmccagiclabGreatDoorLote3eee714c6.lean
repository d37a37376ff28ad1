/-
  Two machines side by side, the one's term saying more than the other's, in plain mathematics: step by step; no program in it.
-/
import Derived.Test.YtnddkmccagiclabGreatDoorLot64817dd5a0
import Derived.Test.YtnddkmccagiclabGreatDoorLotabe26c0bfc
import Derived.Test.YtnddkmccagiclabGreatDoorLot4dc51dc1b2
import Derived.Test.YtnddkmccagiclabGreatDoorLotaf7b3021f5
import Derived.Test.YtnddkmccagiclabGreatDoorLot9ce1b4e4db
import Derived.Test.YtnddkmccagiclabGreatDoorLot004ab7e8c4
namespace Go.Proofs.YtnddkmccagiclabGreatDoor
/-- What a step of the other machine comes to. -/
def Goes (s s' : St) : Prop := (∃ m, SI2 (runN m s) (stepS s')) ∨ ((stepS s').ended.k ≠ 0 ∧ (stepS s').ended.k ≠ 4) ∨ stepS s' = s'
theorem Goes.later {s s' : St} {k : Nat} (h : Goes (runN k s) s') : Goes s s' := by
  rcases h with ⟨m, h⟩ | h | h
  · exact .inl ⟨k + m, by rw [runN_add]; exact h⟩
  · exact .inr (.inl h)
  · exact .inr (.inr h)
theorem calm {s : St} (h : ∀ m, (runN m s).ended.k ≠ 4) (k : Nat) : ∀ m, (runN m (runN k s)).ended.k ≠ 4 := fun m => by
  rw [← runN_add]; exact h _
/-- A call of a bare function, the casts of the other machine's done. -/
theorem call_goes {n : Nat} {t t' : Task} (hd : t.d = 5 ∨ t.d = 7) (hd' : t'.d = 5 ∨ t'.d = 7) {v v' f f' : Val} {T U U' D D' B B' : Ty} {cs : List (Option Ca × Ty)} {r0 r0' : List Val} {rr rr' : List Task} {q q' : List Ty} {c fu : Nat} {o o' : Out} (h0 : o.k = 0) (h1 : o'.k = 0)
    (hu : tyX v T D) (hv : tyX v' U' D') (hcore : RU (coreV v) D (coreV v') D') (hl : tyL cs T U) (hlv : ∀ x, LV v T D x → LL cs T x → LV v' U' D' x) (k3 : f.k = 3) (k3' : f'.k = 3) (hf : RU f (funY U B) f' (funY U' B')) (hc : RC (fun a b c d => RT n a b c d) B rr q B' rr' q') (he : RE r0 q r0' q')
    (hnb : ∀ m, (runN m ⟨cs.map chT ++ t :: rr, v :: f :: r0, c, fu, o⟩).ended.k ≠ 4) : Goes ⟨cs.map chT ++ t :: rr, v :: f :: r0, c, fu, o⟩ ⟨t' :: rr', v' :: f' :: r0', c, fu, o'⟩ := by
  rcases drain cs v T U D (t :: rr) (f :: r0) c fu o (fun x => LV v' U' D' x) h0 hu hl hlv with ⟨m, hm⟩ | ⟨m, u, hm, hu2, hcu, hlu⟩
  · exact absurd hm (hnb m)
  · rcases enter_both hd hd' h0 h1 hu2 hv (by rw [hcu]; exact hcore) hlu k3 k3' hf hc he with h | h
    · exact .inl ⟨m + 1, by rw [runN_succ, hm]; exact h⟩
    · exact .inr (.inl (by omega))
theorem step_do {t : Task} {ts : List Task} {vs : List Val} {c f : Nat} {o : Out} (h0 : o.k = 0) : stepS ⟨t :: ts, vs, c, f, o⟩ = doS ⟨ts, vs, c, f, o⟩ t := by
  simp only [stepS]; rw [if_pos h0]
theorem step_look {t : Task} {ts : List Task} {vs : List Val} {c f : Nat} {o : Out} (h0 : o.k = 0) (hd : t.d = 1) : stepS ⟨t :: ts, vs, c, f, o⟩ = lookS ⟨ts, vs, c, f, o⟩ t.x t.s := by
  rw [step_do h0]; simp [doS, hd]
theorem step_cast {z : Tm} {k : Int} {u i : Ty} {ts : List Task} {vs : List Val} {c f : Nat} {o : Out} {e : List Val} : lookS ⟨ts, vs, c, f, o⟩ ⟨10, k, u, i, [z]⟩ e = ⟨lookT z e :: changeT (newC 100 i u (blameO k)) :: ts, vs, c, f, o⟩ := by
  simp [lookS, Tm.at, St.plan]
theorem step_accomp {t : Task} {ts : List Task} {v g : Val} {vs : List Val} {c f : Nat} {o : Out} (h0 : o.k = 0) (hd : t.d = 5 ∨ t.d = 7) (h4 : g.k = 4) : stepS ⟨t :: ts, v :: g :: vs, c, f, o⟩ = ⟨changeT g.given :: doT 7 :: changeT g.answer :: ts, v :: g.core :: vs, c, f, o⟩ := by
  rw [step_do h0]
  rcases hd with hd | hd <;> simp [doS, hd, callS, h4, accompS]
/-- A call, with the casts of the function that is called. -/
theorem RC_pa {R : List Task → List Ty → List Task → List Ty → Prop} {b b' B0 B0' : Ty} {pa pa' : List (Option Ca × Ty)} {r r' : List Task} {q q' : List Ty} (hc : RC R b r q b' r' q') (h1 : tyL pa B0 b) (h2 : tyL pa' B0' b') (hl : ∀ x, leY x B0 → LL pa B0 x → LL pa' B0' x) : RC R B0 (pa.map chT ++ r) q B0' (pa'.map chT ++ r') q' := by
  obtain ⟨cs, cs', U, U', rest, rest', t1, t2, t3, rfl, rfl, t4⟩ := hc
  refine ⟨pa ++ cs, pa' ++ cs', U, U', rest, rest', tyL_append _ _ _ _ _ h1 t1, tyL_append _ _ _ _ _ h2 t2, fun x hx hl2 => ?_, by simp, by simp, t4⟩
  obtain ⟨g1, g2⟩ := (LL_append pa cs B0 b x h1).1 hl2
  exact (LL_append pa' cs' B0' b' x h2).2 ⟨hl x hx g1, t3 x (LL_le pa B0 b x h1 hx g1) g2⟩
theorem idle_goes {s s' : St} (h0 : s.ended.k = 0) (h1 : s'.ended.k = 0) (hcl : s.calls = s'.calls) (hfu : s.fuel = s'.fuel) (h : Idle s s') (hnb : ∀ m, (runN m s).ended.k ≠ 4) : Goes s s' := by
  obtain ⟨n, q, q', hrt, hv⟩ := h
  obtain ⟨ts, vs, c, f, o⟩ := s
  obtain ⟨ts', vs', c', f', o'⟩ := s'
  simp only at h0 h1 hcl hfu hrt hv
  subst hcl hfu
  cases n with
  | zero => exact absurd hrt (by simp [RT])
  | succ n =>
    rcases hrt with ⟨rfl, rfl⟩ | ⟨t, r, t', r', rfl, rfl, hc⟩
    · exact .inr (.inr (done_step (.inr rfl)))
    rcases hc with ⟨d, d', G, G', i, i', z, z', rr, rr', hz, he, x1, x2, hc⟩ | ⟨d, d', p, p', rfl, rfl, hc⟩ | ⟨d, d', p, p', rfl, rfl, hc⟩ | ⟨d, d', G, G', i, i', p, p', rfl, rfl, hb1, hb2, he, hc⟩ | ⟨d, d', a, b, a', b', p, p', rfl, rfl, hc⟩
    · rcases x2 with ⟨e2, rfl⟩ | ⟨k2, u2, i2, e2, rfl⟩
      · rcases x1 with ⟨e1, rfl⟩ | ⟨k1, u1, i1, e1, rfl⟩
        · refine .inl ⟨1, ?_⟩
          rw [runN_one, step_look h0 d, step_look h1 d', e1, e2]
          exact look_both h0 h1 hz he hc hv
        · refine .inl ⟨2, ?_⟩
          have : runN 2 ⟨t :: r, vs, c, f, o⟩ = stepS (stepS ⟨t :: r, vs, c, f, o⟩) := rfl
          rw [this, step_look h0 d, e1, step_cast, step_look h0 rfl, step_look h1 d', e2]
          exact look_both h0 h1 hz he hc hv
      · refine .inl ⟨0, ?_⟩
        rw [step_look h1 d', e2, step_cast]
        exact ⟨h0, h1, rfl, rfl, .inr ⟨n + 1, q, q', .inr ⟨_, _, _, _, rfl, rfl, .inl ⟨d, rfl, G, G', i, i', z, z', rr, _, hz, he, x1, .inl ⟨rfl, rfl⟩, hc⟩⟩, hv⟩⟩
    · obtain ⟨v, r1, v', r1', rfl, rfl, hvv, hv⟩ := RE_one hv
      obtain ⟨u, r2, u', r2', rfl, rfl, huu, hv⟩ := RE_one hv
      obtain ⟨a1, a2, a3⟩ := RV_num hvv
      obtain ⟨b1, b2, b3⟩ := RV_num huu
      refine .inl ⟨1, ?_⟩
      rw [runN_one, step_do h0, step_do h1]
      simp only [doS, d, d', a1, a2, b1, b2, a3, b3]
      exact act_push (by simpa using h0) (by simpa using h1) (RV_mkNum _) hc hv
    · obtain ⟨v, r1, v', r1', rfl, rfl, hvv, hv⟩ := RE_one hv
      obtain ⟨u, r2, u', r2', rfl, rfl, huu, hv⟩ := RE_one hv
      obtain ⟨a1, a2, a3⟩ := RV_num hvv
      obtain ⟨b1, b2, b3⟩ := RV_num huu
      refine .inl ⟨1, ?_⟩
      rw [runN_one, step_do h0, step_do h1]
      simp only [doS, d, d', a1, a2, b1, b2, a3, b3]
      exact act_push (by simpa using h0) (by simpa using h1) (RV_mkTruth _) hc hv
    · obtain ⟨v, r1, v', r1', rfl, rfl, hvv, hv⟩ := RE_one hv
      obtain ⟨a1, a2, a3⟩ := RV_truth hvv
      refine .inl ⟨1, ?_⟩
      rw [runN_one, step_do h0, step_do h1]
      simp only [doS, d, d', a1, a2, a3]
      refine ⟨h0, h1, rfl, rfl, .inr ⟨n + 1, p, p', ?_, hv⟩⟩
      by_cases hn : v.n = 1
      · simp only [hn]
        exact RT_look hb1 he hc
      · simp only [hn, if_false]
        exact RT_look hb2 he hc
    · obtain ⟨v, r1, v', r1', rfl, rfl, hvv, hv⟩ := RE_one hv
      obtain ⟨g, r2, g', r2', rfl, rfl, hgg, hv⟩ := RE_one hv
      obtain ⟨Dv, Dv', v1, v2, v3, v4⟩ := hvv
      obtain ⟨Dg, Dg', g1, g2, g3, g4⟩ := hgg
      obtain ⟨A0, B0, pg, pa, rfl, l1, l2, l3, l4, l5⟩ := fun_view g1
      obtain ⟨A0', B0', pg', pa', rfl, l1', l2', l3', l4', l5'⟩ := fun_view g2
      have hgiv : ∀ x, LV v a Dv x → LL pg a x → LV v' a' Dv' x ∧ LL pg' a' x := fun x hx hl =>
        ⟨v3 x hx, (l3' x botY (g3 _ (l4 x botY (LV_le v1 hx) (le_bot rfl) hl (LL_bot _ _ _ rfl)))).1⟩
      have hans : ∀ x, leY x B0 → LL pa B0 x → LL pa' B0' x := fun x hx hl =>
        (l3' botY x (g3 _ (l4 botY x (le_bot rfl) (LL_le pa B0 b x l2 hx hl) (LL_bot _ _ _ rfl) hl))).2
      have hrc := RC_pa hc l2 l2' hans
      have hleft : ∃ mL tL, runN mL ⟨t :: r, v :: g :: r2, c, f, o⟩ = ⟨pg.map chT ++ tL :: (pa.map chT ++ r), v :: coreV g :: r2, c, f, o⟩ ∧ (tL.d = 5 ∨ tL.d = 7) ∧ (coreV g).k = 3 := by
        rcases l5 with ⟨k4, _, k3, ec, e1, e2⟩ | ⟨k3, ec, rfl, rfl⟩
        · refine ⟨1, doT 7, ?_, .inr rfl, by rw [ec]; exact k3⟩
          rw [runN_one, step_accomp h0 d k4, e1, e2, ec]
          rfl
        · exact ⟨0, t, by rw [ec]; rfl, d, by rw [ec]; exact k3⟩
      obtain ⟨mL, tL, eL, hdL, k3L⟩ := hleft
      have hnbL := calm hnb mL
      rw [eL] at hnbL
      rcases l5' with ⟨k4, _, k3, ec, e1, e2⟩ | ⟨k3, ec, rfl, rfl⟩
      · refine .inl ⟨mL, ?_⟩
        rw [eL, step_accomp h1 d' k4]
        rw [ec] at g4
        refine ⟨h0, h1, rfl, rfl, .inl ⟨v, coreV g :: r2, v', g'.core :: r2', a, a', Dv, Dv', pg, pg', A0, A0', tL :: (pa.map chT ++ r), doT 7 :: (pa'.map chT ++ r'), rfl, rfl, v1, v2, v4, l1, l1', hgiv, rfl, ?_, .inr ⟨n, p, p', tL, doT 7, coreV g, g'.core, r2, r2', _, _, B0, B0', hdL, .inr rfl, rfl, rfl, rfl, rfl, k3L, k3, g4, hrc, hv⟩⟩⟩
        rw [e1, e2]
        rfl
      · rw [ec] at g4
        have hA : a' = A0' := l1'
        subst hA
        have := call_goes hdL d' h0 h1 v1 v2 v4 l1 (fun x h2 h3 => (hgiv x h2 h3).1) k3L k3 g4 hrc hv hnbL
        rw [← eL] at this
        exact this.later
theorem act_goes {s s' : St} (h0 : s.ended.k = 0) (h1 : s'.ended.k = 0) (hcl : s.calls = s'.calls) (hfu : s.fuel = s'.fuel) (h : Act s s') (hnb : ∀ m, (runN m s).ended.k ≠ 4) : Goes s s' := by
  obtain ⟨v, r, v', r', T, T', D, D', cs, cs', U, U', rest, rest', hvs, hvs', x1, x2, x3, x4, x5, x6, hts, hts', hk⟩ := h
  obtain ⟨ts, vs, c, f, o⟩ := s
  obtain ⟨ts', vs', c', f', o'⟩ := s'
  simp only at h0 h1 hcl hfu hvs hvs' hts hts'
  subst hcl hfu hvs hvs' hts hts'
  match cs' with
  | p :: cs' =>
    have e1 : stepS ⟨(p :: cs').map chT ++ rest', v' :: r', c, f, o'⟩ = changeS ⟨cs'.map chT ++ rest', r', c, f, o'⟩ p.1 v' := step_change h1
    rcases change_lo (s := ⟨cs'.map chT ++ rest', r', c, f, o'⟩) x5.1 x2 with ⟨u, e2, hu, hcu, hlu⟩ | ⟨w, e2, hw, hlw⟩
    · refine .inl ⟨0, ?_⟩
      rw [e1, e2]
      refine ⟨h0, h1, rfl, rfl, .inl ⟨v, r, u, r', T, p.2, D, D', cs, cs', U, U', rest, rest', rfl, rfl, x1, hu, by rw [hcu]; exact x3, x4, x5.2, fun x h2 h3 => ?_, rfl, rfl, hk⟩⟩
      obtain ⟨g1, g2, g3⟩ := x6 x h2 h3
      exact ⟨(hlu x).2 ⟨g1, g2⟩, g3⟩
    · exfalso
      rcases drain cs v T U D rest r c f o (fun x => x.k = -1) h0 x1 x4 (fun x h2 h3 => hlw x (x6 x h2 h3).1 (x6 x h2 h3).2.1) with ⟨m, hm⟩ | ⟨m, u, hm, hu2, hcu, hlu⟩
      · exact hnb m hm
      · obtain ⟨x, hx, hx2⟩ := LV_ex hu2
        exact hx (hlu x hx2)
  | [] =>
    have hT : T' = U' := x5
    subst hT
    rcases hk with ⟨n, q, q', hrt, hre⟩ | ⟨n, q, q', t, t', g, g', r0, r0', rr, rr', B, B', hd, hd', rfl, rfl, rfl, rfl, k3, k3', hf, hc, he⟩
    · rcases drain cs v T U D rest r c f o (fun x => LV v' T' D' x) h0 x1 x4 (fun x h2 h3 => (x6 x h2 h3).1) with ⟨m, hm⟩ | ⟨m, u, hm, hu2, hcu, hlu⟩
      · exact absurd hm (hnb m)
      · refine Goes.later (k := m) ?_
        have hnbm := calm hnb m
        rw [hm] at hnbm ⊢
        exact idle_goes h0 h1 rfl rfl ⟨n, U :: q, T' :: q', hrt, RE_cons ⟨D, D', hu2, x2, hlu, by rw [hcu]; exact x3⟩ hre⟩ hnbm
    · exact call_goes hd hd' h0 h1 x1 x2 x3 x4 (fun x h2 h3 => (x6 x h2 h3).1) k3 k3' hf hc he hnb
/-- If nobody is blamed in the one, nobody is in the other. -/
theorem sim_all : ∀ (n : Nat) (s s' : St), SI2 s s' → (∀ m, (runN m s).ended.k ≠ 4) → (runN n s').ended.k ≠ 4
  | 0, s, s', h, _ => by
    have := h.e1
    show s'.ended.k ≠ 4
    omega
  | n + 1, s, s', h, hnb => by
    have hg : Goes s s' := by
      rcases h.how with ha | hi
      · exact act_goes h.e0 h.e1 h.cl h.fu ha hnb
      · exact idle_goes h.e0 h.e1 h.cl h.fu hi hnb
    show (runN n (stepS s')).ended.k ≠ 4
    rcases hg with ⟨m, hm⟩ | ⟨h2, h3⟩ | h2
    · exact sim_all n _ _ hm (calm hnb m)
    · rw [done_run (.inl h2)]; exact h3
    · rw [h2]; exact sim_all n s s' h hnb
/-- Terms side by side. -/
theorem sim_run {y y' : Tm} {i i' : Ty} {fuel : Nat} (h : shp y) (hz : y.tsz ≤ 100) (hf : fuel ≤ 100) (hr : RM y [] i y' [] i') (h4 : (runM y fuel).k ≠ 4) (told : ∀ v, (toldV v).k ≠ 4) : (runM y' fuel).k ≠ 4 := by
  have hd := runM_done h hz hf
  rw [runM_eq] at h4 ⊢
  have hnb : ∀ m, (runN m (st0 y fuel)).ended.k ≠ 4 := fun m hm => by
    have e : runN bigN (st0 y fuel) = runN m (st0 y fuel) := by
      have a1 : runN (m + bigN) (st0 y fuel) = runN m (st0 y fuel) := by rw [runN_add, done_run (.inl (by omega))]
      have a2 : runN (bigN + m) (st0 y fuel) = runN bigN (st0 y fuel) := by rw [runN_add, done_run hd]
      rw [← a1, ← a2, Nat.add_comm]
    apply h4
    unfold finO
    rw [e, if_neg (by omega)]
    exact hm
  have hp : RP y [] i y' [] i' := ⟨RM_leF hr, y, 0, i, y', 0, i', .inl ⟨rfl, rfl⟩, .inl ⟨rfl, rfl⟩, hr⟩
  have he : RE ([] : List Val) [] ([] : List Val) [] := ⟨rfl, rfl, rfl, fun j h => by simp at h⟩
  have hs : SI2 (st0 y fuel) (st0 y' fuel) := ⟨rfl, rfl, rfl, rfl, .inr ⟨2, [], [], RT_look (n := 1) hp he (RC_nil (.inl ⟨rfl, rfl⟩)), he⟩⟩
  have := sim_all bigN _ _ hs hnb
  unfold finO
  split
  · exact told _
  · exact this
end Go.Proofs.YtnddkmccagiclabGreatDoor

/-
  Who is to blame: plain mathematics; no program in it.
-/
namespace Go.Proofs.YtnddkmccagiclabGreatDoor
/-- Every blame in a cast is of this kind. -/
def labC (P : Int → Bool → Prop) : Option Ca → Prop
  | none => True
  | some ⟨_, w, _, e, g, a, _⟩ => (w.k = 4 → P w.n w.b) ∧ (e.k = 4 → P e.n e.b) ∧ labC P g ∧ labC P a
  termination_by c => SizeOf.sizeOf c
  decreasing_by
    · simp; omega
    · simp; omega
theorem labC_none {P : Int → Bool → Prop} : labC P none := by rw [labC]; trivial
theorem labC_some {P : Int → Bool → Prop} {o : Bool} {w : Out} {k : Int} {e : Out} {g a : Option Ca} {h : Bool} : labC P (some ⟨o, w, k, e, g, a, h⟩) ↔ (w.k = 4 → P w.n w.b) ∧ (e.k = 4 → P e.n e.b) ∧ labC P g ∧ labC P a := by
  rw [labC]
theorem labC_mono : ∀ (n : Nat) (P Q : Int → Bool → Prop) (c : Option Ca), SizeOf.sizeOf c ≤ n → (∀ n b, P n b → Q n b) → labC P c → labC Q c
  | 0, _, _, c, h, _, _ => by cases c <;> simp at h
  | n + 1, P, Q, none, _, _, _ => labC_none
  | n + 1, P, Q, some ⟨o, w, k, e, g, a, h⟩, hn, hPQ, hc => by
    simp at hn
    obtain ⟨h1, h2, h3, h4⟩ := labC_some.1 hc
    exact labC_some.2 ⟨fun h => hPQ _ _ (h1 h), fun h => hPQ _ _ (h2 h), labC_mono n P Q g (by omega) hPQ h3, labC_mono n P Q a (by omega) hPQ h4⟩
theorem labC.mono {P Q : Int → Bool → Prop} {c : Option Ca} (hc : labC P c) (h : ∀ n b, P n b → Q n b) : labC Q c := labC_mono _ P Q c (Nat.le_refl _) h hc
theorem labC_then {P : Int → Bool → Prop} : ∀ (n : Nat) (c d : Option Ca), SizeOf.sizeOf c + SizeOf.sizeOf d ≤ n → labC P c → labC P d → labC P (thenC c d)
  | 0, c, d, h, _, _ => by cases c <;> simp at h
  | n + 1, none, d, _, _, h => by rw [thenC_nil]; exact h
  | n + 1, some c, none, _, h, _ => by rw [thenC_one]; exact h
  | n + 1, some ⟨o, w, k, e, g, a, h⟩, some ⟨o', w', k', e', g', a', h'⟩, hn, hc, hd => by
    simp at hn
    obtain ⟨h1, h2, h3, h4⟩ := labC_some.1 hc
    obtain ⟨d1, d2, d3, d4⟩ := labC_some.1 hd
    rw [thenC_two]
    split
    · split
      · exact labC_some.2 ⟨h1, d2, labC_then n g' g (by omega) d3 h3, labC_then n a a' (by omega) h4 d4⟩
      · exact labC_some.2 ⟨h1, d1, labC_none, labC_none⟩
    · exact hc
theorem labC_thens {P : Int → Bool → Prop} {c d : Option Ca} (hc : labC P c) (hd : labC P d) : labC P (thenC c d) := labC_then _ c d (Nat.le_refl _) hc hd
/-- Who may be blamed by a cast: not what it comes from, if that says more; not who uses it, if it says less. -/
def mayB (f t : Ty) (o : Out) (n : Int) (b : Bool) : Prop := n = o.n ∧ (b = o.b → relY escFiner f t = false) ∧ (b ≠ o.b → relY escFiner t f = false)
theorem finerA_any {t : Ty} (l : List Ty) (h : t.k ≠ 0) : relY escFiner ⟨0, l⟩ t = false := by
  cases t
  rw [relY_mk]
  simp only at h
  have : ((0 : Int) == _) = false := beq_eq_false_iff_ne.2 (Ne.symm h)
  simp [escFiner, this, h]
theorem finer_ground {n : Nat} {t : Ty} (h : goodY n t = true) (_h0 : t.k ≠ 0) : relY escFiner t (groundY t) = true := by
  cases n with
  | zero => simp [goodY] at h
  | succ n =>
    rcases goodY_cases h with ⟨k, rfl, hk⟩ | ⟨x, y, rfl, _, _⟩
    · have : groundY ⟨k, []⟩ = ⟨k, []⟩ := by simp only [groundY]; rw [if_neg (by omega)]
      rw [this, relY_mk]
      simp [relL]
    · show relY escFiner ⟨3, [x, y]⟩ ⟨3, [anyY, anyY]⟩ = true
      rw [two _ _ _ _ _ rfl, anyY, any_coarser, any_coarser]; rfl
theorem labC_new : ∀ (m n : Nat) (f t : Ty) (o : Out), goodY n f = true → goodY n t = true → labC (mayB f t o) (newC m f t o)
  | 0, _, _, _, _, _, _ => labC_none
  | m + 1, 0, f, t, o, hf, _ => by simp [goodY] at hf
  | m + 1, n + 1, f, t, o, hf, ht => by
    have hs : ∀ (P : Int → Bool → Prop) (c : Option Ca) (k : Int), labC P c → labC P (some (someC c k)) := fun P c k h => by
      cases c with
      | none => exact labC_some.2 ⟨fun h => (by simp [out0] at h), fun h => (by simp [out0] at h), labC_none, labC_none⟩
      | some c => exact h
    have hgood : ∀ u : Ty, goodY (n + 1) u = true → goodY (n + 1) (groundY u) = true := fun u hu => by
      rcases goodY_cases hu with ⟨k, rfl, hk⟩ | ⟨x, y, rfl, gx, _⟩
      · have : groundY ⟨k, []⟩ = ⟨k, []⟩ := by simp only [groundY]; rw [if_neg (by omega)]
        rw [this]; exact hu
      · show goodY (n + 1) ⟨3, [anyY, anyY]⟩ = true
        cases n with
        | zero => simp [goodY] at gx
        | succ n => simp [goodY, anyY]
    rw [newC]
    split
    · exact labC_none
    rename_i hsame
    split
    · rename_i h3
      rcases goodY_cases hf with ⟨k, rfl, hk⟩ | ⟨f1, f2, rfl, gf1, gf2⟩
      · simp only at h3; omega
      rcases goodY_cases ht with ⟨k, rfl, hk⟩ | ⟨t1, t2, rfl, gt1, gt2⟩
      · simp only at h3; omega
      refine labC_some.2 ⟨fun h => (by simp [out0] at h), fun h => (by simp [out0] at h), ?_, ?_⟩
      · refine (labC_new m n t1 f1 (turnO o) gt1 gf1).mono fun i b hb => ?_
        obtain ⟨h1, h2, h4⟩ := hb
        refine ⟨h1, fun e => ?_, fun e => ?_⟩
        · rw [two _ _ _ _ _ rfl, h4 (by simp only [turnO]; rw [e]; cases o.b <;> simp)]; rfl
        · rw [two _ _ _ _ _ rfl, h2 (by simp only [turnO]; cases hb : o.b <;> cases b <;> simp_all)]; rfl
      · refine (labC_new m n f2 t2 o gf2 gt2).mono fun i b hb => ?_
        obtain ⟨h1, h2, h4⟩ := hb
        refine ⟨h1, fun e => ?_, fun e => ?_⟩
        · rw [two _ _ _ _ _ rfl, h2 e, Bool.and_false]
        · rw [two _ _ _ _ _ rfl, h4 e, Bool.and_false]
    rename_i h3
    split
    · rename_i h0
      have ef : f.k ≠ 0 := fun e => hsame (by
        rcases goodY_cases hf with ⟨k, rfl, hk⟩ | ⟨f1, f2, rfl, _, _⟩
        · rcases goodY_cases ht with ⟨k', rfl, hk'⟩ | ⟨t1, t2, rfl, _, _⟩
          · simp only at e h0; subst e h0; rw [relY_mk]; rfl
          · simp at h0
        · simp at e)
      have et : t = ⟨0, t.l⟩ := by cases t; simp only at h0; rw [h0]
      have ih := hs _ _ f.k (labC_new m (n + 1) f (groundY f) o hf (hgood f hf))
      cases hc : someC (newC m f (groundY f) o) f.k with
      | mk o' w k e g a h =>
      rw [hc] at ih
      refine labC.mono (P := mayB f (groundY f) o) (labC_some.2 (labC_some.1 ih)) fun i b hb => ?_
      obtain ⟨h1, h2, h4⟩ := hb
      refine ⟨h1, fun e => ?_, fun e => ?_⟩
      · have := h2 e
        rw [finer_ground hf ef] at this; cases this
      · rw [et]; exact finerA_any _ ef
    rename_i h0
    split
    · rename_i f0
      have ef : f = ⟨0, f.l⟩ := by cases f; simp only at f0; rw [f0]
      have ih := hs _ _ t.k (labC_new m (n + 1) (groundY t) t o (hgood t ht) ht)
      cases hc : someC (newC m (groundY t) t o) t.k with
      | mk o' w k e g a h =>
      rw [hc] at ih
      obtain ⟨_, i2, i3, i4⟩ := labC_some.1 ih
      have up : ∀ i b, mayB (groundY t) t o i b → mayB f t o i b := fun i b hb => by
        obtain ⟨h1, h2, h4⟩ := hb
        refine ⟨h1, fun _ => by rw [ef]; exact finerA_any _ h0, fun e => ?_⟩
        have := h4 e
        rw [finer_ground ht h0] at this; cases this
      exact labC_some.2 ⟨fun _ => ⟨rfl, fun _ => by rw [ef]; exact finerA_any _ h0, fun e => absurd rfl e⟩, fun h => up _ _ (i2 h), i3.mono up, i4.mono up⟩
    · exact labC_some.2 ⟨fun h => (by simp [out0] at h), fun h => (by simp [stuckO] at h), labC_none, labC_none⟩
/-- Every blame that comes of a term's casts is of this kind. -/
def labM (P : Int → Bool → Prop) (x : Tm) : Prop := ∀ s, s ∈ sitesM x → labC P (newC 100 s.2.1 s.2.2 (blameO s.1))
theorem labM.part {P : Int → Bool → Prop} {x : Tm} (h : labM P x) (j : Nat) : labM P (x.at j) := by
  by_cases hj : j < x.l.length
  · intro s hs
    refine h s ?_
    have hm := Tm.at_mem hj
    obtain ⟨k, n, t, f, l⟩ := x
    rw [sitesM_mk, List.mem_append]
    exact .inr (List.mem_flatMap.2 ⟨_, hm, hs⟩)
  · intro s hs
    have : x.at j = tm0 := by
      unfold Tm.at
      rw [List.getD_eq_getElem?_getD, List.getElem?_eq_none (by omega)]; rfl
    rw [this] at hs
    simp [tm0, sitesM_mk] at hs
theorem labM.cast {P : Int → Bool → Prop} {x : Tm} (h : labM P x) (hk : x.k = 10) : labC P (newC 100 x.f x.t (blameO x.n)) := by
  refine h (x.n, x.f, x.t) ?_
  obtain ⟨k, n, t, f, l⟩ := x
  simp only at hk
  subst hk
  rw [sitesM_mk]
  simp
/-- Every blame that can come of a value is of this kind. -/
def labV (P : Int → Bool → Prop) : Val → Prop
  | ⟨_, _, b, e, i, g, a, _⟩ => labM P b ∧ labC P g ∧ labC P a ∧ (∀ x, x ∈ e → labV P x) ∧ (∀ x, x ∈ i → labV P x)
theorem labV_mk {P : Int → Bool → Prop} {k n : Int} {b : Tm} {e i : List Val} {g a : Option Ca} {s : Int} : labV P ⟨k, n, b, e, i, g, a, s⟩ ↔ labM P b ∧ labC P g ∧ labC P a ∧ (∀ x, x ∈ e → labV P x) ∧ (∀ x, x ∈ i → labV P x) := by
  rw [labV]
theorem labV.body {P : Int → Bool → Prop} {v : Val} (h : labV P v) : labM P v.body := by cases v; exact (labV_mk.1 h).1
theorem labV.given {P : Int → Bool → Prop} {v : Val} (h : labV P v) : labC P v.given := by cases v; exact (labV_mk.1 h).2.1
theorem labV.answer {P : Int → Bool → Prop} {v : Val} (h : labV P v) : labC P v.answer := by cases v; exact (labV_mk.1 h).2.2.1
theorem labV.env {P : Int → Bool → Prop} {v : Val} (h : labV P v) : ∀ x, x ∈ v.env → labV P x := by cases v; exact (labV_mk.1 h).2.2.2.1
theorem labM_tm0 {P : Int → Bool → Prop} : labM P tm0 := fun s hs => by simp [tm0, sitesM_mk] at hs
theorem labV_num {P : Int → Bool → Prop} (n : Int) : labV P (numV n) := labV_mk.2 ⟨labM_tm0, labC_none, labC_none, fun x hx => (by cases hx), fun x hx => (by cases hx)⟩
theorem labV_truth {P : Int → Bool → Prop} (n : Int) : labV P (truthV n) := labV_mk.2 ⟨labM_tm0, labC_none, labC_none, fun x hx => (by cases hx), fun x hx => (by cases hx)⟩
theorem labV_fun {P : Int → Bool → Prop} {b : Tm} {e : List Val} (h : labM P b) (he : ∀ x, x ∈ e → labV P x) : labV P (funV b e) := labV_mk.2 ⟨h, labC_none, labC_none, he, fun x hx => (by cases hx)⟩
theorem labV_chap {P : Int → Bool → Prop} {v : Val} {g a : Option Ca} (h : labV P v) (hg : labC P g) (ha : labC P a) : labV P (chapV v g a) := labV_mk.2 ⟨labM_tm0, hg, ha, fun x hx => (by cases hx), fun x hx => (by simp at hx; subst hx; exact h)⟩
theorem labV_known {P : Int → Bool → Prop} {v : Val} {k : Int} (h : labV P v) : labV P (knownV v k) := labV_mk.2 ⟨labM_tm0, labC_none, labC_none, fun x hx => (by cases hx), fun x hx => (by simp at hx; subst hx; exact h)⟩
theorem labV.core {P : Int → Bool → Prop} {v : Val} (h : labV P v) : labV P v.core := by
  cases v with
  | mk k n b e i g a s =>
  unfold Val.core
  cases i with
  | nil => exact labV_num 0
  | cons x r => exact (labV_mk.1 h).2.2.2.2 x (by simp)
theorem labV_of {P : Int → Bool → Prop} {c : Ca} {v : Val} (hc : labC P (some c)) (h : labV P v) : labV P (ofC c v) := by
  obtain ⟨o, w, k, e, g, a, hh⟩ := c
  obtain ⟨_, _, hg, ha⟩ := labC_some.1 hc
  have h1 : labV P (if o = true then v.core else v) := by
    split
    · exact h.core
    · exact h
  unfold ofC
  simp only
  generalize (if o = true then v.core else v) = u at h1
  have h2 : labV P (if g.isSome = true ∨ a.isSome = true then accompV u ⟨o, w, k, e, g, a, hh⟩ else u) := by
    split
    · unfold accompV
      split
      · exact labV_chap h1.core (labC_thens hg h1.given) (labC_thens h1.answer ha)
      · exact labV_chap h1 hg ha
    · exact h1
  split
  · exact labV_known h2
  · exact h2
def labT (P : Int → Bool → Prop) (t : Task) : Prop := labM P t.x ∧ (∀ v, v ∈ t.s → labV P v) ∧ labC P t.c
structure labS (P : Int → Bool → Prop) (s : St) : Prop where
  ts : ∀ t, t ∈ s.ts → labT P t
  vs : ∀ v, v ∈ s.vs → labV P v
  ended : s.ended.k = 4 → P s.ended.n s.ended.b
theorem labT_look {P : Int → Bool → Prop} {x : Tm} {e : List Val} (h : labM P x) (he : ∀ v, v ∈ e → labV P v) : labT P (lookT x e) := ⟨h, he, labC_none⟩
theorem labT_choose {P : Int → Bool → Prop} {x : Tm} {e : List Val} (h : labM P x) (he : ∀ v, v ∈ e → labV P v) : labT P (chooseT x e) := ⟨h, he, labC_none⟩
theorem labT_do {P : Int → Bool → Prop} (d : Int) : labT P (doT d) := ⟨labM_tm0, fun v hv => (by cases hv), labC_none⟩
theorem labT_change {P : Int → Bool → Prop} {c : Option Ca} (h : labC P c) : labT P (changeT c) := ⟨labM_tm0, fun v hv => (by cases hv), h⟩
theorem labS.push {P : Int → Bool → Prop} {s : St} {v : Val} (h : labS P s) (hv : labV P v) : labS P (s.push v) :=
  ⟨h.ts, fun u hu => (List.mem_cons.1 hu).elim (fun e => e ▸ hv) (h.vs u), h.ended⟩
theorem labS.plan {P : Int → Bool → Prop} {s : St} {t : Task} (h : labS P s) (ht : labT P t) : labS P (s.plan t) :=
  ⟨fun u hu => (List.mem_cons.1 hu).elim (fun e => e ▸ ht) (h.ts u), h.vs, h.ended⟩
theorem labS.stop {P : Int → Bool → Prop} {s : St} {o : Out} (h : labS P s) (ho : o.k = 4 → P o.n o.b) : labS P (s.stop o) := ⟨h.ts, h.vs, ho⟩
theorem look_lab {P : Int → Bool → Prop} {s : St} {x : Tm} {e : List Val} (h : labS P s) (hx : labM P x) (he : ∀ v, v ∈ e → labV P v) : labS P (lookS s x e) := by
  have both : ∀ d, labS P (bothS s x e d) := fun d => ((h.plan (labT_do d)).plan (labT_look (hx.part 1) he)).plan (labT_look (hx.part 0) he)
  unfold lookS
  split
  · split
    · rename_i v hv; exact h.push (he v (List.mem_of_getElem? hv))
    · exact h.stop fun h => by simp [stuckO] at h
  split
  · exact h.push (labV_num _)
  split
  · exact h.push (labV_truth _)
  split
  · exact h.push (labV_fun (hx.part 0) he)
  split
  · exact h.plan (labT_look (hx.part 0) he)
  split
  · rename_i hk; exact (h.plan (labT_change (hx.cast hk))).plan (labT_look (hx.part 0) he)
  split
  · exact (h.plan (labT_choose hx he)).plan (labT_look (hx.part 0) he)
  split
  · exact both 2
  split
  · exact both 3
  · exact both 5
theorem call_lab {P : Int → Bool → Prop} {s : St} {u v : Val} (h : labS P s) (hu : labV P u) (hv : labV P v) : labS P (callS s u v) := by
  unfold callS
  split
  · unfold enterS
    split
    · exact h.stop fun h => by simp [fuelO] at h
    · refine ⟨fun t ht => ?_, h.vs, h.ended⟩
      rcases List.mem_cons.1 ht with rfl | ht
      · refine labT_look hu.body fun x hx => ?_
        rcases List.mem_cons.1 hx with rfl | hx
        · exact hv
        · exact hu.env x hx
      · exact h.ts t ht
  · split
    · refine ⟨fun t ht => ?_, fun x hx => ?_, h.ended⟩
      · rcases List.mem_cons.1 ht with rfl | ht
        · exact labT_change hu.given
        rcases List.mem_cons.1 ht with rfl | ht
        · exact labT_do 7
        rcases List.mem_cons.1 ht with rfl | ht
        · exact labT_change hu.answer
        · exact h.ts t ht
      · rcases List.mem_cons.1 hx with rfl | hx
        · exact hv
        rcases List.mem_cons.1 hx with rfl | hx
        · exact hu.core
        · exact h.vs x hx
    · exact h.stop fun h => by simp [stuckO] at h
theorem change_lab {P : Int → Bool → Prop} {s : St} {c : Option Ca} {v : Val} (h : labS P s) (hc : labC P c) (hv : labV P v) : labS P (changeS s c v) := by
  unfold changeS
  cases c with
  | none => exact h.push hv
  | some c =>
    simp only
    have hw : (c.wrong.k = 4 → P c.wrong.n c.wrong.b) ∧ (c.ends.k = 4 → P c.ends.n c.ends.b) := by
      cases c; have := labC_some.1 hc; exact ⟨this.1, this.2.1⟩
    split
    · exact h.stop fun h => by simp [stuckO] at h
    split
    · exact h.stop hw.1
    split
    · exact h.stop hw.2
    · exact h.push (labV_of hc hv)
theorem step_lab {P : Int → Bool → Prop} {s : St} (h : labS P s) : labS P (stepS s) := by
  obtain ⟨ts, vs, calls, fuel, ended⟩ := s
  unfold stepS
  split
  · rename_i h0
    cases ts with
    | nil => exact h
    | cons t ts =>
      simp only
      have ht := h.ts t (by simp)
      have hts : ∀ u, u ∈ ts → labT P u := fun u hu => h.ts u (by simp [hu])
      have hr : ∀ (q : List Val), (∀ v, v ∈ q → labV P v) → labS P ⟨ts, q, calls, fuel, ended⟩ := fun q hq => ⟨hts, hq, h.ended⟩
      have hend : ∀ (p : Prop) [Decidable p] (q : List Val), (∀ v, v ∈ q → labV P v) → labS P ⟨ts, q, calls, fuel, if p then ended else stuckO⟩ := fun p _ q hq => by
        refine ⟨hts, hq, ?_⟩
        simp only
        split
        · exact h.ended
        · intro h; simp [stuckO] at h
      unfold doS
      split
      · exact look_lab (hr vs h.vs) ht.1 ht.2.1
      · cases vs with
        | nil => exact hr [] h.vs
        | cons v vs =>
          have hv := h.vs v (by simp)
          have hvs : ∀ u, u ∈ vs → labV P u := fun u hu => h.vs u (by simp [hu])
          simp only
          split
          · exact change_lab (hr vs hvs) ht.2.2 hv
          split
          · split
            · exact (hr vs hvs).plan (labT_look (ht.1.part _) ht.2.1)
            · exact (hr vs hvs).stop fun h => by simp [stuckO] at h
          cases vs with
          | nil => exact hr [v] h.vs
          | cons u vs =>
            have hu := h.vs u (by simp)
            have hvs : ∀ u, u ∈ vs → labV P u := fun u hu => h.vs u (by simp [hu])
            simp only
            split
            · refine hend _ _ fun x hx => ?_
              rcases List.mem_cons.1 hx with rfl | hx
              · exact labV_num _
              · exact hvs x hx
            split
            · refine hend _ _ fun x hx => ?_
              rcases List.mem_cons.1 hx with rfl | hx
              · exact labV_truth _
              · exact hvs x hx
            · exact call_lab (hr vs hvs) hu hv
  · exact h
theorem run_lab {P : Int → Bool → Prop} {s : St} (h : labS P s) : ∀ n, labS P (runN n s)
  | 0 => h
  | n + 1 => by rw [runN_succ]; exact step_lab (run_lab h n)
theorem told_not (v : Val) : (toldV v).k ≠ 4 := by
  unfold toldV
  simp only
  generalize (if v.k = 5 then v.core else v) = u
  split
  · simp
  · split <;> simp
/-- WHO IS TO BLAME. -/
theorem blamed {y : Tm} {fuel : Nat} (hs : ∀ s, s ∈ sitesM y → ∃ m, goodY m s.2.1 = true ∧ goodY m s.2.2 = true) (h : (runM y fuel).k = 4) :
    ∃ s, s ∈ sitesM y ∧ s.1 = (runM y fuel).n ∧ ((runM y fuel).b = false → relY escFiner s.2.1 s.2.2 = false) ∧ ((runM y fuel).b = true → relY escFiner s.2.2 s.2.1 = false) := by
  have h0 : labS (fun n b => ∃ s, s ∈ sitesM y ∧ s.1 = n ∧ (b = false → relY escFiner s.2.1 s.2.2 = false) ∧ (b = true → relY escFiner s.2.2 s.2.1 = false)) (st0 y fuel) := by
    refine ⟨fun t ht => ?_, fun v hv => (by cases hv), fun h => (by simp [st0, out0] at h)⟩
    rcases List.mem_cons.1 ht with rfl | ht
    · refine labT_look (fun s hm => ?_) fun v hv => by cases hv
      obtain ⟨m, g1, g2⟩ := hs s hm
      refine (labC_new 100 m s.2.1 s.2.2 (blameO s.1) g1 g2).mono fun n b hb => ?_
      exact ⟨s, hm, hb.1.symm, fun e => hb.2.1 e, fun e => hb.2.2 (by rw [e]; simp [blameO])⟩
    · cases ht
  have h1 := (run_lab h0 bigN).ended
  rw [runM_eq] at h ⊢
  unfold finO at h ⊢
  split at h
  · exact absurd h (told_not _)
  · rename_i hn
    rw [if_neg hn]
    exact h1 h
end Go.Proofs.YtnddkmccagiclabGreatDoor

/-
  A term and one that says less, with their casts, stand side by side; who says less comes to the same, in plain mathematics; no program in it.
-/
namespace Go.Proofs.YtnddkmccagiclabGreatDoor
theorem le_finer : ∀ x a b : Ty, leY x a → relY escFiner a b = true → leY x b := by
  intro x
  induction x using Ty.ind with
  | h k l ih =>
    rintro ⟨k1, l1⟩ ⟨k2, l2⟩ h1 h2
    unfold leY at h1 ⊢
    rw [relY_mk] at h1 h2 ⊢
    simp only [escLe, escFiner, Bool.or_eq_true, Bool.and_eq_true, beq_iff_eq] at h1 h2 ⊢
    rcases h1 with (h1 | h1) | ⟨rfl, h1⟩
    · exact .inl (.inl h1)
    · rcases h2 with h2 | ⟨h2, _⟩
      · exact .inl (.inr h2)
      · exact .inl (.inr (by omega))
    · rcases h2 with h2 | ⟨rfl, h2⟩
      · exact .inl (.inr h2)
      · refine .inr ⟨rfl, ?_⟩
        have : ∀ (l l1 l2 : List Ty), (∀ t, t ∈ l → ∀ a b : Ty, leY t a → relY escFiner a b = true → leY t b) → relL escLe l l1 = true → relL escFiner l1 l2 = true → relL escLe l l2 = true := by
          intro l
          induction l with
          | nil =>
            intro l1 l2 _ h1 h2
            match l1, l2, h1, h2 with
            | [], [], _, _ => rfl
            | [], _ :: _, _, h2 => simp [relL] at h2
            | _ :: _, _, h1, _ => simp [relL] at h1
          | cons x r ihr =>
            intro l1 l2 hx h1 h2
            match l1, l2, h1, h2 with
            | [], _, h1, _ => simp [relL] at h1
            | _ :: _, [], _, h2 => simp [relL] at h2
            | y :: s, z :: q, h1, h2 =>
              simp only [relL, Bool.and_eq_true] at h1 h2 ⊢
              exact ⟨hx x (by simp) y z h1.1 h2.1, ihr s q (fun t ht => hx t (by simp [ht])) h1.2 h2.2⟩
        exact this l l1 l2 ih h1 h2
theorem leF_finer {a b : Ty} (h : relY escFiner a b = true) : leF a b := fun x hx => le_finer x a b hx h
theorem relL_get : ∀ (l m : List Ty), relL escFiner l m = true → ∀ j (h : j < l.length) (h' : j < m.length), relY escFiner l[j] m[j] = true
  | [], _, _, j, h, _ => by simp at h
  | _ :: _, [], _, j, _, h => by simp at h
  | x :: r, y :: s, hl, 0, _, _ => by simp only [relL, Bool.and_eq_true] at hl; exact hl.1
  | x :: r, y :: s, hl, j + 1, h, h' => by
    simp only [relL, Bool.and_eq_true] at hl
    exact relL_get r s hl.2 j (by simpa using h) (by simpa using h')
/-- What is asked of the parts says less, too. -/
theorem rule_us {k n : Int} {t t' : Ty} {ps ps' takes takes' : List Ty} {i i' : Ty} {us us' : List Ty} (m : Nat) (h1 : 1 ≤ k) (h9 : k ≤ 9) (hl : ps.length = partsOf k) (hp : ∀ u, u ∈ ps → goodY (m + 1) u = true) (hp' : ∀ u, u ∈ ps' → goodY (m + 1) u = true)
    (ft : relY escFiner t t' = true) (fp : relL escFiner ps ps' = true) (fi : relY escFiner i i' = true) (h : ruleY k n t ps takes = some (i, us)) (h' : ruleY k n t' ps' takes' = some (i', us')) : relL escFiner us us' = true := by
  have f1 : relY escFiner ⟨1, []⟩ ⟨1, []⟩ = true := finer_refl 1 _ (goodY_num 0)
  have f2 : relY escFiner ⟨2, []⟩ ⟨2, []⟩ = true := finer_refl 1 _ (goodY_truth 0)
  have hk : k = 1 ∨ k = 2 ∨ k = 3 ∨ k = 4 ∨ k = 5 ∨ k = 6 ∨ k = 7 ∨ k = 8 ∨ k = 9 := by omega
  rcases hk with rfl | rfl | rfl | rfl | rfl | rfl | rfl | rfl | rfl
  · have e1 : takes.getD n.toNat ⟨0, []⟩ = i ∧ [] = us := by simpa [ruleY] using h
    have e2 : takes'.getD n.toNat ⟨0, []⟩ = i' ∧ [] = us' := by simpa [ruleY] using h'
    rw [← e1.2, ← e2.2]; rfl
  · simp [ruleY] at h h'
    rw [h.2, h'.2]; rfl
  · simp [ruleY] at h h'
    rw [h.2, h'.2]; rfl
  · simp [ruleY] at h h'
    rw [← h.2, ← h'.2]; simp [relL, f1]
  · simp [ruleY] at h h'
    rw [← h.2, ← h'.2]; simp [relL, f1]
  · have e1 : ifY ⟨2, []⟩ (ps.getD 1 ⟨0, []⟩) (ps.getD 2 ⟨0, []⟩) = some (i, us) := by simpa [ruleY] using h
    have e2 : ifY ⟨2, []⟩ (ps'.getD 1 ⟨0, []⟩) (ps'.getD 2 ⟨0, []⟩) = some (i', us') := by simpa [ruleY] using h'
    unfold ifY at e1 e2
    split at e1
    · split at e2
      · cases e1
        cases e2
        simp only [relL, f2, fi, Bool.and_self]
      · cases e2
    · cases e1
  · have e1 : some (Ty.mk 3 [t, ps.getD 0 ⟨0, []⟩], ps) = some (i, us) := by simpa [ruleY] using h
    have e2 : some (Ty.mk 3 [t', ps'.getD 0 ⟨0, []⟩], ps') = some (i', us') := by simpa [ruleY] using h'
    cases e1
    cases e2
    exact fp
  · have e1 : callY (ps.getD 0 ⟨0, []⟩) = some (i, us) := by simpa [ruleY] using h
    have e2 : callY (ps'.getD 0 ⟨0, []⟩) = some (i', us') := by simpa [ruleY] using h'
    match ps, ps', hl, hp, hp', fp, e1, e2 with
    | [p, q], [], _, _, _, fp, _, _ => simp [relL] at fp
    | [p, q], [_], _, _, _, fp, _, _ => simp [relL] at fp
    | [p, q], _ :: _ :: _ :: _, _, _, _, fp, _, _ => simp [relL] at fp
    | [p, q], [p', q'], _, hp, hp', fp, e1, e2 =>
      have g1 : callY p = some (i, us) := e1
      have g2 : callY p' = some (i', us') := e2
      simp only [relL, Bool.and_eq_true] at fp
      have fa : ∀ a : Ty, relY escFiner a ⟨0, []⟩ = true := fun a => any_coarser a []
      rcases goodY_cases (hp p (by simp)) with ⟨k, rfl, hk⟩ | ⟨x, y, rfl, _, _⟩
      · rcases goodY_cases (hp' p' (by simp)) with ⟨k', rfl, hk'⟩ | ⟨x', y', rfl, _, _⟩
        · rcases hk with rfl | rfl | rfl
          · rcases hk' with rfl | rfl | rfl
            · simp [callY] at g1 g2
              rw [← g1.2, ← g2.2]
              simp [relL, fa, two _ _ _ _ _ (show escFiner 3 3 = false from rfl)]
            · simp [callY] at g2
            · simp [callY] at g2
          · simp [callY] at g1
          · simp [callY] at g1
        · exfalso
          have := fp.1
          rw [relY_mk] at this
          simp [escFiner] at this
          omega
      · rcases goodY_cases (hp' p' (by simp)) with ⟨k', rfl, hk'⟩ | ⟨x', y', rfl, _, _⟩
        · rcases hk' with rfl | rfl | rfl
          · simp [callY] at g1 g2
            rw [← g1.2, ← g2.2]
            simp [relL, fa, two _ _ _ _ _ (show escFiner 3 3 = false from rfl)]
          · simp [callY] at g2
          · simp [callY] at g2
        · have f3 := fp.1
          rw [two _ _ _ _ _ rfl, Bool.and_eq_true] at f3
          simp [callY] at g1 g2
          rw [← g1.2, ← g2.2]
          simp [relL, two _ _ _ _ _ (show escFiner 3 3 = false from rfl), f3.1, f3.2]
  · have e1 : some (t, [t]) = some (i, us) := by simpa [ruleY] using h
    have e2 : some (t', [t']) = some (i', us') := by simpa [ruleY] using h'
    cases e1
    cases e2
    simp [relL, ft]
theorem prt_cast {y : Tm} {i u : Ty} (c : Int) (hf : relY escFits i u = true) (hi : goodY 46 i = true) (hu : goodY 46 u = true) : prt (castY c y i u) y c i u := by
  unfold castY
  split
  · rename_i hs
    exact .inl ⟨rfl, same_eq i u hs⟩
  · exact .inr ⟨rfl, hf, hi, hu⟩
theorem castL_RM {takes takes' : List Ty} : ∀ (l l' : List Tm) (c : Nat) (ps ps' : List (Nat × Tm × Ty)) (us us' : List Ty), looserL l l' → readL l takes c = some ps → readL l' takes' c = some ps' →
    (∀ x, x ∈ l → ∀ u, looser x u → ∀ c y i y' i', readS x takes c = some (y, i) → readS u takes' c = some (y', i') → RM y takes i y' takes' i') →
    us.length = ps.length → us'.length = ps'.length → fitL (ps.map fun p => p.2.2) us = true → fitL (ps'.map fun p => p.2.2) us' = true → (∀ u, u ∈ ps.map (fun p => p.2.2) → goodY 46 u = true) → (∀ u, u ∈ ps'.map (fun p => p.2.2) → goodY 46 u = true) → (∀ u, u ∈ us → goodY 46 u = true) → (∀ u, u ∈ us' → goodY 46 u = true) →
    ∀ j (h : j < (castL ps us).length) (h1 : j < us.length) (h2 : j < us'.length), ∃ z c iz z' c' iz', ∃ _hp : prt (castL ps us)[j] z c iz us[j], prt ((castL ps' us').getD j tm0) z' c' iz' us'[j] ∧ RM z takes iz z' takes' iz'
  | [], _, c, ps, ps', us, us', _, h1, _, _, hl, _, _, _, _, _, _, _, j, _, hj, _ => by
    rw [readL] at h1; cases h1
    rw [hl] at hj
    simp at hj
  | x :: r, [], _, _, _, _, _, h, _, _, _, _, _, _, _, _, _, _, _, _, _, _, _ => by simp [looserL] at h
  | x :: r, x' :: r', c, ps, ps', us, us', hlo, h1, h2, hQ, hl, hl', hf, hf', hg, hg', hu, hu', j, hj, hj1, hj2 => by
    obtain ⟨y, i, q, a1, a2, rfl⟩ := readL_cons h1
    obtain ⟨y', i', q', b1, b2, rfl⟩ := readL_cons h2
    match us, us', hl, hl', hf, hf', hu, hu', hj, hj1, hj2 with
    | [], _, hl, _, _, _, _, _, _, _, _ => simp at hl
    | _ :: _, [], _, hl', _, _, _, _, _, _, _ => simp at hl'
    | u :: vs, u' :: vs', hl, hl', hf, hf', hu, hu', hj, hj1, hj2 =>
      simp only [List.map_cons, fitL, Bool.and_eq_true] at hf hf'
      match j, hj, hj1, hj2 with
      | 0, _, _, _ => exact ⟨y, c, i, y', c, i', prt_cast _ hf.1 (hg i (by simp)) (hu u (by simp)), prt_cast _ hf'.1 (hg' i' (by simp)) (hu' u' (by simp)), hQ x (by simp) x' hlo.1 c y i y' i' a1 b1⟩
      | j + 1, hj, hj1, hj2 =>
        rw [looser_sz x x' hlo.1] at b2
        exact castL_RM r r' (c + x.sz) q q' vs vs' hlo.2 a2 b2 (fun z hz => hQ z (by simp [hz])) (by simpa using hl) (by simpa using hl') hf.2 hf'.2 (fun w hw => hg w (by simp only [List.map_cons]; exact List.mem_cons_of_mem _ hw)) (fun w hw => hg' w (by simp only [List.map_cons]; exact List.mem_cons_of_mem _ hw)) (fun w hw => hu w (by simp [hw])) (fun w hw => hu' w (by simp [hw])) j (by simpa [castL] using hj) (by simpa using hj1) (by simpa using hj2)
/-- Who says less stands beside. -/
theorem read_RM : ∀ (x u : Tm) (takes takes' : List Ty) (c : Nat) (y : Tm) (i : Ty) (y' : Tm) (i' : Ty), looser x u → okTm x takes.length → (∀ u, u ∈ takes → goodY 4 u = true) → (∀ u, u ∈ takes' → goodY 4 u = true) → relL escFiner takes takes' = true → readS x takes c = some (y, i) → readS u takes' c = some (y', i') → x.sz ≤ 40 → RM y takes i y' takes' i' := by
  intro x
  induction x using Tm.ind with
  | h k n t f l ih =>
    rintro ⟨k', n', t', f', l'⟩ takes takes' c y i y' i' hu hok hT hT' fT h h' hz
    have hfi : relY escFiner i i' = true := by
      obtain ⟨y2, i2, g1, g2⟩ := read_loose _ _ takes takes' c y i hu hok hT hT' fT h
      rw [h'] at g1
      cases g1
      exact g2
    have hok' := looser_ok _ _ _ hu hok
    obtain ⟨rfl, rfl, rfl, htt, hl⟩ := looser_mk.1 hu
    obtain ⟨h0, h1⟩ := okTm_mk.1 hok
    obtain ⟨h0', h1'⟩ := okTm_mk.1 hok'
    obtain ⟨k1, k9, hlp, _, ht, _, hn1⟩ := okTop_all h0
    obtain ⟨_, _, hlp', _, ht', _, _⟩ := okTop_all h0'
    obtain ⟨ps, us, e1, e2, e3, rfl⟩ := readS_some h
    obtain ⟨ps', us', e1', e2', e3', rfl⟩ := readS_some h'
    have ft : relY escFiner t t' = true := by
      rcases htt with rfl | ⟨_, rfl⟩
      · exact finer_refl 4 _ ht
      · exact any_coarser _ _
    have fT2 : relL escFiner (takesIn k' t takes) (takesIn k' t' takes') = true := by
      unfold takesIn
      split
      · simp [relL, ft, fT]
      · exact fT
    have hTl := relL_len _ _ _ fT
    rw [Tm.sz_mk] at hz
    have hszm : ∀ z, z ∈ l → z.sz ≤ 40 := fun z hz' => by have := sz_mem l z hz'; omega
    have hlen := readL_length _ _ _ _ e1
    have hlen' := readL_length _ _ _ _ e1'
    have hll := looserL_len _ _ hl
    obtain ⟨ps2, g1, g2⟩ := readL_loose (takes' := takesIn k' t' takes') l l' (c + 1) ps hl e1 fun z hz u hzu c y i hr =>
      read_loose z u _ _ c y i hzu (by rw [takesIn_length]; exact h1 z hz) (takesIn_good ht hT) (takesIn_good ht' hT') fT2 hr
    rw [e1'] at g1
    cases g1
    have hp : ∀ u, u ∈ ps.map (fun p => p.2.2) → goodY ((l.map Tm.sz).sum + 4) u = true := by
      intro u hu
      obtain ⟨j, hj, rfl⟩ := List.getElem_of_mem hu
      have hj' : j < ps.length := by simpa using hj
      have := readL_all (Q := fun x _ _ i => goodY (x.sz + 4) i = true) l _ ps e1 (fun x hx c y i hr => read_good x _ c y i (by rw [takesIn_length]; exact h1 x hx) (takesIn_good ht hT) hr) j hj' (by omega)
      have hs := sz_mem l l[j] (List.getElem_mem _)
      simpa using goodY_more _ ((l.map Tm.sz).sum + 4) _ (by omega) this
    have hsz : (l'.map Tm.sz).sum = (l.map Tm.sz).sum := by
      rw [looserL_sz l l' (fun x _ u => looser_sz x u) hl]
    have hp' : ∀ u, u ∈ ps'.map (fun p => p.2.2) → goodY ((l.map Tm.sz).sum + 4) u = true := by
      intro u hu
      obtain ⟨j, hj, rfl⟩ := List.getElem_of_mem hu
      have hj' : j < ps'.length := by simpa using hj
      have := readL_all (Q := fun x _ _ i => goodY (x.sz + 4) i = true) l' _ ps' e1' (fun x hx c y i hr => read_good x _ c y i (by rw [takesIn_length, ← hTl]; exact h1' x hx) (takesIn_good ht' hT') hr) j hj' (by omega)
      have hs := sz_mem l' l'[j] (List.getElem_mem _)
      simpa using goodY_more _ ((l.map Tm.sz).sum + 4) _ (by omega) this
    obtain ⟨r1, _, r3⟩ := rule_good ((l.map Tm.sz).sum + 4) (by omega) k1 k9 (by simpa using hlen.trans hlp) ht (takesIn_good ht hT) hp e2
    obtain ⟨r1', _, r3'⟩ := rule_good ((l.map Tm.sz).sum + 4) (by omega) k1 k9 (by simpa using hlen'.trans hlp') ht' (takesIn_good ht' hT') hp' e2'
    simp only [List.length_map] at r1 r1'
    have hus := rule_us ((l.map Tm.sz).sum + 3) k1 k9 (by simpa using hlen.trans hlp) hp hp' ft g2 hfi e2 e2'
    have hTk : (if k' = 7 then t :: takes else takes) = takesIn k' t takes := rfl
    have hTk' : (if k' = 7 then t' :: takes' else takes') = takesIn k' t' takes' := rfl
    have hc := castL_RM (takes := takesIn k' t takes) (takes' := takesIn k' t' takes') l l' (c + 1) ps ps' us us' hl e1 e1' (fun z hz' u hzu c y i y' i' hr hr' => ih z hz' u _ _ c y i y' i' hzu (by rw [takesIn_length]; exact h1 z hz') (takesIn_good ht hT) (takesIn_good ht' hT') fT2 hr hr' (hszm z hz')) r1 r1' e3 e3'
      (fun u hu => goodY_more _ 46 u (by omega) (hp u hu)) (fun u hu => goodY_more _ 46 u (by omega) (hp' u hu)) (fun u hu => goodY_more _ 46 u (by omega) (r3 u hu)) (fun u hu => goodY_more _ 46 u (by omega) (r3' u hu))
    have hcl : (castL ps us).length = us.length := by rw [castL_length ps us r1.symm, r1]
    have hcl' : (castL ps' us').length = us'.length := by rw [castL_length ps' us' r1'.symm, r1']
    rw [RM]
    refine ⟨us, us', hcl, hcl', by omega, rfl, rfl, by omega, ?_, ?_, leF_finer hfi, fun j hj hj1 hj2 => ⟨leF_finer (relL_get us us' hus j hj1 hj2), ?_⟩⟩
    · refine rule_ty (m := (l.map Tm.sz).sum + 3) k1 k9 (by simpa using hlen.trans hlp) (fun e => ?_) hp e2 takes fun hk => ?_
      · have := hn1 e
        rw [takesIn_length, if_neg (by omega)]
        omega
      · unfold takesIn; rw [if_neg hk]
    · refine rule_ty (m := (l.map Tm.sz).sum + 3) k1 k9 (by simpa using hlen'.trans hlp') (fun e => ?_) hp' e2' takes' fun hk => ?_
      · have := hn1 e
        rw [takesIn_length, if_neg (by omega), ← hTl]
        omega
      · unfold takesIn; rw [if_neg hk]
    · simp only [hTk, hTk']
      exact hc j hj hj1 hj2
theorem looser_erase : ∀ x u : Tm, looser x u → eraseM u = eraseM x := by
  intro x
  induction x using Tm.ind with
  | h k n t f l ih =>
    rintro ⟨k', n', t', f', l'⟩ h
    obtain ⟨rfl, rfl, rfl, _, hl⟩ := looser_mk.1 h
    rw [eraseM_mk, eraseM_mk]
    have : ∀ (l m : List Tm), (∀ x, x ∈ l → ∀ u, looser x u → eraseM u = eraseM x) → looserL l m → m.map eraseM = l.map eraseM := by
      intro l
      induction l with
      | nil => intro m _ h; match m, h with
        | [], _ => rfl
        | _ :: _, h => simp [looserL] at h
      | cons x r ihr => intro m hx h; match m, h with
        | [], h => simp [looserL] at h
        | y :: s, h => simp [hx x (by simp) y h.1, ihr s (fun z hz => hx z (by simp [hz])) h.2]
    rw [this l l' ih hl]
/-- WHO SAYS LESS COMES TO THE SAME. -/
theorem loose_run {x u y : Tm} {i : Ty} {f : Nat} (hl : looser x u) (hg : goodM 0 x = true) (hr : readS x [] 0 = some (y, i)) (hf : f ≤ 100) (h4 : (runM y f).k ≠ 4) : ∃ y' i', goodM 0 u = true ∧ readS u [] 0 = some (y', i') ∧ runM y' f = runM y f := by
  obtain ⟨hok, hsz⟩ := goodM_ok hg
  have hgu := goodM_looser hl hg
  obtain ⟨hok', _⟩ := goodM_ok hgu
  obtain ⟨y', i', hr', _⟩ := read_loose x u [] [] 0 y i hl hok (fun u hu => by cases hu) (fun u hu => by cases hu) rfl hr
  refine ⟨y', i', hgu, hr', ?_⟩
  obtain ⟨sy, zy, ty⟩ := check_run hg hr
  obtain ⟨sy', zy', ty'⟩ := check_run hgu hr'
  have hRM := read_RM x u [] [] 0 y i y' i' hl hok (fun u hu => by cases hu) (fun u hu => by cases hu) rfl hr hr' hsz
  have h4' := sim_run sy zy hf hRM h4 told_not
  have a1 := (runM_erase sy zy hf ty).resolve_left h4
  have a2 := (runM_erase sy' zy' hf ty').resolve_left h4'
  have e1 := (read_sites x [] 0 y i hok (fun u hu => by cases hu) hr).er
  have e2 := (read_sites u [] 0 y' i' hok' (fun u hu => by cases hu) hr').er
  rw [← a1, ← a2, e1, e2, looser_erase x u hl]
end Go.Proofs.YtnddkmccagiclabGreatDoor

/-
  What the call of chaperonetop.TopLoose answers: true.
-/
namespace Go.Proofs.YtnddkmccagiclabGreatDoor
open Go.RowKit
/-- As long as nobody is blamed, who says less comes to the same. -/
theorem loose_ways (x : Tm) (f : Int) : ((runR x f).2 != 0) = true ∨ ((runR x f).2 = 0 ∧ ((runR x f).1.k = 4 ∨ ((runR x f).1.k ≠ 4 ∧ ∀ u, looser x u → runR u f = runR x f))) := by
  rcases runR_cases x f with ⟨_, h⟩ | ⟨h0, hgd, f1, f2, y, i, hrd, hrun⟩
  · exact .inl h
  · refine .inr ⟨h0, ?_⟩
    by_cases h4 : (runR x f).1.k = 4
    · exact .inl h4
    · refine .inr ⟨h4, fun u hu => ?_⟩
      rw [hrun] at h4
      obtain ⟨y', i', g1, g2, g3⟩ := loose_run hu hgd hrd (by omega : f.toNat ≤ 100) h4
      have e1 : runR x f = (runM y f.toNat, 0) := by unfold runR; rw [if_pos hgd, hrd]; simp only; rw [if_neg (by omega)]
      have e2 : runR u f = (runM y' f.toNat, 0) := by unfold runR; rw [if_pos g1, g2]; simp only; rw [if_neg (by omega)]
      rw [e1, e2, g3]
set_option maxRecDepth 20000 in
set_option maxHeartbeats 8000000 in
/-- chaperonetop.TopLoose. -/
theorem topLoose_any (x : TT) (f k : Int) (w : World) (hg : Gl w) (hx : x.In w) (hnb : x.nb) (hlw : x.lw) :
    Calls Tryz.prog 6 #[.agg #[.int .i64 x.k, .int .i64 x.n, .int .i64 x.t.k, .slice x.t.a x.t.l.length x.t.c, .int .i64 x.f.k, .slice x.f.a x.f.l.length x.f.c, .slice x.a x.l.length x.c], .int .i64 f, .int .i64 k] w fun e w' => e = .returned (.bool true) ∧ Below w.heap.size w w' := by
  obtain ⟨W1, hW1⟩ : ∃ W, W = w.alloc (.cells #[.int .i64 x.k, .int .i64 x.n, .int .i64 x.t.k, .slice x.t.a x.t.l.length x.t.c, .int .i64 x.f.k, .slice x.f.a x.f.l.length x.f.c, .slice x.a x.l.length x.c] 27) := ⟨_, rfl⟩
  have hb1 : Below w.heap.size w W1 := by rw [hW1]; exact (Below.refl _ _).alloc (Nat.le_refl _) _
  have h7 : At7 W1 w.heap.size 0 x := by constructor <;> (rw [hW1]; simp [go_sem])
  have HR : Hid (Calls Tryz.prog 11 #[.agg #[.int .i64 x.k, .int .i64 x.n, .int .i64 x.t.k, .slice x.t.a x.t.l.length x.t.c, .int .i64 x.f.k, .slice x.f.a x.f.l.length x.f.c, .slice x.a x.l.length x.c], .int .i64 f] W1 (OutPost (runR x.tm f) W1)) := runFn_any x f W1 (hg.below hb1).gp (hx.below hb1) hnb
  have HX : Hid (∀ W, Below W1.heap.size W1 W → At7 W w.heap.size 0 x ∧ x.In W ∧ Gl W ∧ Below w.heap.size w W) := fun W hW => ⟨h7.below hW, (hx.below hb1).below hW, (hg.below hb1).below hW, hb1.trans (hW.mono hb1.size)⟩
  have HNB : Hid x.nb := hnb
  have HA : Hid (∀ W, Below W1.heap.size W1 W → Calls Tryz.prog 12 #[] W fun e w' => e = .returned (.bool true) ∧ Hid (Below w.heap.size w w')) := fun W hW => by
    refine (alive_any W (HX.out W hW).2.2.1).mono ?_
    rintro e w' ⟨rfl, hb⟩
    exact ⟨rfl, (HX.out W hW).2.2.2.trans (hb.mono (HX.out W hW).2.2.2.size)⟩
  obtain ⟨r, hr⟩ : ∃ r, r = runR x.tm f := ⟨_, rfl⟩
  have hcases := loose_ways x.tm f
  have HLW : Hid x.lw := hlw
  rw [← hr] at HR hcases
  clear hlw
  clear hr hb1 h7 hg hx hnb
  go_enter Tryz.func6, Tryz.ntmps6
  go_wp2_with fail
  rw [← hW1]
  clear hW1
  refine HR.out.mono ?_
  rintro e w2 ⟨rfl, hb2⟩
  obtain ⟨W3, hW3⟩ : ∃ W, W = w2.alloc (.cells #[.int .i64 r.1.k, .int .i64 r.1.n, .bool r.1.b] 29) := ⟨_, rfl⟩
  have hA2 : Below w2.heap.size w2 W3 := by rw [hW3]; exact (Below.refl _ _).alloc (Nat.le_refl _) _
  have hA : Below W1.heap.size W1 W3 := hb2.trans (hA2.mono hb2.size)
  have p0 : W3.cell? ⟨w2.heap.size, 0, none⟩ = some (.int .i64 r.1.k) := by rw [hW3]; simp [go_sem]
  have p1 : W3.cell? ⟨w2.heap.size, 1, none⟩ = some (.int .i64 r.1.n) := by rw [hW3]; simp [go_sem]
  have p2 : W3.cell? ⟨w2.heap.size, 2, none⟩ = some (.bool r.1.b) := by rw [hW3]; simp [go_sem]
  have lw2 : w2.heap.size < W3.heap.size := World.block_lt_of_cell? _ _ p0
  have HB3 : Hid (Below W1.heap.size W1 W3) := hA
  clear hb2 hA2 hA HR
  have HAl : Hid (Calls Tryz.prog 12 #[] W3 fun e w' => e = .returned (.bool true) ∧ Hid (Below w.heap.size w w')) := HA.out W3 HB3.out
  obtain ⟨a0, a1, a2, a3, a4, a5, a6⟩ := (HX.out W3 HB3.out).1
  simp only [Nat.zero_add] at a0 a1 a2 a3 a4 a5 a6
  have lx : w.heap.size < W3.heap.size := World.block_lt_of_cell? _ _ a0
  have HLO : Hid (Calls Tryz.prog 16 #[.agg #[.int .i64 x.k, .int .i64 x.n, .int .i64 x.t.k, .slice x.t.a x.t.l.length x.t.c, .int .i64 x.f.k, .slice x.f.a x.f.l.length x.f.c, .slice x.a x.l.length x.c], .int .i64 k] W3 (LoPost (fun _ => True) x W3)) := loose_any x.sz _ x k W3 (Nat.le_refl _) (HX.out W3 HB3.out).2.1 HNB.out HLW.out ((HX.out W3 HB3.out).2.1.bl.mono fun _ _ => trivial) (fun _ _ => trivial)
  obtain ⟨o, r2⟩ := r
  simp only at hcases p0 p1 p2 hW3
  clear HNB HLW
  rcases hcases with he | ⟨rfl, h4 | ⟨h4, hall⟩⟩
  · clear HLO HA HX HB3
    go_upto_region 2 with fail
    rw [← hW3]
    clear hW3
    go_wp2_with fail
    refine HAl.out.mono ?_
    rintro e w6 ⟨rfl, HB⟩
    go_wp2_with fail
    go_ret
    exact ⟨rfl, HB.out⟩
  · have e4 : (o.k == 4) = true := by simpa using h4
    clear HLO HA h4 HX HB3
    go_upto_region 2 with fail
    rw [← hW3]
    clear hW3
    go_wp2_with fail
    refine HAl.out.mono ?_
    rintro e w6 ⟨rfl, HB⟩
    go_wp2_with fail
    go_ret
    exact ⟨rfl, HB.out⟩
  · have e4 : (o.k == 4) = false := by simpa using h4
    have HALL : Hid (∀ u, looser x.tm u → runR u f = (o, 0)) := hall
    clear h4 hall HAl
    go_upto_region 2 with fail
    rw [← hW3]
    clear hW3
    go_wp2_with fail
    refine HLO.out.mono ?_
    rintro e w4 ⟨u, m, rfl, hlo, hui, _, hunb, hb34⟩
    have hb4 : Below W1.heap.size W1 w4 := HB3.out.trans (hb34.mono HB3.out.size)
    obtain ⟨W5, hW5⟩ : ∃ W, W = w4.alloc (.cells #[.int .i64 u.k, .int .i64 u.n, .int .i64 u.t.k, .slice u.t.a u.t.l.length u.t.c, .int .i64 u.f.k, .slice u.f.a u.f.l.length u.f.c, .slice u.a u.l.length u.c] 27) := ⟨_, rfl⟩
    have hA5 : Below w4.heap.size w4 W5 := by rw [hW5]; exact (Below.refl _ _).alloc (Nat.le_refl _) _
    have h35 : Below W3.heap.size W3 W5 := hb34.trans (hA5.mono hb34.size)
    have h15 : Below W1.heap.size W1 W5 := hb4.trans (hA5.mono hb4.size)
    have hu7 : At7 W5 w4.heap.size 0 u := by constructor <;> (rw [hW5]; simp [go_sem])
    obtain ⟨b0, b1, b2, b3, b4, b5, b6⟩ := hu7
    simp only [Nat.zero_add] at b0 b1 b2 b3 b4 b5 b6
    have lb : w4.heap.size < W5.heap.size := World.block_lt_of_cell? _ _ b0
    have s0 := cell_later h35 p0
    have s1 := cell_later h35 p1
    have s2 := cell_later h35 p2
    have HQ : Hid (Calls Tryz.prog 11 #[.agg #[.int .i64 u.k, .int .i64 u.n, .int .i64 u.t.k, .slice u.t.a u.t.l.length u.t.c, .int .i64 u.f.k, .slice u.f.a u.f.l.length u.f.c, .slice u.a u.l.length u.c], .int .i64 f] W5 fun e w' => e = .returned (.tuple #[.agg #[.int .i64 o.k, .int .i64 o.n, .bool o.b], .int .i64 0]) ∧ Below W1.heap.size W1 w' ∧ Below W5.heap.size W5 w') := by
      refine (runFn_any u f W5 (HX.out W5 h15).2.2.1.gp (hui.below hA5) hunb).mono ?_
      rintro e w' ⟨he, hb⟩
      rw [HALL.out u.tm hlo] at he
      exact ⟨he, h15.trans (hb.mono h15.size), hb⟩
    clear hb4 hb34 hA5 h35 h15 HB3 HLO HALL HX hlo hui hunb a0 a1 a2 a3 a4 a5 a6 lx p0 p1 p2 lw2
    go_upto_region 5 with fail
    rw [← hW5]
    clear hW5
    go_wp2_with fail
    refine HQ.out.mono ?_
    rintro e w6 ⟨rfl, hb6, hb56⟩
    obtain ⟨W7, hW7⟩ : ∃ W, W = w6.alloc (.cells #[.int .i64 o.k, .int .i64 o.n, .bool o.b] 29) := ⟨_, rfl⟩
    have hA7 : Below w6.heap.size w6 W7 := by rw [hW7]; exact (Below.refl _ _).alloc (Nat.le_refl _) _
    have h57 : Below W5.heap.size W5 W7 := hb56.trans (hA7.mono hb56.size)
    have h17 : Below W1.heap.size W1 W7 := hb6.trans (hA7.mono hb6.size)
    have v0 := cell_later h57 s0
    have v1 := cell_later h57 s1
    have v2 := cell_later h57 s2
    have lv : w2.heap.size < W7.heap.size := World.block_lt_of_cell? _ _ v0
    have t0 : W7.cell? ⟨w6.heap.size, 0, none⟩ = some (.int .i64 o.k) := by rw [hW7]; simp [go_sem]
    have t1 : W7.cell? ⟨w6.heap.size, 1, none⟩ = some (.int .i64 o.n) := by rw [hW7]; simp [go_sem]
    have t2 : W7.cell? ⟨w6.heap.size, 2, none⟩ = some (.bool o.b) := by rw [hW7]; simp [go_sem]
    have lt : w6.heap.size < W7.heap.size := World.block_lt_of_cell? _ _ t0
    have HAl : Hid (Calls Tryz.prog 12 #[] W7 fun e w' => e = .returned (.bool true) ∧ Hid (Below w.heap.size w w')) := HA.out W7 h17
    clear hb6 hb56 hA7 h57 h17 HA HQ b0 b1 b2 b3 b4 b5 b6 lb s0 s1 s2
    go_upto_region 6 with fail
    rw [← hW7]
    clear hW7
    go_wp2_with fail
    refine HAl.out.mono ?_
    rintro e w8 ⟨rfl, HB⟩
    go_wp2_with fail
    go_ret
    exact ⟨rfl, HB.out⟩
end Go.Proofs.YtnddkmccagiclabGreatDoor
