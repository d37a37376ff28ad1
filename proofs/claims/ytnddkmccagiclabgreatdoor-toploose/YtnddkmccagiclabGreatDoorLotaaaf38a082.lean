/-
  As long as nobody is blamed types change nothing of what a run comes to: plain mathematics; no program in it.
-/
import Derived.Test.YtnddkmccagiclabGreatDoorLot96d2a1b4df
import Derived.Test.YtnddkmccagiclabGreatDoorLotc013798625
import Derived.Test.YtnddkmccagiclabGreatDoorLotac1f1cd27a
import Derived.Deep.DeepCutAuto
namespace Go.Proofs.YtnddkmccagiclabGreatDoor

theorem tsz_sz : ∀ x : Tm, x.tsz = x.sz := by
  intro x
  induction x using Tm.ind with
  | h k n t f l ih =>
    rw [Tm.tsz_mk, Tm.sz_mk]
    congr 2
    exact List.map_congr_left ih

theorem eraseM_out {x : Tm} (h : ¬ (x.k = 9 ∨ x.k = 10)) : eraseM x = ⟨x.k, x.n, anyY, anyY, x.l.map eraseM⟩ := by
  obtain ⟨k, n, t, f, l⟩ := x
  rw [eraseM_mk]
  simp only at h ⊢
  unfold eraseT
  split
  · rename_i e; rw [if_neg h, e]
  · rfl

theorem eraseM_in {x : Tm} (h : x.k = 9 ∨ x.k = 10) (hl : x.l.length = 1) : eraseM x = eraseM (x.at 0) := by
  obtain ⟨k, n, t, f, l⟩ := x
  match l, hl with
  | [y], _ =>
    rw [eraseM_mk]
    simp only [List.map_cons, List.map_nil, eraseT]
    rw [if_pos h]
    rfl

theorem eraseM_at {x : Tm} (h : ¬ (x.k = 9 ∨ x.k = 10)) {j : Nat} (hj : j < x.l.length) : (eraseM x).at j = eraseM (x.at j) := by
  rw [eraseM_out h, Tm.at_eq hj, Tm.at_eq (x := ⟨x.k, x.n, anyY, anyY, x.l.map eraseM⟩) (by simpa using hj)]
  simp

theorem eraseM_shp : ∀ x : Tm, shp x → shp (eraseM x) ∧ (eraseM x).tsz ≤ x.tsz := by
  intro x
  induction x using Tm.ind with
  | h k n t f l ih =>
    intro h
    obtain ⟨⟨k1, k10, hl, n1, n2, hn, _⟩, hp⟩ := shp_mk.1 h
    by_cases hk : k = 9 ∨ k = 10
    · have hl1 : l.length = 1 := by
        rw [hl]
        rcases hk with rfl | rfl <;> rfl
      have e := eraseM_in (x := ⟨k, n, t, f, l⟩) hk hl1
      rw [e]
      have hm := Tm.at_mem (x := ⟨k, n, t, f, l⟩) (j := 0) (by simp only; omega)
      obtain ⟨h1, h2⟩ := ih _ hm (hp _ hm)
      have := part_tsz (x := ⟨k, n, t, f, l⟩) (j := 0) (by simp only; omega)
      exact ⟨h1, by omega⟩
    · rw [eraseM_out (x := ⟨k, n, t, f, l⟩) hk]
      refine ⟨shp_mk.2 ⟨⟨k1, k10, by simpa using hl, n1, n2, hn, fun h => absurd (.inr h) hk⟩, fun y hy => ?_⟩, ?_⟩
      · obtain ⟨z, hz, rfl⟩ := List.mem_map.1 hy
        exact (ih z hz (hp z hz)).1
      · rw [Tm.tsz_mk, Tm.tsz_mk]
        have : ∀ l : List Tm, (∀ x, x ∈ l → (eraseM x).tsz ≤ x.tsz) → ((l.map eraseM).map Tm.tsz).sum ≤ (l.map Tm.tsz).sum := by
          intro l
          induction l with
          | nil => intro _; simp
          | cons y r ihr =>
            intro hh
            have a := hh y (by simp)
            have b := ihr fun x hx => hh x (by simp [hx])
            simp only [List.map_cons, List.sum_cons]
            omega
        have := this l fun x hx => (ih x hx (hp x hx)).2
        simp only
        omega

/-- A value without casts. -/
def eraseV : Val → Val
  | ⟨k, n, b, e, i, _, _, _⟩ => if k = 4 ∨ k = 5 then ((i.map fun v => eraseV v).headD (numV 0)) else ⟨k, n, if k = 3 then eraseM b else tm0, e.map fun v => eraseV v, [], none, none, 0⟩
theorem eraseV_mk (k n : Int) (b : Tm) (e i : List Val) (g a : Option Ca) (s : Int) : eraseV ⟨k, n, b, e, i, g, a, s⟩ = if k = 4 ∨ k = 5 then ((i.map eraseV).headD (numV 0)) else ⟨k, n, if k = 3 then eraseM b else tm0, e.map eraseV, [], none, none, 0⟩ := by
  rw [eraseV]
theorem eraseV_in {v u : Val} (h : v.k = 4 ∨ v.k = 5) (hi : v.inn = [u]) : eraseV v = eraseV u := by
  cases v
  rw [eraseV_mk, if_pos h]
  simp only at hi
  rw [hi]; rfl
theorem eraseV_out {v : Val} (h : ¬ (v.k = 4 ∨ v.k = 5)) : eraseV v = ⟨v.k, v.n, if v.k = 3 then eraseM v.body else tm0, v.env.map eraseV, [], none, none, 0⟩ := by
  cases v
  rw [eraseV_mk, if_neg h]
theorem eraseV_num (n : Int) : eraseV (numV n) = numV n := by
  rw [eraseV_out (by simp [numV])]; rfl
theorem eraseV_truth (n : Int) : eraseV (truthV n) = truthV n := by
  rw [eraseV_out (by simp [truthV])]; rfl
theorem eraseV_fun (b : Tm) (e : List Val) : eraseV (funV b e) = funV (eraseM b) (e.map eraseV) := by
  rw [eraseV_out (by simp [funV])]; rfl
theorem eraseV_chap (v : Val) (g a : Option Ca) : eraseV (chapV v g a) = eraseV v := eraseV_in (.inl rfl) rfl
theorem eraseV_known (v : Val) (k : Int) : eraseV (knownV v k) = eraseV v := eraseV_in (.inr rfl) rfl

def eraseT1 (t : Task) : List Task := if t.d = 6 then [] else if t.d = 1 then [lookT (eraseM t.x) (t.s.map eraseV)] else if t.d = 4 then [chooseT (eraseM t.x) (t.s.map eraseV)] else if t.d = 7 then [doT 5] else [doT t.d]
def eraseTs (ts : List Task) : List Task := ts.flatMap eraseT1
def eraseS (s : St) : St := ⟨eraseTs s.ts, s.vs.map eraseV, s.calls, s.fuel, s.ended⟩

theorem eraseTs_cons (t : Task) (ts : List Task) : eraseTs (t :: ts) = eraseT1 t ++ eraseTs ts := by simp [eraseTs]
theorem eraseTs_look (x : Tm) (e : List Val) (ts : List Task) : eraseTs (lookT x e :: ts) = lookT (eraseM x) (e.map eraseV) :: eraseTs ts := by simp [eraseTs, eraseT1, lookT]
theorem eraseTs_choose (x : Tm) (e : List Val) (ts : List Task) : eraseTs (chooseT x e :: ts) = chooseT (eraseM x) (e.map eraseV) :: eraseTs ts := by simp [eraseTs, eraseT1, chooseT]
theorem eraseTs_change (c : Option Ca) (ts : List Task) : eraseTs (changeT c :: ts) = eraseTs ts := by simp [eraseTs, eraseT1, changeT]
theorem eraseTs_do (d : Int) (h : d = 2 ∨ d = 3 ∨ d = 5) (ts : List Task) : eraseTs (doT d :: ts) = doT d :: eraseTs ts := by
  rcases h with rfl | rfl | rfl <;> simp [eraseTs, eraseT1, doT]
theorem eraseTs_seven (ts : List Task) : eraseTs (doT 7 :: ts) = doT 5 :: eraseTs ts := by simp [eraseTs, eraseT1, doT]

theorem eraseV_accomp {f : Val} {c : Ca} (h : f.k = 4 → f.inn = [f.core]) : eraseV (accompV f c) = eraseV f := by
  unfold accompV
  split
  · rename_i hk
    rw [eraseV_chap, eraseV_in (.inl hk) (h hk)]
  · rw [eraseV_chap]

theorem eraseV_of {c : Ca} {v : Val} (hv : okV v) (ho : c.opens = true → v.k = 5) : eraseV (ofC c v) = eraseV v := by
  have h1 : eraseV (if c.opens = true then v.core else v) = eraseV v ∧ okV (if c.opens = true then v.core else v) := by
    split
    · rename_i hc
      obtain ⟨a, b⟩ := hv.core5 (ho hc)
      exact ⟨(eraseV_in (.inr (ho hc)) a).symm, b⟩
    · exact ⟨rfl, hv⟩
  unfold ofC
  simp only
  generalize (if c.opens = true then v.core else v) = u at h1
  have h2 : eraseV (if c.given.isSome = true ∨ c.answer.isSome = true then accompV u c else u) = eraseV v := by
    split
    · rw [eraseV_accomp fun hk => (h1.2.core4 hk).1]; exact h1.1
    · exact h1.1
  split
  · rw [eraseV_known]; exact h2
  · exact h2

/-- The machine without casts does as much, or nothing yet. -/
def Sim (s s' : St) : Prop := s'.ended.k = 4 ∨ eraseS s' = eraseS s ∨ eraseS s' = stepS (eraseS s)

theorem step_is {t : Task} {ts : List Task} {vs : List Val} {calls fuel : Nat} {ended : Out} (h0 : ended.k = 0) : stepS ⟨t :: ts, vs, calls, fuel, ended⟩ = doS ⟨ts, vs, calls, fuel, ended⟩ t := by
  simp only [stepS]; rw [if_pos h0]

theorem look_sim {s : St} {x : Tm} {e : List Val} (h0 : s.ended.k = 0) (hx : shp x) : Sim ⟨lookT x e :: s.ts, s.vs, s.calls, s.fuel, s.ended⟩ (lookS s x e) := by
  obtain ⟨k1, k10, hl, n1, n2, hn, hg⟩ := hx.top
  have hk : x.k = 1 ∨ x.k = 2 ∨ x.k = 3 ∨ x.k = 4 ∨ x.k = 5 ∨ x.k = 6 ∨ x.k = 7 ∨ x.k = 8 ∨ x.k = 9 ∨ x.k = 10 := by omega
  have eB : eraseS ⟨lookT x e :: s.ts, s.vs, s.calls, s.fuel, s.ended⟩ = ⟨lookT (eraseM x) (e.map eraseV) :: eraseTs s.ts, s.vs.map eraseV, s.calls, s.fuel, s.ended⟩ := by
    simp only [eraseS, eraseTs_look]
  have eC : stepS (eraseS ⟨lookT x e :: s.ts, s.vs, s.calls, s.fuel, s.ended⟩) = lookS (eraseS s) (eraseM x) (e.map eraseV) := by
    rw [eB, step_is h0]; simp only [doS, lookT, if_true]; rfl
  by_cases h9 : x.k = 9 ∨ x.k = 10
  · have hl1 : x.l.length = 1 := by
      rw [hl]
      rcases h9 with e | e <;> rw [e] <;> rfl
    right; left
    rw [eB, eraseM_in h9 hl1]
    rcases h9 with h | h
    · simp only [lookS, h]
      show eraseS (s.plan _) = _
      simp only [St.plan, eraseS, eraseTs_look]
    · simp only [lookS, h]
      show eraseS ((s.plan _).plan _) = _
      simp only [St.plan, eraseS, eraseTs_look, eraseTs_change]
  · right; right
    rw [eC]
    have ek : (eraseM x).k = x.k := by rw [eraseM_out h9]
    have en : (eraseM x).n = x.n := by rw [eraseM_out h9]
    have ea : ∀ j, j < x.l.length → (eraseM x).at j = eraseM (x.at j) := fun j hj => eraseM_at h9 hj
    have both : ∀ d, (d = 2 ∨ d = 3 ∨ d = 5) → x.l.length = 2 → eraseS (bothS s x e d) = bothS (eraseS s) (eraseM x) (e.map eraseV) d := fun d hd h2 => by
      simp only [bothS, St.plan, eraseS, eraseTs_look, eraseTs_do d hd, ea 0 (by omega), ea 1 (by omega)]
    rcases hk with hk | hk | hk | hk | hk | hk | hk | hk | hk | hk
    · simp only [lookS, ek, en, hk, if_true, List.getElem?_map]
      cases e[x.n.toNat]? with
      | none => rfl
      | some v => rfl
    · simp only [lookS, ek, en, hk]
      show eraseS (s.push _) = (eraseS s).push _
      simp only [St.push, eraseS, List.map_cons, eraseV_num]
    · simp only [lookS, ek, en, hk]
      show eraseS (s.push _) = (eraseS s).push _
      simp only [St.push, eraseS, List.map_cons, eraseV_truth]
    · simp only [lookS, ek, hk]
      exact both 2 (.inl rfl) (by rw [hl, hk]; rfl)
    · simp only [lookS, ek, hk]
      exact both 3 (.inr (.inl rfl)) (by rw [hl, hk]; rfl)
    · have h3 : x.l.length = 3 := by rw [hl, hk]; rfl
      simp only [lookS, ek, hk]
      show eraseS ((s.plan _).plan _) = ((eraseS s).plan _).plan _
      simp only [St.plan, eraseS, eraseTs_look, eraseTs_choose, ea 0 (by omega)]
    · have h3 : x.l.length = 1 := by rw [hl, hk]; rfl
      simp only [lookS, ek, hk]
      show eraseS (s.push _) = (eraseS s).push _
      simp only [St.push, eraseS, List.map_cons, eraseV_fun, ea 0 (by omega)]
    · simp only [lookS, ek, hk]
      exact both 5 (.inr (.inr rfl)) (by rw [hl, hk]; rfl)
    · exact absurd (.inl hk) h9
    · exact absurd (.inr hk) h9

theorem call_sim {d : Int} (hd : d = 5 ∨ d = 7) {ts : List Task} {u v : Val} {vs : List Val} {calls fuel : Nat} {ended : Out} (h0 : ended.k = 0) (hu : okV u) (hk : u.k = 3 ∨ u.k = 4) (h7 : d = 7 → u.k = 3) {t : Task} (ht : t.d = d) :
    Sim ⟨t :: ts, v :: u :: vs, calls, fuel, ended⟩ (callS ⟨ts, vs, calls, fuel, ended⟩ u v) := by
  have e5 : eraseT1 t = [doT 5] := by
    rcases hd with rfl | rfl
    · simp [eraseT1, ht, doT]
    · simp [eraseT1, ht]
  have eB : eraseS ⟨t :: ts, v :: u :: vs, calls, fuel, ended⟩ = ⟨doT 5 :: eraseTs ts, eraseV v :: eraseV u :: vs.map eraseV, calls, fuel, ended⟩ := by
    simp only [eraseS, eraseTs_cons, e5]; rfl
  unfold Sim
  rw [eB]
  unfold callS
  rcases hk with hk | hk
  · right; right
    rw [step_is h0, if_pos hk]
    have e1 := eraseV_out (v := u) (by omega)
    have e2 : (eraseV u).k = 3 := by rw [e1]; exact hk
    have e3 : (eraseV u).body = eraseM u.body := by rw [e1]; simp only; rw [if_pos hk]
    have e4 : (eraseV u).env = u.env.map eraseV := by rw [e1]
    simp only [doS, doT]
    show _ = callS ⟨eraseTs ts, vs.map eraseV, calls, fuel, ended⟩ (eraseV u) (eraseV v)
    unfold callS
    rw [if_pos e2]
    unfold enterS
    simp only
    split
    · rfl
    · simp only [eraseS, eraseTs_look, e3, e4, List.map_cons]
  · right; left
    have h5 : d = 5 := by
      rcases hd with h | h
      · exact h
      · have := h7 h; omega
    rw [if_neg (by omega), if_pos hk]
    obtain ⟨hi, _, _⟩ := hu.core4 hk
    simp only [accompS, eraseS, eraseTs_change, eraseTs_seven, List.map_cons, eraseV_in (.inl hk) hi]

theorem step_sim {s : St} {F : Ty} (ho : okS s) (h0 : s.ended.k = 0) (h : tyS s F) : Sim s (stepS s) := by
  rcases h with ⟨_, q, ht, hv⟩ | h | h
  · obtain ⟨⟨b, hw, hfl⟩, hvs, hts, _, _⟩ := ho
    obtain ⟨ts, vs, calls, fuel, ended⟩ := s
    match ts with
    | [] => rw [done_step (.inr rfl)]; exact .inr (.inl rfl)
    | t :: ts =>
      simp only at ht hv h0 hvs hts hw hfl
      rw [step_is h0]
      have htt := hts t (by simp)
      rcases ht with ⟨hd, G, i, h1, h2, h3⟩ | ⟨hd, r, rfl, h3⟩ | ⟨hd, r, rfl, h3⟩ | ⟨hd, G, i, r, rfl, h1, h2, h4, h3⟩ | ⟨hd, a, b, r, rfl, h3⟩ | ⟨hd, S, T, r, rfl, h1, h3⟩
      · obtain ⟨hx, hz, he⟩ := htt.1 (.inl hd)
        have := look_sim (s := ⟨ts, vs, calls, fuel, ended⟩) (x := t.x) (e := t.s) h0 hx
        have e1 : eraseT1 t = eraseT1 (lookT t.x t.s) := by simp [eraseT1, hd, lookT]
        have e2 : eraseS ⟨t :: ts, vs, calls, fuel, ended⟩ = eraseS ⟨lookT t.x t.s :: ts, vs, calls, fuel, ended⟩ := by
          simp only [eraseS, eraseTs_cons, e1]
        simp only [doS, hd, if_true]
        unfold Sim at this ⊢
        rw [e2]; exact this
      · obtain ⟨v, vs1, rfl, v1, hv1⟩ := tyE_one hv
        obtain ⟨u, vs2, rfl, u1, hv2⟩ := tyE_one hv1
        right; right
        have hvk := tyV_num v1
        have huk := tyV_num u1
        have e5 : eraseT1 t = [doT 2] := by simp [eraseT1, hd]
        have eB : eraseS ⟨t :: ts, v :: u :: vs2, calls, fuel, ended⟩ = ⟨doT 2 :: eraseTs ts, eraseV v :: eraseV u :: vs2.map eraseV, calls, fuel, ended⟩ := by
          simp only [eraseS, eraseTs_cons, e5]; rfl
        rw [eB, step_is h0]
        have a1 := eraseV_out (v := v) (by omega)
        have a2 := eraseV_out (v := u) (by omega)
        have b1 : (eraseV v).k = v.k ∧ (eraseV v).n = v.n := by rw [a1]; exact ⟨rfl, rfl⟩
        have b2 : (eraseV u).k = u.k ∧ (eraseV u).n = u.n := by rw [a2]; exact ⟨rfl, rfl⟩
        simp only [doS, hd, doT, b1, b2, hvk, huk]
        show eraseS ⟨ts, numV (clampI (u.n + v.n)) :: vs2, calls, fuel, _⟩ = ⟨eraseTs ts, numV (clampI (u.n + v.n)) :: vs2.map eraseV, calls, fuel, _⟩
        simp only [eraseS, List.map_cons, eraseV_num]
      · obtain ⟨v, vs1, rfl, v1, hv1⟩ := tyE_one hv
        obtain ⟨u, vs2, rfl, u1, hv2⟩ := tyE_one hv1
        right; right
        have hvk := tyV_num v1
        have huk := tyV_num u1
        have e5 : eraseT1 t = [doT 3] := by simp [eraseT1, hd]
        have eB : eraseS ⟨t :: ts, v :: u :: vs2, calls, fuel, ended⟩ = ⟨doT 3 :: eraseTs ts, eraseV v :: eraseV u :: vs2.map eraseV, calls, fuel, ended⟩ := by
          simp only [eraseS, eraseTs_cons, e5]; rfl
        rw [eB, step_is h0]
        have a1 := eraseV_out (v := v) (by omega)
        have a2 := eraseV_out (v := u) (by omega)
        have b1 : (eraseV v).k = v.k ∧ (eraseV v).n = v.n := by rw [a1]; exact ⟨rfl, rfl⟩
        have b2 : (eraseV u).k = u.k ∧ (eraseV u).n = u.n := by rw [a2]; exact ⟨rfl, rfl⟩
        simp only [doS, hd, doT, b1, b2, hvk, huk]
        show eraseS ⟨ts, truthV (if u.n < v.n then 1 else 0) :: vs2, calls, fuel, _⟩ = ⟨eraseTs ts, truthV (if u.n < v.n then 1 else 0) :: vs2.map eraseV, calls, fuel, _⟩
        simp only [eraseS, List.map_cons, eraseV_truth]
      · obtain ⟨v, vs1, rfl, v1, hv1⟩ := tyE_one hv
        obtain ⟨hx, hz, he⟩ := htt.1 (.inr hd)
        have hk6 := htt.2.1 hd
        have hl3 : t.x.l.length = 3 := by rw [hx.top.2.2.1, hk6]; rfl
        right; right
        have hvk := tyV_truth v1
        have e5 : eraseT1 t = [chooseT (eraseM t.x) (t.s.map eraseV)] := by simp [eraseT1, hd]
        have eB : eraseS ⟨t :: ts, v :: vs1, calls, fuel, ended⟩ = ⟨chooseT (eraseM t.x) (t.s.map eraseV) :: eraseTs ts, eraseV v :: vs1.map eraseV, calls, fuel, ended⟩ := by
          simp only [eraseS, eraseTs_cons, e5]; rfl
        rw [eB, step_is h0]
        have a1 := eraseV_out (v := v) (by omega)
        have b1 : (eraseV v).k = v.k ∧ (eraseV v).n = v.n := by rw [a1]; exact ⟨rfl, rfl⟩
        simp only [doS, hd, chooseT, b1, hvk]
        show eraseS (St.plan _ _) = St.plan _ _
        have : (eraseM t.x).at (if v.n = 1 then 1 else 2) = eraseM (t.x.at (if v.n = 1 then 1 else 2)) := eraseM_at (by omega) (by split <;> omega)
        simp only [St.plan, eraseS, eraseTs_look, this]
      · obtain ⟨v, vs1, rfl, v1, hv1⟩ := tyE_one hv
        obtain ⟨u, vs2, rfl, u1, hv2⟩ := tyE_one hv1
        have huo := hvs u (by simp)
        have hk : u.k = 3 ∨ u.k = 4 := by
          rcases tyV_fun u1 with ⟨h, _⟩ | ⟨h, _⟩
          · exact .inl h
          · exact .inr h
        have hn4 : t.d = 7 → u.k ≠ 4 := by
          intro h7
          rcases hw with ⟨hd', _⟩ | ⟨hd', _⟩ | ⟨hd', _⟩ | ⟨_, a', r', e', _⟩
          · omega
          · omega
          · omega
          · rw [e'] at hfl
            exact hfl.2.1 rfl
        have := call_sim hd (ts := ts) (v := v) (vs := vs2) (calls := calls) (fuel := fuel) (ended := ended) h0 huo hk (fun h => by have := hn4 h; omega) (t := t) rfl
        rcases hd with hd | hd
        all_goals
          simp only [doS, hd]
          exact this
      · obtain ⟨v, vs1, rfl, v1, hv1⟩ := tyE_one hv
        have hvo := hvs v (by simp)
        have e5 : eraseT1 t = [] := by simp [eraseT1, hd]
        have eB : eraseS ⟨t :: ts, v :: vs1, calls, fuel, ended⟩ = ⟨eraseTs ts, eraseV v :: vs1.map eraseV, calls, fuel, ended⟩ := by
          simp only [eraseS, eraseTs_cons, e5]; rfl
        have hdo : doS ⟨ts, v :: vs1, calls, fuel, ended⟩ t = changeS ⟨ts, vs1, calls, fuel, ended⟩ t.c v := by simp only [doS, hd]; rfl
        unfold Sim
        rw [eB, hdo]
        rcases change_ty (s := ⟨ts, vs1, calls, fuel, ended⟩) h1 v1 with ⟨u, e, hu⟩ | ⟨o, e, ho⟩
        · right; left
          have hu : eraseV u = eraseV v := by
            cases hc : t.c with
            | none =>
              rw [hc] at e
              have : v :: vs1 = u :: vs1 := congrArg St.vs e
              cases this; rfl
            | some c =>
              rw [hc] at e
              simp only [changeS] at e
              split at e
              · exfalso; have := congrArg (fun s => s.ended.k) e; simp [St.stop, St.push, stuckO, h0] at this
              rename_i n1
              split at e
              · exfalso
                have := congrArg St.vs e
                have := congrArg List.length this
                simp [St.stop, St.push] at this
              split at e
              · exfalso
                have := congrArg St.vs e
                have := congrArg List.length this
                simp [St.stop, St.push] at this
              · have : ofC c v :: vs1 = u :: vs1 := congrArg St.vs e
                cases this
                exact eraseV_of hvo fun ho => Classical.byContradiction fun h => n1 ⟨ho, h⟩
          rw [e]
          simp only [St.push, eraseS, List.map_cons, hu]
        · left
          rw [e]; exact ho
  · omega
  · omega

theorem told_erase {v : Val} {T : Ty} (ho : okV v) (h : tyV v T) : toldV (eraseV v) = toldV v := by
  have h4 : ∀ (u : Val) (T : Ty), okV u → tyV u T → u.k ≠ 5 → (eraseV u).k ≠ 5 ∧ toldV (eraseV u) = toldV u := by
    intro u T hu ht h5
    by_cases hk : u.k = 4
    · obtain ⟨hi, _, hco⟩ := hu.core4 hk
      have h3 : u.core.k = 3 := by
        cases u
        rcases tyV_mk.1 ht with ⟨h, _⟩ | ⟨h, _⟩ | ⟨h, _⟩ | ⟨_, v, A0, B0, A, B, _, h3, ⟨rfl, _⟩, _⟩ | ⟨h, _⟩
        · simp only at hk; omega
        · simp only at hk; omega
        · simp only at hk; omega
        · exact h3
        · simp only at hk; omega
      rw [eraseV_in (.inl hk) hi, eraseV_out (v := u.core) (by omega)]
      simp [toldV, h3, hk]
    · rw [eraseV_out (v := u) (by omega)]
      refine ⟨h5, ?_⟩
      simp [toldV, h5]
  by_cases h5 : v.k = 5
  · obtain ⟨hi, hco⟩ := ho.core5 h5
    have hT : ∃ s, tyV v.core (gr s) ∧ v.core.k ≠ 5 := by
      cases v
      rcases tyV_mk.1 h with ⟨h, _⟩ | ⟨h, _⟩ | ⟨h, _⟩ | ⟨h, _⟩ | ⟨_, _, hs, v, rfl, hv⟩
      · simp only at h5; omega
      · simp only at h5; omega
      · simp only at h5; omega
      · simp only at h5; omega
      · refine ⟨_, hv, ?_⟩
        show v.k ≠ 5
        rcases hs with rfl | rfl | rfl
        · rw [tyV_num hv]; omega
        · rw [tyV_truth hv]; omega
        · rcases tyV_fun (A := anyY) (B := anyY) hv with ⟨h, _⟩ | ⟨h, _⟩ <;> omega
    obtain ⟨s, ht, hn⟩ := hT
    obtain ⟨a, b⟩ := h4 v.core _ hco ht hn
    rw [eraseV_in (.inr h5) hi, b]
    simp only [toldV, h5, if_true]
    rw [if_neg hn]
  · exact (h4 v T ho h h5).2

theorem run_sim {s : St} {F : Ty} (ho : okS s) (h : tyS s F) : ∀ n, (runN n s).ended.k = 4 ∨ ∃ m, eraseS (runN n s) = runN m (eraseS s)
  | 0 => .inr ⟨0, rfl⟩
  | n + 1 => by
    rw [runN_succ]
    rcases run_sim ho h n with h4 | ⟨m, hm⟩
    · left; rw [done_step (.inl (by omega))]; exact h4
    · by_cases he : (runN n s).ended.k = 0
      · rcases step_sim (run_ok ho n he).1 he (run_ty h n) with h4 | e | e
        · exact .inl h4
        · exact .inr ⟨m, by rw [e, hm]⟩
        · exact .inr ⟨m + 1, by rw [e, hm, runN_succ]⟩
      · rw [done_step (.inl he)]; exact .inr ⟨m, hm⟩

theorem erase_fin {s : St} {F : Ty} (hd : s.done) (hty : tyS s F) (hok : s.ended.k = 0 → okS s) : (eraseS s).done ∧ finO (eraseS s) = finO s := by
  refine ⟨?_, ?_⟩
  · rcases hd with hd | hd
    · exact .inl hd
    · exact .inr (by simp only [eraseS, hd]; rfl)
  · unfold finO
    by_cases h0 : s.ended.k = 0
    · have : (eraseS s).ended.k = 0 := h0
      rw [if_pos h0, if_pos this]
      rcases hd with hd | hd
      · exact absurd h0 hd
      · rcases hty with ⟨_, q, h3, h4⟩ | h3 | h3
        · rw [hd] at h3
          rw [show q = [F] from h3] at h4
          obtain ⟨v, r, e, hv, _⟩ := tyE_one h4
          have hvo := (hok h0).vs v (by rw [e]; simp)
          have : (eraseS s).vs = eraseV v :: r.map eraseV := by simp only [eraseS, e, List.map_cons]
          rw [this, e]
          exact told_erase hvo hv
        · omega
        · omega
    · have : ¬ (eraseS s).ended.k = 0 := h0
      rw [if_neg h0, if_neg this]
      rfl

theorem finO_blamed {s : St} (h : s.ended.k = 4) : (finO s).k = 4 := by
  unfold finO
  rw [if_neg (by omega)]; exact h

theorem st0_erase (y : Tm) (fuel : Nat) : eraseS (st0 y fuel) = st0 (eraseM y) fuel := by simp only [eraseS, st0, eraseTs_look]; rfl

/-- As long as nobody is blamed types change nothing. -/
theorem runM_erase {y : Tm} {i : Ty} {fuel : Nat} (h : shp y) (hz : y.tsz ≤ 100) (hf : fuel ≤ 100) (ht : tyM y [] i) : (runM y fuel).k = 4 ∨ runM (eraseM y) fuel = runM y fuel := by
  obtain ⟨e1, e2⟩ := eraseM_shp y h
  have ho := (st0_ok h hz hf).1
  have hz2 : (eraseM y).tsz ≤ 100 := Nat.le_trans e2 hz
  have he := erase_fin (runM_done h hz hf) (run_ty (st0_ty ht fuel) bigN) (fun h0 => (run_ok ho bigN h0).1)
  rcases run_sim ho (st0_ty ht fuel) bigN with h4 | ⟨m, hm⟩
  · left
    rw [runM_eq]; exact finO_blamed h4
  · right
    rw [st0_erase] at hm
    rw [hm] at he
    rw [runM_of e1 hz2 hf he.1, runM_eq y fuel]
    exact he.2
end Go.Proofs.YtnddkmccagiclabGreatDoor

/-
  Rows of terms that a call makes longer, in blocks of a kind; the frame of chaperonekeep.loose; no program's run in it.
-/
namespace Go.Proofs.YtnddkmccagiclabGreatDoor
open Go.RowKit

structure RowT (Q : Nat → Prop) (base : Nat) (v : Value) (cs : List TT) (w : World) : Prop where
  own : w.ownsRow base 27 7 v cs.length (cells7 cs)
  ins : ∀ c, c ∈ cs → c.In w ∧ c.Bl (fun b => Q b ∧ some b ≠ v.ownBlock)

theorem RowT.nil (Q : Nat → Prop) (base : Nat) (w : World) : RowT Q base (.slice none 0 0) [] w := ⟨World.ownsRow_nil _ _ _ _, fun c h => by cases h⟩

theorem RowT.below {Q : Nat → Prop} {base : Nat} {v : Value} {cs : List TT} {w w' : World} (h : RowT Q base v cs w) (hb : Below w.heap.size w w') : RowT Q base v cs w' := by
  refine ⟨⟨h.own.1, ?_⟩, fun c hc => ⟨(h.ins c hc).1.below hb, (h.ins c hc).2⟩⟩
  rcases h.own.2 with hn | ⟨g, cap, cur, hv, hb', hg, rest⟩
  · exact .inl hn
  · exact .inr ⟨g, cap, cur, hv, hb', (hb.block g (Array.getElem?_eq_some_iff.1 hg).1).trans hg, rest⟩

theorem RowT.lt {Q : Nat → Prop} {base : Nat} {v : Value} {cs : List TT} {w : World} (h : RowT Q base v cs w) (k : Nat) (hk : v.ownBlock = some k) : base ≤ k ∧ k < w.heap.size := h.own.lt k hk

/-- One more. -/
theorem RowT.step {Q : Nat → Prop} {base : Nat} {v : Value} {cs : List TT} {w2 w3 : World} {c : TT} {gg cap1 : Nat} {X : Obj} (h : RowT Q base v cs w2) (hi : c.In w2) (hb : c.Bl (fun b => Q b ∧ some b ≠ v.ownBlock))
    (hown : w3.ownsRow base 27 7 (.slice (some ⟨gg, 0, none⟩) (cs.length + 1) cap1) (cs.length + 1) (cells7 cs ++ cells7 [c])) (hgrow : (w2.alloc X).grownBy w3 v.ownBlock) (hat : v.ownBlock = some gg ∨ gg = w2.heap.size + 1) :
    RowT Q base (.slice (some ⟨gg, 0, none⟩) (cs.length + 1) cap1) (cs ++ [c]) w3 ∧ ∀ k, k < w2.heap.size → some k ≠ v.ownBlock → w3.heap[k]? = w2.heap[k]? := by
  have hblk : ∀ k, k < w2.heap.size → some k ≠ v.ownBlock → w3.heap[k]? = w2.heap[k]? := fun k hk hn => by
    rw [hgrow.block k (by simp; omega) hn]
    exact ((Below.refl _ w2).alloc (Nat.le_refl _) X).block k hk
  refine ⟨⟨by rw [cells7_append, List.length_append, List.length_singleton]; exact hown, fun d hd => ?_⟩, hblk⟩
  have key : d.In w2 ∧ d.Bl (fun b => Q b ∧ some b ≠ v.ownBlock) := by
    rcases List.mem_append.1 hd with hd | hd
    · exact h.ins d hd
    · rcases List.mem_singleton.1 hd with rfl
      exact ⟨hi, hb⟩
  have hne : ∀ b, b < w2.heap.size ∧ (Q b ∧ some b ≠ v.ownBlock) → Q b ∧ some b ≠ (Value.slice (some ⟨gg, 0, none⟩) (cs.length + 1) cap1).ownBlock := by
    intro b hb
    refine ⟨hb.2.1, ?_⟩
    show some b ≠ some gg
    rcases hat with e | e
    · rw [← e]; exact hb.2.2
    · simp only [ne_eq, Option.some.injEq]; omega
  have hsame : ∀ b, b < w2.heap.size ∧ (Q b ∧ some b ≠ v.ownBlock) → ∀ i, w3.cell? ⟨b, i, none⟩ = w2.cell? ⟨b, i, none⟩ := fun b hb i =>
    World.cell?_of_block (a := ⟨b, i, none⟩) (hblk b hb.1 hb.2.2)
  have y3 := key.1.bl.and key.2
  exact ⟨key.1.congr (P := fun b => b < w2.heap.size ∧ (Q b ∧ some b ≠ v.ownBlock)) hsame y3, y3.mono hne⟩

/-- A row that the call owns is a term's list. -/
theorem RowT.list {Q : Nat → Prop} {base : Nat} {v : Value} {cs : List TT} {w : World} (h : RowT Q base v cs w) : ∃ a c, v = .slice a cs.length c ∧ (∀ j (hj : j < cs.length), ∃ b o, a = some ⟨b, o, none⟩ ∧ At7 w b (o + j * 7) cs[j]) ∧ (∀ y, cs ≠ [] → a = some y → base ≤ y.block) := by
  rcases h.own.2 with ⟨rfl, h0⟩ | ⟨g, cap, cur, rfl, hg, _⟩
  · have : cs = [] := List.length_eq_zero_iff.1 h0
    subst this
    exact ⟨none, 0, rfl, fun j hj => absurd hj (by simp), fun y h => absurd rfl h⟩
  · refine ⟨_, _, rfl, fun j hj => ⟨g, 0, rfl, ?_⟩, fun y _ hy => by cases hy; exact hg⟩
    have hc : ∀ i, i < 7 → w.cell? ⟨g, 0 + j * 7 + i, none⟩ = _ := fun i hi => by rw [Nat.zero_add, h.own.cellAt (j * 7 + i) (by omega), cells7_at cs j hj i hi]
    exact ⟨hc 0 (by omega), hc 1 (by omega), hc 2 (by omega), hc 3 (by omega), hc 4 (by omega), hc 5 (by omega), hc 6 (by omega)⟩

/-- The frame of loose: the term's box, the place of the answer. -/
structure LF (H : Nat) (x : TT) (W : World) : Prop where
  b : Box7 W H x
  z : ZB7 W (H + 1)

theorem LF.lt {H : Nat} {x : TT} {W : World} (h : LF H x W) : H + 1 < W.heap.size := h.z.lt
theorem LF.below {H : Nat} {x : TT} {W W' : World} (h : LF H x W) (hb : Below W.heap.size W W') : LF H x W' := ⟨h.b.below hb, h.z.later hb⟩
theorem LF.far {H : Nat} {x : TT} {W W' : World} (h : LF H x W) (h1 : W'.heap[H]? = W.heap[H]?) (h2 : W'.heap[H + 1]? = W.heap[H + 1]?) : LF H x W' := by
  have c1 : ∀ i, W'.cell? ⟨H, i, none⟩ = W.cell? ⟨H, i, none⟩ := fun i => World.cell?_of_block (a := ⟨H, i, none⟩) h1
  have c2 : ∀ i, W'.cell? ⟨H + 1, i, none⟩ = W.cell? ⟨H + 1, i, none⟩ := fun i => World.cell?_of_block (a := ⟨H + 1, i, none⟩) h2
  have f1 : ∀ i, W'.frozen? ⟨H, i, none⟩ = W.frozen? ⟨H, i, none⟩ := fun i => World.frozen?_of_block (a := ⟨H, i, none⟩) h1
  have f2 : ∀ i, W'.frozen? ⟨H + 1, i, none⟩ = W.frozen? ⟨H + 1, i, none⟩ := fun i => World.frozen?_of_block (a := ⟨H + 1, i, none⟩) h2
  obtain ⟨⟨y0, y1, y2, y3, y4, y5, y6⟩, g0, g1, g2, g3, g4, g5, g6⟩ := h.z
  exact ⟨⟨h.b.at7.of c1, fun i hi => (f1 i).trans (h.b.fz i hi)⟩, ⟨(c2 0).trans y0, (c2 1).trans y1, (c2 2).trans y2, (c2 3).trans y3, (c2 4).trans y4, (c2 5).trans y5, (c2 6).trans y6⟩, (f2 0).trans g0, (f2 1).trans g1, (f2 2).trans g2, (f2 3).trans g3, (f2 4).trans g4, (f2 5).trans g5, (f2 6).trans g6⟩

theorem LF.start (x : TT) (w : World) : LF w.heap.size x ((w.alloc (.cells #[.int .i64 x.k, .int .i64 x.n, .int .i64 x.t.k, .slice x.t.a x.t.l.length x.t.c, .int .i64 x.f.k, .slice x.f.a x.f.l.length x.f.c, .slice x.a x.l.length x.c] 27)).alloc (.cells #[.int .i64 0, .int .i64 0, .int .i64 0, .slice none 0 0, .int .i64 0, .slice none 0 0, .slice none 0 0] 27)) := by
  refine ⟨⟨⟨?_, ?_, ?_, ?_, ?_, ?_, ?_⟩, fun i _ => ?_⟩, ⟨?_, ?_, ?_, ?_, ?_, ?_, ?_⟩, ?_, ?_, ?_, ?_, ?_, ?_, ?_⟩ <;> simp [go_sem]

/-- What loose answers. -/
def LoPost (Q : Nat → Prop) (x : TT) (w : World) (e : Ending) (w' : World) : Prop :=
  ∃ (u : TT) (m : Int), e = .returned (.tuple #[.agg #[.int .i64 u.k, .int .i64 u.n, .int .i64 u.t.k, .slice u.t.a u.t.l.length u.t.c, .int .i64 u.f.k, .slice u.f.a u.f.l.length u.f.c, .slice u.a u.l.length u.c], .int .i64 m]) ∧ looser x.tm u.tm ∧ u.In w' ∧ u.Bl Q ∧ u.nb ∧ Below w.heap.size w w'
end Go.Proofs.YtnddkmccagiclabGreatDoor

/-
  What the call of chaperonekeep.loose answers: a term that tells less, or as much.
-/
namespace Go.Proofs.YtnddkmccagiclabGreatDoor
open Go.RowKit

/-- No list is longer than what memory holds. -/
def TT.lw : TT → Prop
  | ⟨_, _, _, _, _, _, l⟩ => l.length ≤ 1353245080300 ∧ ∀ y, y ∈ l → y.lw
theorem TT.lw_mk {k n : Int} {t f : Tr} {a : Option Addr} {c : Nat} {l : List TT} : (TT.mk k n t f a c l).lw ↔ l.length ≤ 1353245080300 ∧ ∀ y, y ∈ l → y.lw := by
  rw [TT.lw]
theorem TT.lw.len {x : TT} (h : x.lw) : x.l.length ≤ 1353245080300 := by cases x; exact (TT.lw_mk.1 h).1
theorem TT.lw.mem {x y : TT} (h : x.lw) (hy : y ∈ x.l) : y.lw := by
  obtain ⟨k, n, t, f, a, c, l⟩ := x
  exact (TT.lw_mk.1 h).2 y hy

def withT (x : TT) (t : Tr) : TT := ⟨x.k, x.n, t, x.f, x.a, x.c, x.l⟩
theorem withT_self (x : TT) : withT x x.t = x := by cases x; rfl
def toldT (x : TT) (t : Tr) : Prop := t = x.t ∨ tells x.k = true ∧ t = leaf 0

theorem ZB7.kept {R b : Nat} {w w' : World} (h : ZB7 w b) (hk : Kept R none w w') (hb : b ≠ R) : ZB7 w' b := by
  have hl := h.lt
  obtain ⟨⟨h0, h1, h2, h3, h4, h5, h6⟩, f0, f1, f2, f3, f4, f5, f6⟩ := h
  exact ⟨⟨hk.cell h0 hb, hk.cell h1 hb, hk.cell h2 hb, hk.cell h3 hb, hk.cell h4 hb, hk.cell h5 hb, hk.cell h6 hb⟩, hk.fz f0 hl hb, hk.fz f1 hl hb, hk.fz f2 hl hb, hk.fz f3 hl hb, hk.fz f4 hl hb, hk.fz f5 hl hb, hk.fz f6 hl hb⟩

set_option maxRecDepth 20000 in
set_option maxHeartbeats 8000000 in
theorem loose_step (Q : Nat → Prop) (x : TT) (k : Int) (w : World) (hx : x.In w) (hnb : x.nb) (hlw : x.lw) (xb : x.Bl Q) (nw : ∀ b, w.heap.size ≤ b → Q b) (ih : ∀ y, y ∈ x.l → ∀ (Q' : Nat → Prop) (k' : Int) (W : World), y.In W → y.Bl Q' → (∀ b, W.heap.size ≤ b → Q' b) → Calls Tryz.prog 16 #[.agg #[.int .i64 y.k, .int .i64 y.n, .int .i64 y.t.k, .slice y.t.a y.t.l.length y.t.c, .int .i64 y.f.k, .slice y.f.a y.f.l.length y.f.c, .slice y.a y.l.length y.c], .int .i64 k'] W (LoPost Q' y W)) :
    Calls Tryz.prog 16 #[.agg #[.int .i64 x.k, .int .i64 x.n, .int .i64 x.t.k, .slice x.t.a x.t.l.length x.t.c, .int .i64 x.f.k, .slice x.f.a x.f.l.length x.f.c, .slice x.a x.l.length x.c], .int .i64 k] w (LoPost Q x w) := by
  obtain ⟨i0, hi0, hz0, hz1, hz2⟩ := info_parts Tryz.info27c
  have hxl : x.l.length ≤ 1353245080300 := hlw.len
  obtain ⟨W1, hW1⟩ : ∃ W1, W1 = ((w.alloc (.cells #[.int .i64 x.k, .int .i64 x.n, .int .i64 x.t.k, .slice x.t.a x.t.l.length x.t.c, .int .i64 x.f.k, .slice x.f.a x.f.l.length x.f.c, .slice x.a x.l.length x.c] 27)).alloc (.cells #[.int .i64 0, .int .i64 0, .int .i64 0, .slice none 0 0, .int .i64 0, .slice none 0 0, .slice none 0 0] 27)) := ⟨_, rfl⟩
  have hb1 : Below w.heap.size w W1 := by rw [hW1]; exact ((Below.refl _ _).alloc (Nat.le_refl _) _).alloc (by simp) _
  have hlf : LF w.heap.size x W1 := by rw [hW1]; exact LF.start x w
  have HX : Hid (x.In w ∧ x.nb ∧ x.Bl Q ∧ (∀ b, w.heap.size ≤ b → Q b) ∧ Below w.heap.size w W1 ∧ LF w.heap.size x W1) := ⟨hx, hnb, xb, nw, hb1, hlf⟩
  have HIH : Hid (∀ y, y ∈ x.l → ∀ (Q' : Nat → Prop) (k' : Int) (W : World), y.In W → y.Bl Q' → (∀ b, W.heap.size ≤ b → Q' b) → Calls Tryz.prog 16 #[.agg #[.int .i64 y.k, .int .i64 y.n, .int .i64 y.t.k, .slice y.t.a y.t.l.length y.t.c, .int .i64 y.f.k, .slice y.f.a y.f.l.length y.f.c, .slice y.a y.l.length y.c], .int .i64 k'] W (LoPost Q' y W)) := ih
  obtain ⟨⟨p0, p1, p2, p3, p4, p5, p6⟩, fz⟩ := hlf.b
  simp only [Nat.zero_add] at p0 p1 p2 p3 p4 p5 p6
  have g2 := fz 2 (by omega)
  have g3 := fz 3 (by omega)
  clear hx hnb hlw xb nw ih hb1 hlf fz
  go_enter Tryz.func16, Tryz.ntmps16
  go_upto_region 2 with fail
  rw [← hW1]
  clear hW1
  go_cut [19] (fun s19 wx => s19 = .bool (tells x.k) ∧ wx = W1)
  case first =>
    by_cases k7 : x.k = 7
    · have e7 : (x.k == 7) = true := by simpa using k7
      have HT : Hid (tells x.k = true) := by simp [Hid, tells, k7]
      clear k7
      go_wp2_with fail
      go_meet
      case rel => exact ⟨by rw [HT.out], rfl⟩
    · have e7 : (x.k == 7) = false := by simpa using k7
      by_cases k9 : x.k = 9
      · have e9 : (x.k == 9) = true := by simpa using k9
        have HT : Hid (tells x.k = true) := by simp [Hid, tells, k9]
        clear k7 k9
        go_wp2_with fail
        go_meet
        case rel => exact ⟨by rw [HT.out], rfl⟩
      · have e9 : (x.k == 9) = false := by simpa using k9
        have HT : Hid (tells x.k = false) := by simp [Hid, tells, k7, k9]
        clear k7 k9
        go_wp2_with fail
        go_meet
        case rel => exact ⟨by rw [HT.out], rfl⟩
  case rest =>
  obtain ⟨rfl, rfl⟩ := hcut
  obtain ⟨tb, htb⟩ : ∃ tb, tells x.k = tb := ⟨_, rfl⟩
  have HTB : Hid (tells x.k = tb) := htb
  rw [htb]
  clear htb
  go_upto_if 19 with fail
  go_cut [6] (fun s6 wx => ∃ (m : Int) (t' : Tr), s6 = .int .i64 m ∧ Hid (LF w.heap.size (withT x t') wx ∧ Below w.heap.size w wx ∧ toldT x t'))
  case first =>
    cases tb
    · have HN : Hid (LF w.heap.size (withT x x.t) wc ∧ Below w.heap.size w wc ∧ toldT x x.t) := ⟨by rw [withT_self]; exact HX.out.2.2.2.2.2, HX.out.2.2.2.2.1, .inl rfl⟩
      go_wp2_with fail
      go_meet
      case rel => exact ⟨0, x.t, rfl, HN⟩
    · by_cases hk0 : k = 0
      · have hk' : (k == 0) = true := by simpa using hk0
        have HN : Hid (LF w.heap.size (withT x (leaf 0)) ((wc.setCell ⟨w.heap.size, 2, none⟩ (.int .i64 0)).setCell ⟨w.heap.size, 3, none⟩ (.slice none 0 0)) ∧ Below w.heap.size w ((wc.setCell ⟨w.heap.size, 2, none⟩ (.int .i64 0)).setCell ⟨w.heap.size, 3, none⟩ (.slice none 0 0)) ∧ toldT x (leaf 0)) := by
          obtain ⟨_, _, _, _, h5, h6⟩ := HX.out
          refine ⟨⟨h6.b.set23 (t := leaf 0), ?_⟩, (h5.setCell (Nat.le_refl _) _).setCell (Nat.le_refl _) _, .inr ⟨HTB.out, rfl⟩⟩
          exact h6.z.kept (set23_kept (u := .int .i64 0) (v := .slice none 0 0)) (by omega)
        clear hk0
        go_wp2_with fail
        go_meet
        case rel => exact ⟨1, leaf 0, rfl, HN⟩
      · have hk' : (k == 0) = false := by simpa using hk0
        have HN : Hid (LF w.heap.size (withT x x.t) wc ∧ Below w.heap.size w wc ∧ toldT x x.t) := ⟨by rw [withT_self]; exact HX.out.2.2.2.2.2, HX.out.2.2.2.2.1, .inl rfl⟩
        clear hk0
        go_wp2_with fail
        go_meet
        case rel => exact ⟨1, x.t, rfl, HN⟩
  case rest =>
  obtain ⟨m0, t', rfl, HT0⟩ := hcut
  have q6 := HT0.out.1.b.at7.c6
  simp only [Nat.zero_add, withT] at q6
  have hxk : x.l.length ≤ 1353245080300 := hxl
  have HL0 : Hid (Below w.heap.size w wc ∧ LF w.heap.size (withT x t') wc ∧ RowT (fun b => Q b ∧ b ≠ w.heap.size ∧ b ≠ w.heap.size + 1) (w.heap.size + 1 + 1) (Value.slice none 0 0) ([] : List TT) wc ∧ ([] : List TT).length = 0 ∧ looserL ((x.l.take 0).map TT.tm) (([] : List TT).map TT.tm) ∧ (∀ c, c ∈ ([] : List TT) → c.nb)) := ⟨HT0.out.2.1, HT0.out.1, RowT.nil _ _ _, rfl, by simp [looserL], fun c h => by cases h⟩
  have HTT : Hid (toldT x t') := HT0.out.2.2
  clear HT0 p0 p1 p2 p3 p4 p5 p6 g2 g3 HTB
  go_wp2_with fail
  clear q6
  go_loopg [6, 7, 27] x.l.length (fun g s6 s7 s27 wr => ∃ (j : Nat) (m : Int) (v : Value) (cs : List TT), g + j = x.l.length ∧ s6 = .int .i64 m ∧ v = s7 ∧ s27 = .int .i64 (j : Int) ∧ Hid (Below w.heap.size w wr ∧ LF w.heap.size (withT x t') wr ∧ RowT (fun b => Q b ∧ b ≠ w.heap.size ∧ b ≠ w.heap.size + 1) (w.heap.size + 1 + 1) v cs wr ∧ cs.length = j ∧ looserL ((x.l.take j).map TT.tm) (cs.map TT.tm) ∧ (∀ c, c ∈ cs → c.nb)))
  case atStart => exact ⟨0, m0, _, [], by omega, rfl, rfl, rfl, HL0⟩
  case round =>
    obtain ⟨j, m, v, cs, hj, rfl, hv, rfl, HQ⟩ := hrel
    subst hv
    clear HL0
    by_cases hlt : j < x.l.length
    · obtain ⟨b, o, ea, hX, hyi⟩ := HX.out.1.part j hlt
      have hym : x.l[j] ∈ x.l := List.getElem_mem hlt
      obtain ⟨y, hye⟩ : ∃ y, x.l[j] = y := ⟨_, rfl⟩
      have hyb := HX.out.2.2.1.mem hym
      rw [hye] at hX hyi hym hyb
      obtain ⟨d0, d1, d2, d3, d4, d5, d6⟩ := hX.below HQ.out.1
      have i1 : (j : Int) < (x.l.length : Int) := by omega
      have i0' : (0 : Int) ≤ (j : Int) := by omega
      have HEA : Hid (x.a = some ⟨b, o, none⟩) := ea
      rw [ea]
      obtain ⟨OX, hOX⟩ : ∃ O, O = Obj.cells #[.int .i64 y.k, .int .i64 y.n, .int .i64 y.t.k, .slice y.t.a y.t.l.length y.t.c, .int .i64 y.f.k, .slice y.f.a y.f.l.length y.f.c, .slice y.a y.l.length y.c] 27 := ⟨_, rfl⟩
      have hbA : Below wr.heap.size wr (wr.alloc OX) := (Below.refl _ _).alloc (Nat.le_refl _) _
      have hbE := HQ.out.1.trans (hbA.mono HQ.out.1.size)
      have hrow := HQ.out.2.2.1
      have hlfr := HQ.out.2.1
      have hltw := hlfr.lt
      have HC : Hid (∀ k' : Int, Calls Tryz.prog 16 #[.agg #[.int .i64 y.k, .int .i64 y.n, .int .i64 y.t.k, .slice y.t.a y.t.l.length y.t.c, .int .i64 y.f.k, .slice y.f.a y.f.l.length y.f.c, .slice y.a y.l.length y.c], .int .i64 k'] (wr.alloc OX) (LoPost (fun b => (Q b ∧ b ≠ w.heap.size ∧ b ≠ w.heap.size + 1) ∧ some b ≠ v.ownBlock) y (wr.alloc OX))) := by
        intro k'
        refine HIH.out y hym _ k' _ (hyi.below hbE) ((hyb.and hyi.bl).mono fun b hb => ⟨⟨hb.1, by omega, by omega⟩, fun e => by have := (hrow.lt b e.symm).1; omega⟩) fun b hb => ?_
        simp only [World.size_alloc] at hb
        exact ⟨⟨HX.out.2.2.2.1 b (by omega), by omega, by omega⟩, fun e => by have := (hrow.lt b e.symm).2; omega⟩
      have HE : Hid (Below w.heap.size w (wr.alloc OX) ∧ LF w.heap.size (withT x t') (wr.alloc OX) ∧ RowT (fun b => Q b ∧ b ≠ w.heap.size ∧ b ≠ w.heap.size + 1) (w.heap.size + 1 + 1) v cs (wr.alloc OX) ∧ cs.length = j ∧ looserL ((x.l.take j).map TT.tm) (cs.map TT.tm) ∧ (∀ c, c ∈ cs → c.nb) ∧ x.l[j] = y) := ⟨hbE, hlfr.below hbA, hrow.below hbA, HQ.out.2.2.2.1, HQ.out.2.2.2.2.1, HQ.out.2.2.2.2.2, hye⟩
      have hcl : cs.length + 1 ≤ 1353245080300 := by have := HQ.out.2.2.2.1; omega
      clear ea hX hyi hym hyb hye hbA hbE hrow hlfr hltw HQ
      subst hOX
      go_wp2_with fail
      refine (HC.out _).mono ?_
      rintro e w2 ⟨u, m2, rfl, hlo, hui, hub, hunb, hb2⟩
      clear d0 d1 d2 d3 d4 d5 d6
      obtain ⟨OU, hOU⟩ : ∃ O, O = Obj.cells #[.int .i64 u.k, .int .i64 u.n, .int .i64 u.t.k, .slice u.t.a u.t.l.length u.t.c, .int .i64 u.f.k, .slice u.f.a u.f.l.length u.f.c, .slice u.a u.l.length u.c] 27 := ⟨_, rfl⟩
      have hbR : Below w2.heap.size w2 (w2.alloc OU) := (Below.refl _ _).alloc (Nat.le_refl _) _
      have hb3 := hb2.trans (hbR.mono hb2.size)
      have hrow2 := HE.out.2.2.1.below hb3
      obtain ⟨N, hN⟩ : ∃ N, cs.length = N := ⟨_, rfl⟩
      obtain ⟨xs, hxs⟩ : ∃ xs, cells7 cs = xs := ⟨_, rfl⟩
      have uo : (w2.alloc OU).ownsRow (w.heap.size + 1 + 1) 27 7 v N xs := by rw [← hN, ← hxs]; exact hrow2.own
      have hnew := heap_alloc_new (w2.alloc OU) OU
      simp only [World.size_alloc] at hnew
      have HW : Hid (Below w.heap.size w (w2.alloc OU) ∧ LF w.heap.size (withT x t') (w2.alloc OU) ∧ RowT (fun b => Q b ∧ b ≠ w.heap.size ∧ b ≠ w.heap.size + 1) (w.heap.size + 1 + 1) v cs (w2.alloc OU) ∧ u.In (w2.alloc OU) ∧ u.Bl (fun b => (Q b ∧ b ≠ w.heap.size ∧ b ≠ w.heap.size + 1) ∧ some b ≠ v.ownBlock) ∧ u.nb ∧ looser y.tm u.tm) := ⟨HE.out.1.trans (hb3.mono HE.out.1.size), HE.out.2.1.below hb3, hrow2, hui.below hbR, hub, hunb, hlo⟩
      have HNX : Hid (cs.length = N ∧ cells7 cs = xs) := ⟨hN, hxs⟩
      have hNb : N + 1 ≤ 1353245080300 := by omega
      have hw2 : w.heap.size + 1 + 1 ≤ w2.heap.size := by have h1 := HE.out.2.1.lt; have h2 := hb2.size; omega
      clear hlo hui hub hunb hb2 HC hbR hb3 hrow2 hN hxs
      subst hOU
      go_wp2_with (at_builtin; refine wpList_append_lies _ rfl _ _ _ rfl (w.heap.size + 1 + 1) 27 i0 _ 7 104 Tryz.underlying25 hi0 hz0 hz1 hz2 rfl (by omega) v N xs rfl (uo.alloc _) ⟨w2.heap.size + 1, 0, none⟩ 1 1 [.int .i64 u.k, .int .i64 u.n, .int .i64 u.t.k, .slice u.t.a u.t.l.length u.t.c, .int .i64 u.f.k, .slice u.f.a u.f.l.length u.f.c, .slice u.a u.l.length u.c] rfl rfl (World.news_of_block (cs := #[.int .i64 u.k, .int .i64 u.n, .int .i64 u.t.k, .slice u.t.a u.t.l.length u.t.c, .int .i64 u.f.k, .slice u.f.a u.f.l.length u.f.c, .slice u.a u.l.length u.c]) (t := 27) (fr := (0, 0)) hnew) (by simp [Value.oneCell']) (by omega) (by unfold maxLen; omega) (by omega) (by simp; omega) (w2.heap.size + 1 + 1) (by simp) ?_; intro gg cap1 w3 hown1 hgrow hat hlt3)
      obtain ⟨OU, hOU⟩ : ∃ O, O = Obj.cells #[.int .i64 u.k, .int .i64 u.n, .int .i64 u.t.k, .slice u.t.a u.t.l.length u.t.c, .int .i64 u.f.k, .slice u.f.a u.f.l.length u.f.c, .slice u.a u.l.length u.c] 27 := ⟨_, rfl⟩
      rw [← hOU] at hgrow HW
      have HN : Hid (Below w.heap.size w w3 ∧ LF w.heap.size (withT x t') w3 ∧ RowT (fun b => Q b ∧ b ≠ w.heap.size ∧ b ≠ w.heap.size + 1) (w.heap.size + 1 + 1) (Value.slice (some ⟨gg, 0, none⟩) (N + 1) cap1) (cs ++ [u]) w3 ∧ (cs ++ [u]).length = (j + 1) ∧ looserL ((x.l.take (j + 1)).map TT.tm) ((cs ++ [u]).map TT.tm) ∧ (∀ c, c ∈ (cs ++ [u]) → c.nb)) := by
        obtain ⟨hbw, hlfw, hrw, huw, hub, hunb, hlo⟩ := HW.out
        obtain ⟨eN, exs⟩ := HNX.out
        have hst := hrw.step (gg := gg) (cap1 := cap1) (w3 := w3) (X := OU) huw hub (by rw [eN, exs]; exact hown1) hgrow (by simpa using hat)
        have hs := hgrow.size
        simp only [World.size_alloc] at hs
        have hov : ∀ q, v.ownBlock = some q → w.heap.size + 1 + 1 ≤ q := fun q hq => (hrw.lt q hq).1
        have hst1 := hst.1
        rw [eN] at hst1
        have hll := hlfw.lt
        simp only [World.size_alloc] at hll
        refine ⟨?_, hlfw.far (hst.2 _ (by simp; omega) fun e => by have := hov _ e.symm; omega) (hst.2 _ (by simp; omega) fun e => by have := hov _ e.symm; omega), hst1, by rw [List.length_append, HE.out.2.2.2.1]; rfl, ?_, fun c hc => ?_⟩
        · refine ⟨(hgrow.os.trans rfl).trans hbw.os, (hgrow.tape.trans rfl).trans hbw.tape, (hgrow.output.trans rfl).trans hbw.output, by have := hbw.size; simp at this; omega, fun q hq => ?_⟩
          exact (hst.2 q (by simp; omega) fun e => by have := hov q e.symm; omega).trans (hbw.block q hq)
        · rw [take_snoc _ _ hlt, HE.out.2.2.2.2.2.2, List.map_append, List.map_append]
          exact looserL_snoc _ _ _ _ HE.out.2.2.2.2.1 hlo
        · rcases List.mem_append.1 hc with hc | hc
          · exact HE.out.2.2.2.2.2.1 c hc
          · rcases List.mem_singleton.1 hc with rfl
            exact hunb
      clear hown1 hgrow hat hlt3 HW uo hnew hOU HE HNX
      go_wp2_with fail
      rw [← HEA.out]
      go_roundg (x.l.length - (j + 1))
      case measure => omega
      case rel => exact ⟨j + 1, _, _, cs ++ [u], by omega, rfl, rfl, by go_num, HN⟩
    · have hje : j = x.l.length := by omega
      obtain ⟨a, cap, hv, hlist, hla⟩ := HQ.out.2.2.1.list
      have HF : Hid (Below w.heap.size w wr ∧ LF w.heap.size (withT x t') wr ∧ RowT (fun b => Q b ∧ b ≠ w.heap.size ∧ b ≠ w.heap.size + 1) (w.heap.size + 1 + 1) v cs wr ∧ cs.length = j ∧ looserL ((x.l.take j).map TT.tm) (cs.map TT.tm) ∧ (∀ c, c ∈ cs → c.nb)) := HQ
      have HVL : Hid (v = .slice a cs.length cap ∧ (∀ q (hq : q < cs.length), ∃ b o, a = some ⟨b, o, none⟩ ∧ At7 wr b (o + q * 7) cs[q]) ∧ (∀ y, cs ≠ [] → a = some y → w.heap.size + 1 + 1 ≤ y.block)) := ⟨hv, hlist, hla⟩
      have HJ : Hid (j = x.l.length) := hje
      clear HQ hlist hla hje
      subst hv
      have HN : Hid (LoPost Q x w (.returned (.tuple #[.agg #[.int .i64 x.k, .int .i64 x.n, .int .i64 t'.k, .slice t'.a t'.l.length t'.c, .int .i64 x.f.k, .slice x.f.a x.f.l.length x.f.c, .slice a cs.length cap], .int .i64 m])) (put7 (wr.setCell ⟨w.heap.size, 6, none⟩ (.slice a cs.length cap)) (w.heap.size + 1) (TT.mk x.k x.n t' x.f a cap cs))) := by
        obtain ⟨hbw, hlf, hrow, hlen, hlo, hcnb⟩ := HF.out
        obtain ⟨_, hlist, hla⟩ := HVL.out
        obtain ⟨hxi, hxn, hxb, hnw, _, _⟩ := HX.out
        have hk1 : Kept w.heap.size none wr (wr.setCell ⟨w.heap.size, 6, none⟩ (.slice a cs.length cap)) := setR_kept
        have hk2 : Kept (w.heap.size + 1) none (wr.setCell ⟨w.heap.size, 6, none⟩ (.slice a cs.length cap)) (put7 (wr.setCell ⟨w.heap.size, 6, none⟩ (.slice a cs.length cap)) (w.heap.size + 1) (TT.mk x.k x.n t' x.f a cap cs)) := put7_kept
        have hll := hlf.lt
        have ht' : t'.In wr ∧ t'.Bl (· < w.heap.size) ∧ t'.Bl Q := by
          rcases HTT.out with rfl | ⟨_, rfl⟩
          · exact ⟨hxi.t.below hbw, hxi.t.bl, hxb.t⟩
          · exact ⟨leaf_in _ _, leaf_bl _ _, leaf_bl _ _⟩
        have htm : looser x.tm (TT.mk x.k x.n t' x.f a cap cs).tm := by
          rw [TT.tm_mk]
          obtain ⟨kk, nn, tt, ff, aa, cc, ll⟩ := x
          rw [TT.tm_mk]
          refine looser_mk.2 ⟨rfl, rfl, rfl, ?_, ?_⟩
          · rcases HTT.out with rfl | ⟨h1, rfl⟩
            · exact .inl rfl
            · exact .inr ⟨h1, leaf_ty 0⟩
          · have := hlo
            rw [HJ.out, List.take_of_length_le (Nat.le_refl _)] at this
            exact this
        refine ⟨(TT.mk x.k x.n t' x.f a cap cs), m, rfl, htm, TT.In_mk.2 ⟨?_, ?_, fun q hq => ?_, fun c hc => ?_⟩, TT.Bl_mk.2 ⟨ht'.2.2, hxb.f, fun hne z hz => hnw _ (by have := hla z hne hz; omega), fun c hc => (hrow.ins c hc).2.mono fun b hb => hb.1.1⟩, TT.nb_mk.2 ⟨hxn.n, hcnb⟩, ?_⟩
        · exact (ht'.1.keptR hk1 (ht'.2.1.mono fun b hb => by omega)).keptR hk2 (ht'.2.1.mono fun b hb => by omega)
        · exact ((hxi.f.below hbw).keptR hk1 (hxi.f.bl.mono fun b hb => by omega)).keptR hk2 (hxi.f.bl.mono fun b hb => by omega)
        · obtain ⟨b, o, e, h7⟩ := hlist q hq
          have hb2 := hla _ (fun e => by rw [e] at hq; simp at hq) e
          simp only at hb2
          exact ⟨b, o, e, (h7.keptR hk1 (by omega)).keptR hk2 (by omega)⟩
        · obtain ⟨h1, h2⟩ := hrow.ins c hc
          exact (h1.keptR hk1 (h2.mono fun b hb => hb.1.2.1)).keptR hk2 (h2.mono fun b hb => hb.1.2.2)
        · refine (hbw.setCell (Nat.le_refl _) _).trans ((hk2.below (by simp) ?_).mono (by omega))
          have : (wr.setCell ⟨w.heap.size, 6, none⟩ (.slice a cs.length cap)).heap.size = wr.heap.size := by simp [World.setCell]
          omega
      have hbx := HF.out.2.1.b
      have hz7 := HF.out.2.1.z
      obtain ⟨e0, e1, e2, e3, e4, e5, e6⟩ := (put7_box (x := (TT.mk x.k x.n t' x.f a cap cs)) (hz7.kept (setR_kept (v := .slice a cs.length cap) (i := 6) (R := w.heap.size)) (by omega)).box).at7
      simp only [Nat.zero_add] at e0 e1 e2 e3 e4 e5 e6
      obtain ⟨⟨q0, q1, q2, q3, q4, q5, q6⟩, qf⟩ := hbx
      simp only [Nat.zero_add, withT] at q0 q1 q2 q3 q4 q5 q6
      have qf6 := qf 6 (by omega)
      obtain ⟨⟨y0, y1, y2, y3, y4, y5, y6⟩, f0, f1, f2, f3, f4, f5, f6⟩ := hz7
      clear qf HF HVL HTT HX HIH
      go_wp2_with fail
      refine bodyPost_ret (v := .tuple #[.agg #[.int .i64 x.k, .int .i64 x.n, .int .i64 t'.k, .slice t'.a t'.l.length t'.c, .int .i64 x.f.k, .slice x.f.a x.f.l.length x.f.c, .slice a cs.length cap], .int .i64 m]) ?_ rfl HN.out
      unfold put7 at e0 e1 e2 e3 e4 e5 e6
      simp [results, Tryz.results16, go_sem, e0, e1, e2, e3, e4, e5, e6]

theorem loose_any : ∀ (n : Nat) (Q : Nat → Prop) (x : TT) (k : Int) (w : World), x.sz ≤ n → x.In w → x.nb → x.lw → x.Bl Q → (∀ b, w.heap.size ≤ b → Q b) → Calls Tryz.prog 16 #[.agg #[.int .i64 x.k, .int .i64 x.n, .int .i64 x.t.k, .slice x.t.a x.t.l.length x.t.c, .int .i64 x.f.k, .slice x.f.a x.f.l.length x.f.c, .slice x.a x.l.length x.c], .int .i64 k] w (LoPost Q x w) := by
  intro n
  induction n with
  | zero => intro Q x k w h _ _ _ _ _; have := x.sz_pos; omega
  | succ n ih =>
    intro Q x k w h hx hnb hlw xb nw
    refine loose_step Q x k w hx hnb hlw xb nw fun y hy Q' k' W hyi hyb hnw => ih Q' y k' W ?_ hyi (hnb.mem hy) (hlw.mem hy) hyb hnw
    have h1 := x.sz_eq
    have h2 : y.sz ≤ (x.l.map TT.sz).sum := by
      have := sz_mem (x.l.map TT.tm) y.tm (List.mem_map.2 ⟨y, hy, rfl⟩)
      rw [sz_map, ← y.sz_tm] at this
      exact this
    omega
end Go.Proofs.YtnddkmccagiclabGreatDoor
