/-
  Types of casts, values and machines, in plain mathematics: what has a type never gets stuck; no program in it.
-/
import Derived.Test.YtnddkmccagiclaaGreatDoorLotab74385c22
import Derived.Test.YtnddkmccagiclaaGreatDoorLotafdfc8828a
import Derived.Test.YtnddkmccagiclaaGreatDoorLote5e6808ac6
namespace Go.Proofs.YtnddkmccagiclaaGreatDoor
def numY : Ty := ⟨1, []⟩
def truthY : Ty := ⟨2, []⟩
def funY (a b : Ty) : Ty := ⟨3, [a, b]⟩
/-- The plain type of a kind. -/
def gr (k : Int) : Ty := if k = 3 then funY anyY anyY else ⟨k, []⟩
theorem same_eq : ∀ a b : Ty, relY escSame a b = true → a = b := by
  intro a
  induction a using Ty.ind with
  | h k l ih =>
    intro b h
    obtain ⟨k', l'⟩ := b
    rw [relY_mk] at h
    simp only [escSame, Bool.false_or, Bool.and_eq_true, beq_iff_eq] at h
    obtain ⟨rfl, hl⟩ := h
    have : ∀ (l l' : List Ty), (∀ t, t ∈ l → ∀ b, relY escSame t b = true → t = b) → relL escSame l l' = true → l = l' := by
      intro l
      induction l with
      | nil => intro l' _ h; cases l' with
        | nil => rfl
        | cons _ _ => simp [relL] at h
      | cons x r ihr =>
        intro l' hx h
        cases l' with
        | nil => simp [relL] at h
        | cons y s =>
          simp only [relL, Bool.and_eq_true] at h
          rw [hx x (by simp) y h.1, ihr s (fun t ht => hx t (by simp [ht])) h.2]
    rw [this l l' ih hl]
theorem same_refl : ∀ a : Ty, relY escSame a a = true := by
  intro a
  induction a using Ty.ind with
  | h k l ih =>
    rw [relY_mk]
    simp only [escSame, Bool.false_or, beq_self_eq_true, Bool.true_and]
    induction l with
    | nil => rfl
    | cons x r ihr => simp only [relL, ih x (by simp), ihr fun t ht => ih t (by simp [ht]), Bool.and_self]
/-- A cast is from a type to another one. -/
def tyC : Option Ca → Ty → Ty → Prop
  | none, S, T => S = T
  | some ⟨o, w, k, e, g, a, h⟩, S, T => (k = 1 ∨ k = 2 ∨ k = 3) ∧ ∃ S' T' : Ty, ((o = true ∧ S = anyY ∧ S' = gr k ∧ w.k = 4) ∨ (o = false ∧ S = S')) ∧ ((k ≠ 3 ∧ S' = ⟨k, []⟩) ∨ (k = 3 ∧ ∃ s1 s2, S' = funY s1 s2)) ∧
    (e.k = 4 ∨ (e.k = 0 ∧ ((h = true ∧ T = anyY ∧ T' = gr k) ∨ (h = false ∧ T = T')) ∧ ((k ≠ 3 ∧ T' = ⟨k, []⟩ ∧ g = none ∧ a = none) ∨ (k = 3 ∧ ∃ s1 s2 t1 t2, S' = funY s1 s2 ∧ T' = funY t1 t2 ∧ tyC g t1 s1 ∧ tyC a s2 t2))))
  termination_by c => SizeOf.sizeOf c
  decreasing_by
    · simp; omega
    · simp; omega
theorem tyC_none {S T : Ty} : tyC none S T ↔ S = T := by rw [tyC]
theorem tyC_some {o : Bool} {w : Out} {k : Int} {e : Out} {g a : Option Ca} {h : Bool} {S T : Ty} : tyC (some ⟨o, w, k, e, g, a, h⟩) S T ↔ (k = 1 ∨ k = 2 ∨ k = 3) ∧ ∃ S' T' : Ty, ((o = true ∧ S = anyY ∧ S' = gr k ∧ w.k = 4) ∨ (o = false ∧ S = S')) ∧ ((k ≠ 3 ∧ S' = ⟨k, []⟩) ∨ (k = 3 ∧ ∃ s1 s2, S' = funY s1 s2)) ∧
    (e.k = 4 ∨ (e.k = 0 ∧ ((h = true ∧ T = anyY ∧ T' = gr k) ∨ (h = false ∧ T = T')) ∧ ((k ≠ 3 ∧ T' = ⟨k, []⟩ ∧ g = none ∧ a = none) ∨ (k = 3 ∧ ∃ s1 s2 t1 t2, S' = funY s1 s2 ∧ T' = funY t1 t2 ∧ tyC g t1 s1 ∧ tyC a s2 t2)))) := by
  rw [tyC]
theorem funY_inj {a b c d : Ty} (h : funY a b = funY c d) : a = c ∧ b = d := by simpa [funY] using h
/-- The first way of a type without Any at its top. -/
theorem half_k {k : Int} {S : Ty} (h : (k ≠ 3 ∧ S = ⟨k, []⟩) ∨ (k = 3 ∧ ∃ s1 s2, S = funY s1 s2)) : S.k = k := by
  rcases h with ⟨_, rfl⟩ | ⟨rfl, s1, s2, rfl⟩ <;> rfl
theorem half_k' {k : Int} {S T : Ty} {g a : Option Ca} (h : (k ≠ 3 ∧ T = ⟨k, []⟩ ∧ g = none ∧ a = none) ∨ (k = 3 ∧ ∃ s1 s2 t1 t2, S = funY s1 s2 ∧ T = funY t1 t2 ∧ tyC g t1 s1 ∧ tyC a s2 t2)) : T.k = k := by
  rcases h with ⟨_, rfl, _⟩ | ⟨rfl, s1, s2, t1, t2, _, rfl, _⟩ <;> rfl
theorem tyC_then : ∀ (n : Nat) (c d : Option Ca) (S T U : Ty), SizeOf.sizeOf c + SizeOf.sizeOf d ≤ n → tyC c S T → tyC d T U → tyC (thenC c d) S U
  | 0, c, d, _, _, _, h, _, _ => by cases c <;> simp at h
  | n + 1, none, d, S, T, U, _, h1, h2 => by rw [thenC_nil, tyC_none.1 h1]; exact h2
  | n + 1, some c, none, S, T, U, _, h1, h2 => by rw [thenC_one, ← tyC_none.1 h2]; exact h1
  | n + 1, some ⟨o, w, k, e, g, a, h⟩, some ⟨o', w', k', e', g', a', h'⟩, S, T, U, hn, h1, h2 => by
    simp at hn
    obtain ⟨hk, S1, T1, hS, hS1, he⟩ := tyC_some.1 h1
    obtain ⟨hk', S2, T2, hT, hS2, he'⟩ := tyC_some.1 h2
    rw [thenC_two]
    rcases he with he | ⟨he, hT1, hp⟩
    · rw [if_neg (by omega)]
      exact tyC_some.2 ⟨hk, S1, T1, hS, hS1, .inl he⟩
    · rw [if_pos he]
      have a1 := half_k hS2
      have a2 := half_k' hp
      by_cases hkk : k' = k
      · rw [if_pos hkk]
        refine tyC_some.2 ⟨hk, S1, T2, hS, hS1, ?_⟩
        rcases he' with he' | ⟨he', hU, hp'⟩
        · exact .inl he'
        · refine .inr ⟨he', ?_, ?_⟩
          · rcases hU with ⟨x1, x2, x3⟩ | x
            · exact .inl ⟨x1, x2, by rw [x3, hkk]⟩
            · exact .inr x
          · have e12 : T1 = S2 := by
              rcases hT1 with ⟨_, t1, t2⟩ | ⟨_, t1⟩ <;> rcases hT with ⟨_, s1, s2, _⟩ | ⟨_, s1⟩
              · rw [t2, s2, hkk]
              · exfalso; rw [← s1, t1] at a1; simp [anyY] at a1; omega
              · exfalso; rw [← t1, s1] at a2; simp [anyY] at a2; omega
              · rw [← t1, s1]
            rcases hp' with ⟨q1, q2, rfl, rfl⟩ | ⟨q1, s1, s2, t1, t2, q2, q3, q4, q5⟩
            · rcases hp with ⟨p1, p2, rfl, rfl⟩ | ⟨p1, _⟩
              · exact .inl ⟨p1, by rw [q2, hkk], by rw [thenC_nil], by rw [thenC_nil]⟩
              · omega
            · rcases hp with ⟨p1, _⟩ | ⟨p1, u1, u2, v1, v2, p2, p3, p4, p5⟩
              · omega
              · have : funY v1 v2 = funY s1 s2 := by rw [← p3, ← q2, e12]
                obtain ⟨rfl, rfl⟩ := funY_inj this
                exact .inr ⟨p1, u1, u2, t1, t2, p2, q3, tyC_then n g' g _ _ _ (by omega) q4 p4, tyC_then n a a' _ _ _ (by omega) p5 q5⟩
      · rw [if_neg hkk]
        refine tyC_some.2 ⟨hk, S1, T1, hS, hS1, .inl ?_⟩
        rcases hT with ⟨_, _, _, hw⟩ | ⟨_, s1⟩
        · exact hw
        · exfalso
          rcases hT1 with ⟨_, t1, _⟩ | ⟨_, t1⟩
          · rw [← s1, t1] at a1; simp [anyY] at a1; omega
          · rw [← t1, s1] at a2; omega
theorem tyC_thens {c d : Option Ca} {S T U : Ty} (h1 : tyC c S T) (h2 : tyC d T U) : tyC (thenC c d) S U := tyC_then _ c d S T U (Nat.le_refl _) h1 h2
theorem fits_kind {a b : Ty} (h : relY escFits a b = true) (ha : a.k ≠ 0) (hb : b.k ≠ 0) : a.k = b.k := by
  cases a; cases b
  rw [relY_mk] at h
  simp only [escFits, Bool.or_eq_true, Bool.and_eq_true, beq_iff_eq] at h
  simp only at ha hb ⊢
  omega
/-- The cast that is made of two types that fit. -/
theorem tyC_new : ∀ (m n : Nat) (f t : Ty) (o : Out), goodY n f = true → goodY n t = true → relY escFits f t = true → o.k = 4 → 2 * n + (if f.k = 0 ∨ t.k = 0 then 1 else 0) ≤ m → tyC (newC m f t o) f t
  | 0, 0, f, t, o, hf, _, _, _, _ => by simp [goodY] at hf
  | 0, n + 1, f, t, o, _, _, _, _, hm => by omega
  | m + 1, 0, f, t, o, hf, _, _, _, _ => by simp [goodY] at hf
  | m + 1, n + 1, f, t, o, hf, ht, hfit, ho, hm => by
    rw [newC]
    by_cases hs : relY escSame f t = true
    · rw [if_pos hs, tyC_none]; exact same_eq f t hs
    rw [if_neg hs]
    have hne : f ≠ t := fun e => hs (by rw [e]; exact same_refl t)
    rcases goodY_cases hf with ⟨k, rfl, hk⟩ | ⟨f1, f2, rfl, gf1, gf2⟩ <;> rcases goodY_cases ht with ⟨k', rfl, hk'⟩ | ⟨t1, t2, rfl, gt1, gt2⟩
    · have h3 : ¬ ((Ty.mk k []).k = 3 ∧ (Ty.mk k' []).k = 3) := by simp only; omega
      rw [if_neg h3]
      have hkk : k ≠ k' := fun e => hne (by rw [e])
      have hor : k = 0 ∨ k' = 0 := by
        have := fits_kind hfit
        simp only at this
        omega
      simp only
      split
      · rename_i h0
        have e1 : groundY (Ty.mk k []) = ⟨k, []⟩ := by simp only [groundY]; rw [if_neg (by omega)]
        have e2 : newC m ⟨k, []⟩ ⟨k, []⟩ o = none := by
          cases m with
          | zero => rfl
          | succ m => rw [newC, if_pos (same_refl _)]
        rw [e1, e2]
        refine tyC_some.2 ⟨by simp only [someC]; omega, ⟨k, []⟩, gr k, .inr ⟨rfl, rfl⟩, .inl ⟨by simp only [someC]; omega, rfl⟩, .inr ⟨rfl, .inl ⟨rfl, by rw [h0]; rfl, rfl⟩, .inl ⟨by simp only [someC]; omega, ?_, rfl, rfl⟩⟩⟩
        simp only [gr, someC]; rw [if_neg (by omega)]
      · rename_i h0
        have hk0 : k = 0 := by omega
        subst hk0
        rw [if_pos rfl]
        have e1 : groundY (Ty.mk k' []) = ⟨k', []⟩ := by simp only [groundY]; rw [if_neg (by omega)]
        have e2 : newC m ⟨k', []⟩ ⟨k', []⟩ o = none := by
          cases m with
          | zero => rfl
          | succ m => rw [newC, if_pos (same_refl _)]
        rw [e1, e2]
        refine tyC_some.2 ⟨by simp only [someC]; omega, gr k', ⟨k', []⟩, .inl ⟨rfl, rfl, rfl, ho⟩, .inl ⟨by simp only [someC]; omega, ?_⟩, .inr ⟨rfl, .inr ⟨rfl, rfl⟩, .inl ⟨by simp only [someC]; omega, rfl, rfl, rfl⟩⟩⟩
        simp only [gr, someC]; rw [if_neg (by omega)]
    · have h3 : ¬ ((Ty.mk k []).k = 3 ∧ (Ty.mk 3 [t1, t2]).k = 3) := by simp only; omega
      rw [if_neg h3]
      have hk0 : k = 0 := by
        have := fits_kind hfit
        simp only at this
        omega
      subst hk0
      simp only
      rw [if_neg (by omega), if_pos trivial]
      have e1 : groundY (Ty.mk 3 [t1, t2]) = funY anyY anyY := rfl
      rw [e1]
      have hg2 : goodY (n + 1) (funY anyY anyY) = true := by
        cases n with
        | zero => simp [goodY] at gt1
        | succ n => simp [goodY, funY, anyY]
      have ih := tyC_new m (n + 1) (funY anyY anyY) ⟨3, [t1, t2]⟩ o hg2 ht (by rw [funY, two _ _ _ _ _ rfl, anyY, any_left, any_left]; rfl) ho (by simp [funY] at hm ⊢; omega)
      cases hc : newC m (funY anyY anyY) ⟨3, [t1, t2]⟩ o with
      | none =>
        rw [hc] at ih
        have := tyC_none.1 ih
        refine tyC_some.2 ⟨.inr (.inr rfl), gr 3, ⟨3, [t1, t2]⟩, .inl ⟨rfl, rfl, rfl, ho⟩, .inr ⟨rfl, anyY, anyY, rfl⟩, .inr ⟨rfl, .inr ⟨rfl, rfl⟩, .inr ⟨rfl, anyY, anyY, anyY, anyY, rfl, this.symm, tyC_none.2 rfl, tyC_none.2 rfl⟩⟩⟩
      | some c =>
        rw [hc] at ih
        obtain ⟨oo, w, k, e, g, a, h⟩ := c
        obtain ⟨hk, S1, T1, hS, hS1, he⟩ := tyC_some.1 ih
        have hS' : S1 = funY anyY anyY := by
          rcases hS with ⟨_, h, _⟩ | ⟨_, h⟩
          · simp [funY, anyY] at h
          · exact h.symm
        have hk3 : k = 3 := by
          rcases hS1 with ⟨_, h⟩ | ⟨h, _⟩
          · rw [hS'] at h; simp [funY] at h
          · exact h
        subst hk3
        exact tyC_some.2 ⟨hk, S1, T1, .inl ⟨rfl, rfl, by rw [hS']; rfl, ho⟩, hS1, he⟩
    · have h3 : ¬ ((Ty.mk 3 [f1, f2]).k = 3 ∧ (Ty.mk k' []).k = 3) := by simp only; omega
      rw [if_neg h3]
      have hk0 : k' = 0 := by
        have := fits_kind hfit
        simp only at this
        omega
      subst hk0
      simp only
      rw [if_pos trivial]
      have e1 : groundY (Ty.mk 3 [f1, f2]) = funY anyY anyY := rfl
      rw [e1]
      have hg2 : goodY (n + 1) (funY anyY anyY) = true := by
        cases n with
        | zero => simp [goodY] at gf1
        | succ n => simp [goodY, funY, anyY]
      have ih := tyC_new m (n + 1) ⟨3, [f1, f2]⟩ (funY anyY anyY) o hf hg2 (by rw [funY, two _ _ _ _ _ rfl, anyY, any_right, any_right]; rfl) ho (by simp [funY] at hm ⊢; omega)
      cases hc : newC m ⟨3, [f1, f2]⟩ (funY anyY anyY) o with
      | none =>
        rw [hc] at ih
        have := tyC_none.1 ih
        refine tyC_some.2 ⟨.inr (.inr rfl), ⟨3, [f1, f2]⟩, gr 3, .inr ⟨rfl, rfl⟩, .inr ⟨rfl, f1, f2, rfl⟩, .inr ⟨rfl, .inl ⟨rfl, rfl, rfl⟩, .inr ⟨rfl, anyY, anyY, anyY, anyY, this, rfl, tyC_none.2 rfl, tyC_none.2 rfl⟩⟩⟩
      | some c =>
        rw [hc] at ih
        obtain ⟨oo, w, k, e, g, a, h⟩ := c
        obtain ⟨hk, S1, T1, hS, hS1, he⟩ := tyC_some.1 ih
        have hS' : S1 = ⟨3, [f1, f2]⟩ := by
          rcases hS with ⟨_, h, _⟩ | ⟨_, h⟩
          · simp [anyY] at h
          · exact h.symm
        have hk3 : k = 3 := by
          rcases hS1 with ⟨_, h⟩ | ⟨h, _⟩
          · rw [hS'] at h; simp at h
          · exact h
        subst hk3
        refine tyC_some.2 ⟨hk, S1, funY anyY anyY, hS, hS1, ?_⟩
        rcases he with he | ⟨he, hT, hp⟩
        · exact .inl he
        · have hT' : T1 = funY anyY anyY := by
            rcases hT with ⟨_, h, _⟩ | ⟨_, h⟩
            · simp [funY, anyY] at h
            · exact h.symm
          refine .inr ⟨he, .inl ⟨rfl, rfl, rfl⟩, ?_⟩
          rw [hT'] at hp
          exact hp
    · rw [if_pos ⟨rfl, rfl⟩]
      rw [two _ _ _ _ _ rfl, Bool.and_eq_true] at hfit
      refine tyC_some.2 ⟨.inr (.inr rfl), ⟨3, [f1, f2]⟩, ⟨3, [t1, t2]⟩, .inr ⟨rfl, rfl⟩, .inr ⟨rfl, f1, f2, rfl⟩, .inr ⟨rfl, .inr ⟨rfl, rfl⟩, .inr ⟨rfl, f1, f2, t1, t2, rfl, rfl, ?_, ?_⟩⟩⟩
      · exact tyC_new m n t1 f1 _ gt1 gf1 (by rw [fits_sym n t1 f1 gt1 gf1]; exact hfit.1) ho (by split <;> (simp at hm; omega))
      · exact tyC_new m n f2 t2 _ gf2 gt2 hfit.2 ho (by split <;> (simp at hm; omega))
end Go.Proofs.YtnddkmccagiclaaGreatDoor

/-
  Types of values and machines, in plain mathematics: a step keeps them, and never gets stuck; no program in it.
-/
namespace Go.Proofs.YtnddkmccagiclaaGreatDoor
/-- What a term of a kind asks of its parts' types. -/
def ruleT (k n : Int) (t f : Ty) (ps G : List Ty) (i : Ty) : Prop :=
  (k = 1 ∧ ps = [] ∧ G[n.toNat]? = some i) ∨ (k = 2 ∧ ps = [] ∧ i = numY) ∨ (k = 3 ∧ ps = [] ∧ i = truthY) ∨ (k = 4 ∧ ps = [numY, numY] ∧ i = numY) ∨ (k = 5 ∧ ps = [numY, numY] ∧ i = truthY) ∨ (k = 6 ∧ ps = [truthY, i, i]) ∨
  (k = 7 ∧ ∃ b, ps = [b] ∧ i = funY t b) ∨ (k = 8 ∧ ∃ a, ps = [funY a i, a]) ∨ (k = 9 ∧ ps = [t] ∧ i = t) ∨ (k = 10 ∧ ps = [f] ∧ i = t ∧ relY escFits f t = true ∧ goodY 46 f = true ∧ goodY 46 t = true)
/-- A term with its casts has a type. -/
def tyM : Tm → List Ty → Ty → Prop
  | ⟨k, n, t, f, l⟩, G, i => ∃ ps : List Ty, l.length = ps.length ∧ (∀ j (h : j < l.length) (h' : j < ps.length), tyM l[j] (if k = 7 then t :: G else G) ps[j]) ∧ ruleT k n t f ps G i
  termination_by x => SizeOf.sizeOf x
  decreasing_by
    have := List.sizeOf_lt_of_mem (List.getElem_mem h); simp; omega
theorem tyM_mk {k n : Int} {t f : Ty} {l : List Tm} {G : List Ty} {i : Ty} : tyM ⟨k, n, t, f, l⟩ G i ↔ ∃ ps : List Ty, l.length = ps.length ∧ (∀ j (h : j < l.length) (h' : j < ps.length), tyM l[j] (if k = 7 then t :: G else G) ps[j]) ∧ ruleT k n t f ps G i := by
  rw [tyM]
theorem tyM_parts {x : Tm} {G : List Ty} {i : Ty} (h : tyM x G i) : ∃ ps : List Ty, x.l.length = ps.length ∧ (∀ j (h' : j < ps.length), tyM (x.at j) (if x.k = 7 then x.t :: G else G) ps[j]) ∧ ruleT x.k x.n x.t x.f ps G i := by
  obtain ⟨k, n, t, f, l⟩ := x
  obtain ⟨ps, h1, h2, h3⟩ := tyM_mk.1 h
  refine ⟨ps, h1, fun j h' => ?_, h3⟩
  rw [Tm.at_eq (x := ⟨k, n, t, f, l⟩) (by simp only; omega)]
  exact h2 j (by omega) h'
/-- A value has a type. -/
def tyV : Val → Ty → Prop
  | ⟨k, _, b, e, i, g, a, s⟩, T => (k = 1 ∧ T = numY) ∨ (k = 2 ∧ T = truthY) ∨
    (k = 3 ∧ ∃ A B G, T = funY A B ∧ tyM b (A :: G) B ∧ e.length = G.length ∧ ∀ j (h : j < e.length) (h' : j < G.length), tyV e[j] G[j]) ∨
    (k = 4 ∧ ∃ v A0 B0 A B, T = funY A B ∧ v.k = 3 ∧ (∃ h : i = [v], tyV v (funY A0 B0)) ∧ tyC g A A0 ∧ tyC a B0 B) ∨
    (k = 5 ∧ T = anyY ∧ (s = 1 ∨ s = 2 ∨ s = 3) ∧ ∃ v, ∃ h : i = [v], tyV v (gr s))
  termination_by v => SizeOf.sizeOf v
  decreasing_by
    · have := List.sizeOf_lt_of_mem (List.getElem_mem h); simp; omega
    · subst h; simp; omega
    · subst h; simp; omega
theorem tyV_mk {k n : Int} {b : Tm} {e i : List Val} {g a : Option Ca} {s : Int} {T : Ty} : tyV ⟨k, n, b, e, i, g, a, s⟩ T ↔ (k = 1 ∧ T = numY) ∨ (k = 2 ∧ T = truthY) ∨
    (k = 3 ∧ ∃ A B G, T = funY A B ∧ tyM b (A :: G) B ∧ e.length = G.length ∧ ∀ j (h : j < e.length) (h' : j < G.length), tyV e[j] G[j]) ∨
    (k = 4 ∧ ∃ v A0 B0 A B, T = funY A B ∧ v.k = 3 ∧ (∃ _h : i = [v], tyV v (funY A0 B0)) ∧ tyC g A A0 ∧ tyC a B0 B) ∨
    (k = 5 ∧ T = anyY ∧ (s = 1 ∨ s = 2 ∨ s = 3) ∧ ∃ v, ∃ _h : i = [v], tyV v (gr s)) := by
  rw [tyV]
/-- A scope's values have these types. -/
def tyE (e : List Val) (G : List Ty) : Prop := e.length = G.length ∧ ∀ j (h : j < e.length) (h' : j < G.length), tyV e[j] G[j]
theorem tyE_cons {v : Val} {e : List Val} {T : Ty} {G : List Ty} (hv : tyV v T) (h : tyE e G) : tyE (v :: e) (T :: G) := by
  refine ⟨by simp [h.1], fun j h1 h2 => ?_⟩
  match j with
  | 0 => exact hv
  | j + 1 => exact h.2 j (by simpa using h1) (by simpa using h2)
theorem tyE_at {e : List Val} {G : List Ty} (h : tyE e G) {j : Nat} {T : Ty} (hj : G[j]? = some T) : ∃ v, e[j]? = some v ∧ tyV v T := by
  obtain ⟨h1, rfl⟩ := List.getElem?_eq_some_iff.1 hj
  have h2 : j < e.length := by rw [h.1]; exact h1
  exact ⟨e[j], List.getElem?_eq_getElem h2, h.2 j h2 h1⟩
theorem tyV_num {v : Val} (h : tyV v numY) : v.k = 1 := by
  cases v
  rcases tyV_mk.1 h with ⟨h, _⟩ | ⟨_, h⟩ | ⟨_, A, B, G, h, _⟩ | ⟨_, v, A0, B0, A, B, h, _⟩ | ⟨_, h, _⟩
  · exact h
  all_goals (exfalso; simp [numY, truthY, funY, anyY] at h)
theorem tyV_truth {v : Val} (h : tyV v truthY) : v.k = 2 := by
  cases v
  rcases tyV_mk.1 h with ⟨_, h⟩ | ⟨h, _⟩ | ⟨_, A, B, G, h, _⟩ | ⟨_, v, A0, B0, A, B, h, _⟩ | ⟨_, h, _⟩
  · exfalso; simp [numY, truthY] at h
  · exact h
  all_goals (exfalso; simp [truthY, funY, anyY] at h)
theorem tyV_any {v : Val} (h : tyV v anyY) : v.k = 5 ∧ (v.as = 1 ∨ v.as = 2 ∨ v.as = 3) ∧ v.inn = [v.core] ∧ tyV v.core (gr v.as) := by
  cases v
  rcases tyV_mk.1 h with ⟨_, h⟩ | ⟨_, h⟩ | ⟨_, A, B, G, h, _⟩ | ⟨_, v, A0, B0, A, B, h, _⟩ | ⟨hk5, _, hs, v, rfl, hv⟩
  · exfalso; simp [numY, anyY] at h
  · exfalso; simp [truthY, anyY] at h
  · exfalso; simp [funY, anyY] at h
  · exfalso; simp [funY, anyY] at h
  · exact ⟨hk5, hs, rfl, hv⟩
theorem tyV_fun {v : Val} {A B : Ty} (h : tyV v (funY A B)) : (v.k = 3 ∧ ∃ G, tyM v.body (A :: G) B ∧ tyE v.env G) ∨ (v.k = 4 ∧ v.inn = [v.core] ∧ v.core.k = 3 ∧ ∃ A0 B0, tyV v.core (funY A0 B0) ∧ tyC v.given A A0 ∧ tyC v.answer B0 B) := by
  cases v
  rcases tyV_mk.1 h with ⟨_, h⟩ | ⟨_, h⟩ | ⟨hk, A1, B1, G, h, h1, h2⟩ | ⟨hk, v, A0, B0, A1, B1, hAB, h3, ⟨rfl, hv⟩, h4, h5⟩ | ⟨_, h, _⟩
  · exfalso; simp [numY, funY] at h
  · exfalso; simp [truthY, funY] at h
  · obtain ⟨rfl, rfl⟩ := funY_inj h
    exact .inl ⟨hk, G, h1, h2⟩
  · obtain ⟨rfl, rfl⟩ := funY_inj hAB
    exact .inr ⟨hk, rfl, h3, A0, B0, hv, h4, h5⟩
  · exfalso; simp [anyY, funY] at h
theorem tyV_mkNum (n : Int) : tyV (numV n) numY := tyV_mk.2 (.inl ⟨rfl, rfl⟩)
theorem tyV_mkTruth (n : Int) : tyV (truthV n) truthY := tyV_mk.2 (.inr (.inl ⟨rfl, rfl⟩))
theorem tyV_mkFun {b : Tm} {e : List Val} {A B : Ty} {G : List Ty} (h : tyM b (A :: G) B) (he : tyE e G) : tyV (funV b e) (funY A B) := tyV_mk.2 (.inr (.inr (.inl ⟨rfl, A, B, G, rfl, h, he⟩)))
theorem tyV_mkChap {v : Val} {g a : Option Ca} {A B A0 B0 : Ty} (h3 : v.k = 3) (hv : tyV v (funY A0 B0)) (hg : tyC g A A0) (ha : tyC a B0 B) : tyV (chapV v g a) (funY A B) := tyV_mk.2 (.inr (.inr (.inr (.inl ⟨rfl, v, A0, B0, A, B, rfl, h3, ⟨rfl, hv⟩, hg, ha⟩))))
theorem tyV_mkKnown {v : Val} {k : Int} (hk : k = 1 ∨ k = 2 ∨ k = 3) (hv : tyV v (gr k)) : tyV (knownV v k) anyY := tyV_mk.2 (.inr (.inr (.inr (.inr ⟨rfl, rfl, hk, v, rfl, hv⟩))))
theorem tyV_accomp {f : Val} {c : Ca} {s1 s2 t1 t2 : Ty} (h : tyV f (funY s1 s2)) (hg : tyC c.given t1 s1) (ha : tyC c.answer s2 t2) : tyV (accompV f c) (funY t1 t2) := by
  unfold accompV
  rcases tyV_fun h with ⟨hk, _⟩ | ⟨hk, _, hc, A0, B0, h1, h2, h3⟩
  · rw [if_neg (by omega)]
    exact tyV_mkChap hk h hg ha
  · rw [if_pos hk]
    exact tyV_mkChap hc h1 (tyC_thens hg h2) (tyC_thens h3 ha)
/-- A value of a type, cast to another one: the run goes on with a value of that, or somebody is blamed. -/
theorem change_ty {s : St} {c : Option Ca} {v : Val} {S T : Ty} (hc : tyC c S T) (hv : tyV v S) : (∃ u, changeS s c v = s.push u ∧ tyV u T) ∨ ∃ o : Out, changeS s c v = s.stop o ∧ o.k = 4 := by
  cases c with
  | none => rw [tyC_none.1 hc] at hv; exact .inl ⟨v, rfl, hv⟩
  | some c =>
    obtain ⟨o, w, k, e, g, a, h⟩ := c
    obtain ⟨hk, S1, T1, hS, hS1, he⟩ := tyC_some.1 hc
    have h1 : (∃ o', changeS s (some ⟨o, w, k, e, g, a, h⟩) v = s.stop o' ∧ o'.k = 4) ∨ ((o = true → v.k = 5 ∧ v.as = k) ∧ tyV (if o = true then v.core else v) S1) := by
      rcases hS with ⟨rfl, rfl, rfl, hw⟩ | ⟨rfl, rfl⟩
      · obtain ⟨k5, has, _, hcore⟩ := tyV_any hv
        by_cases hak : v.as = k
        · right
          refine ⟨fun _ => ⟨k5, hak⟩, ?_⟩
          rw [if_pos rfl, ← hak]; exact hcore
        · left
          refine ⟨w, ?_, hw⟩
          simp only [changeS]
          rw [if_neg (fun h => h.2 k5), if_pos ⟨by trivial, hak⟩]
      · right
        exact ⟨fun h => (by cases h), by simpa using hv⟩
    rcases h1 with h1 | ⟨hopen, hv1⟩
    · exact .inr h1
    have e1 : changeS s (some ⟨o, w, k, e, g, a, h⟩) v = if e.k ≠ 0 then s.stop e else s.push (ofC ⟨o, w, k, e, g, a, h⟩ v) := by
      simp only [changeS]
      rw [if_neg (fun h => h.2 (hopen h.1).1), if_neg (fun h => h.2 (hopen h.1).2)]
    rw [e1]
    rcases he with he | ⟨he, hT, hp⟩
    · right
      exact ⟨e, by rw [if_pos (by omega)], he⟩
    · left
      refine ⟨_, by rw [if_neg (by omega)], ?_⟩
      have h2 : tyV (if g.isSome = true ∨ a.isSome = true then accompV (if o = true then v.core else v) ⟨o, w, k, e, g, a, h⟩ else (if o = true then v.core else v)) T1 := by
        rcases hp with ⟨k3, rfl, rfl, rfl⟩ | ⟨rfl, s1, s2, t1, t2, rfl, rfl, hg, ha⟩
        · rcases hS1 with ⟨_, rfl⟩ | ⟨h, _⟩
          · rw [if_neg (by simp)]; exact hv1
          · omega
        · split
          · exact tyV_accomp (c := ⟨o, w, 3, e, g, a, h⟩) hv1 hg ha
          · rename_i hn
            have hg0 : g = none := by cases g with
              | none => rfl
              | some x => exact absurd (.inl rfl) hn
            have ha0 : a = none := by cases a with
              | none => rfl
              | some x => exact absurd (.inr rfl) hn
            subst hg0 ha0
            rw [tyC_none.1 hg, ← tyC_none.1 ha]
            exact hv1
      simp only [ofC]
      rcases hT with ⟨rfl, rfl, rfl⟩ | ⟨rfl, rfl⟩
      · rw [if_pos rfl]
        exact tyV_mkKnown hk h2
      · simpa using h2
/-- Tasks that make, of values of these types, one of that type. -/
def tyT : List Task → List Ty → Ty → Prop
  | [], q, F => q = [F]
  | t :: ts, q, F => (t.d = 1 ∧ ∃ G i, tyM t.x G i ∧ tyE t.s G ∧ tyT ts (i :: q) F) ∨ (t.d = 2 ∧ ∃ r, q = numY :: numY :: r ∧ tyT ts (numY :: r) F) ∨ (t.d = 3 ∧ ∃ r, q = numY :: numY :: r ∧ tyT ts (truthY :: r) F) ∨
    (t.d = 4 ∧ ∃ G i r, q = truthY :: r ∧ tyM (t.x.at 1) G i ∧ tyM (t.x.at 2) G i ∧ tyE t.s G ∧ tyT ts (i :: r) F) ∨ ((t.d = 5 ∨ t.d = 7) ∧ ∃ a b r, q = a :: funY a b :: r ∧ tyT ts (b :: r) F) ∨ (t.d = 6 ∧ ∃ S T r, q = S :: r ∧ tyC t.c S T ∧ tyT ts (T :: r) F)
theorem tyT_look {x : Tm} {e : List Val} {G : List Ty} {i : Ty} {ts : List Task} {q : List Ty} {F : Ty} (h : tyM x G i) (he : tyE e G) (ht : tyT ts (i :: q) F) : tyT (lookT x e :: ts) q F := .inl ⟨rfl, G, i, h, he, ht⟩
theorem tyT_change {c : Option Ca} {S T : Ty} {ts : List Task} {q : List Ty} {F : Ty} (h : tyC c S T) (ht : tyT ts (T :: q) F) : tyT (changeT c :: ts) (S :: q) F := .inr (.inr (.inr (.inr (.inr ⟨rfl, S, T, q, rfl, h, ht⟩))))
theorem tyT_call {d : Int} (hd : d = 5 ∨ d = 7) {a b : Ty} {ts : List Task} {q : List Ty} {F : Ty} (ht : tyT ts (b :: q) F) : tyT (doT d :: ts) (a :: funY a b :: q) F := .inr (.inr (.inr (.inr (.inl ⟨hd, a, b, q, rfl, ht⟩))))
/-- A machine that has a type: it goes on, or somebody was blamed, or the calls ran out. -/
def tyS (s : St) (F : Ty) : Prop := (s.ended.k = 0 ∧ ∃ q, tyT s.ts q F ∧ tyE s.vs q) ∨ s.ended.k = 4 ∨ s.ended.k = 5
theorem tyE_one {vs : List Val} {T : Ty} {q : List Ty} (h : tyE vs (T :: q)) : ∃ v r, vs = v :: r ∧ tyV v T ∧ tyE r q := by
  match vs, h with
  | [], h => simp [tyE] at h
  | v :: r, h => exact ⟨v, r, rfl, h.2 0 (by simp) (by simp), by simpa using h.1, fun j h1 h2 => h.2 (j + 1) (by simpa using h1) (by simpa using h2)⟩
theorem call_ty {ts : List Task} {u v : Val} {vs : List Val} {calls fuel : Nat} {ended : Out} {A B F : Ty} {r : List Ty} (h0 : ended.k = 0) (hv : tyV v A) (hu : tyV u (funY A B)) (ht : tyT ts (B :: r) F) (hvs : tyE vs r) : tyS (callS ⟨ts, vs, calls, fuel, ended⟩ u v) F := by
  unfold callS
  rcases tyV_fun hu with ⟨hk, G, hb, he⟩ | ⟨hk, _, hc, A0, B0, h1, h2, h3⟩
  · rw [if_pos hk]
    unfold enterS
    split
    · exact .inr (.inr rfl)
    · exact .inl ⟨h0, r, tyT_look hb (tyE_cons hv he) ht, hvs⟩
  · rw [if_neg (by omega), if_pos hk]
    exact .inl ⟨h0, A :: funY A0 B0 :: r, tyT_change h2 (tyT_call (.inr rfl) (tyT_change h3 ht)), tyE_cons hv (tyE_cons h1 hvs)⟩
theorem look_ty {s : St} {x : Tm} {e : List Val} {G : List Ty} {i F : Ty} {q : List Ty} (h0 : s.ended.k = 0) (h : tyM x G i) (he : tyE e G) (ht : tyT s.ts (i :: q) F) (hv : tyE s.vs q) : tyS (lookS s x e) F := by
  obtain ⟨ps, hl, hp, hr⟩ := tyM_parts h
  have pushed : ∀ v, tyV v i → tyS (s.push v) F := fun v h => .inl ⟨h0, i :: q, ht, tyE_cons h hv⟩
  unfold lookS
  rcases hr with ⟨hk, rfl, hn⟩ | ⟨hk, rfl, rfl⟩ | ⟨hk, rfl, rfl⟩ | ⟨hk, rfl, rfl⟩ | ⟨hk, rfl, rfl⟩ | ⟨hk, rfl⟩ | ⟨hk, b, rfl, rfl⟩ | ⟨hk, a, rfl⟩ | ⟨hk, rfl, rfl⟩ | ⟨hk, rfl, rfl, hf, g1, g2⟩
  all_goals simp only [hk] at hp ⊢
  · obtain ⟨v, e1, hv1⟩ := tyE_at he hn
    simp only [e1, if_true]
    exact pushed v hv1
  · exact pushed _ (tyV_mkNum _)
  · exact pushed _ (tyV_mkTruth _)
  · exact .inl ⟨h0, q, tyT_look (hp 0 (by simp)) he (tyT_look (hp 1 (by simp)) he (.inr (.inl ⟨rfl, q, rfl, ht⟩))), hv⟩
  · exact .inl ⟨h0, q, tyT_look (hp 0 (by simp)) he (tyT_look (hp 1 (by simp)) he (.inr (.inr (.inl ⟨rfl, q, rfl, ht⟩)))), hv⟩
  · exact .inl ⟨h0, q, tyT_look (hp 0 (by simp)) he (.inr (.inr (.inr (.inl ⟨rfl, G, i, q, rfl, hp 1 (by simp), hp 2 (by simp), he, ht⟩)))), hv⟩
  · exact pushed _ (tyV_mkFun (by simpa using hp 0 (by simp)) he)
  · exact .inl ⟨h0, q, tyT_look (hp 0 (by simp)) he (tyT_look (hp 1 (by simp)) he (tyT_call (.inl rfl) ht)), hv⟩
  · exact .inl ⟨h0, q, tyT_look (hp 0 (by simp)) he ht, hv⟩
  · refine .inl ⟨h0, q, tyT_look (hp 0 (by simp)) he (tyT_change (tyC_new 100 46 _ _ _ g1 g2 hf rfl ?_) ht), hv⟩
    split <;> omega
theorem step_ty {s : St} {F : Ty} (h : tyS s F) : tyS (stepS s) F := by
  rcases h with ⟨h0, q, ht, hv⟩ | h | h
  · obtain ⟨ts, vs, calls, fuel, ended⟩ := s
    match ts with
    | [] => rw [done_step (.inr rfl)]; exact .inl ⟨h0, q, ht, hv⟩
    | t :: ts =>
      have e0 : stepS ⟨t :: ts, vs, calls, fuel, ended⟩ = doS ⟨ts, vs, calls, fuel, ended⟩ t := by simp only [stepS]; rw [if_pos h0]
      rw [e0]
      simp only at ht hv h0
      unfold doS
      rcases ht with ⟨hd, G, i, h1, h2, h3⟩ | ⟨hd, r, rfl, h3⟩ | ⟨hd, r, rfl, h3⟩ | ⟨hd, G, i, r, rfl, h1, h2, h4, h3⟩ | ⟨hd, a, b, r, rfl, h3⟩ | ⟨hd, S, T, r, rfl, h1, h3⟩
      · simp only [hd, if_true]
        exact look_ty h0 h1 h2 h3 hv
      · obtain ⟨v, vs1, rfl, v1, hv1⟩ := tyE_one hv
        obtain ⟨u, vs2, rfl, u1, hv2⟩ := tyE_one hv1
        simp only [hd]
        refine .inl ⟨?_, numY :: r, h3, tyE_cons (tyV_mkNum _) hv2⟩
        simp only [tyV_num v1, tyV_num u1]
        simpa using h0
      · obtain ⟨v, vs1, rfl, v1, hv1⟩ := tyE_one hv
        obtain ⟨u, vs2, rfl, u1, hv2⟩ := tyE_one hv1
        simp only [hd]
        refine .inl ⟨?_, truthY :: r, h3, tyE_cons (tyV_mkTruth _) hv2⟩
        simp only [tyV_num v1, tyV_num u1]
        simpa using h0
      · obtain ⟨v, vs1, rfl, v1, hv1⟩ := tyE_one hv
        simp only [hd, tyV_truth v1]
        refine .inl ⟨h0, r, tyT_look (G := G) (i := i) ?_ h4 h3, hv1⟩
        split
        · exact h1
        · exact h2
      · obtain ⟨v, vs1, rfl, v1, hv1⟩ := tyE_one hv
        obtain ⟨u, vs2, rfl, u1, hv2⟩ := tyE_one hv1
        rcases hd with hd | hd
        all_goals
          simp only [hd]
          exact call_ty h0 v1 u1 h3 hv2
      · obtain ⟨v, vs1, rfl, v1, hv1⟩ := tyE_one hv
        simp only [hd, if_true]
        rcases change_ty (s := ⟨ts, vs1, calls, fuel, ended⟩) h1 v1 with ⟨u, e, hu⟩ | ⟨o, e, ho⟩
        · have : tyS (changeS ⟨ts, vs1, calls, fuel, ended⟩ t.c v) F := by
            rw [e]; exact .inl ⟨h0, T :: r, h3, tyE_cons hu hv1⟩
          simpa using this
        · have : tyS (changeS ⟨ts, vs1, calls, fuel, ended⟩ t.c v) F := by
            rw [e]; exact .inr (.inl ho)
          simpa using this
  · rw [done_step (.inl (by omega))]; exact .inr (.inl h)
  · rw [done_step (.inl (by omega))]; exact .inr (.inr h)
theorem run_ty {s : St} {F : Ty} (h : tyS s F) : ∀ n, tyS (runN n s) F
  | 0 => h
  | n + 1 => by rw [runN_succ]; exact step_ty (run_ty h n)
theorem st0_ty {x : Tm} {i : Ty} (h : tyM x [] i) (fuel : Nat) : tyS (st0 x fuel) i := .inl ⟨rfl, [], tyT_look h ⟨rfl, fun j h => (by simp at h)⟩ rfl, rfl, fun j h => by simp [st0] at h⟩
/-- What a value of a type is told as. -/
theorem told_ty {v : Val} {T : Ty} (h : tyV v T) : ((toldV v).k = 1 ∨ (toldV v).k = 2 ∨ (toldV v).k = 3) ∧ (T.k ≠ 0 → (toldV v).k = T.k) := by
  have h5 : ∀ (u : Val) (k : Int), (k = 1 ∨ k = 2 ∨ k = 3) → tyV u (gr k) → u.k = k ∨ k = 3 ∧ u.k = 4 := fun u k hk hu => by
    rcases hk with rfl | rfl | rfl
    · exact .inl (tyV_num hu)
    · exact .inl (tyV_truth hu)
    · rcases tyV_fun (A := anyY) (B := anyY) hu with ⟨h, _⟩ | ⟨h, _⟩
      · exact .inl h
      · exact .inr ⟨rfl, h⟩
  obtain ⟨k, n, b, e, i, g, a, s⟩ := v
  rcases tyV_mk.1 h with ⟨rfl, rfl⟩ | ⟨rfl, rfl⟩ | ⟨rfl, A, B, G, rfl, _⟩ | ⟨rfl, v, A0, B0, A, B, rfl, _⟩ | ⟨rfl, rfl, hs, v, rfl, hv⟩
  · exact ⟨.inl rfl, fun _ => rfl⟩
  · exact ⟨.inr (.inl rfl), fun _ => rfl⟩
  · exact ⟨.inr (.inr rfl), fun _ => rfl⟩
  · exact ⟨.inr (.inr rfl), fun _ => rfl⟩
  · refine ⟨?_, fun h => absurd rfl h⟩
    rcases h5 v s hs hv with hk | ⟨_, hk⟩
    · rcases hs with rfl | rfl | rfl
      · left; simp [toldV, Val.core, hk]
      · right; left; simp [toldV, Val.core, hk]
      · right; right; simp [toldV, Val.core, hk]
    · right; right; simp [toldV, Val.core, hk]
/-- WHAT HAS A TYPE NEVER GETS STUCK. -/
theorem never {x : Tm} {i : Ty} {fuel : Nat} (h : shp x) (hz : x.tsz ≤ 100) (hf : fuel ≤ 100) (ht : tyM x [] i) : (runM x fuel).k = 4 ∨ (runM x fuel).k = 5 ∨ (((runM x fuel).k = 1 ∨ (runM x fuel).k = 2 ∨ (runM x fuel).k = 3) ∧ (i.k ≠ 0 → (runM x fuel).k = i.k)) := by
  have h1 := run_ty (st0_ty ht fuel) bigN
  have h2 := runM_done h hz hf
  rw [runM_eq]
  generalize runN bigN (st0 x fuel) = s at h1 h2
  unfold finO
  rcases h1 with ⟨h0, q, h3, h4⟩ | h3 | h3
  · rw [if_pos h0]
    rcases h2 with h2 | h2
    · exact absurd h0 h2
    · rw [h2] at h3
      rw [show q = [i] from h3] at h4
      obtain ⟨v, r, e, hv, _⟩ := tyE_one h4
      rw [e]
      exact .inr (.inr (told_ty hv))
  · rw [if_neg (by omega)]; exact .inl h3
  · rw [if_neg (by omega)]; exact .inr (.inl h3)
end Go.Proofs.YtnddkmccagiclaaGreatDoor

/-
  What the call of kind.Join answers at two right trees of which the first has at most a thousand levels.
-/
namespace Go.Proofs.YtnddkmccagiclaaGreatDoor
open Go.RowKit
/-- The list that is put off, and what is joined: the one pair, or none. -/
def OffJ (R : Nat) (x y : Tr) (k : Nat) (wr : World) : Prop :=
  wr.frozen? ⟨R + 1, 0, none⟩ = false ∧ wr.frozen? ⟨R, 0, none⟩ = false ∧ wr.frozen? ⟨R, 1, none⟩ = false ∧
  ((k = 1 ∧ wr.cell? ⟨R, 0, none⟩ = some (.int .i64 0) ∧ wr.cell? ⟨R, 1, none⟩ = some (.slice none 0 0) ∧ ∃ g cap, wr.cell? ⟨R + 1, 0, none⟩ = some (.slice (some ⟨g, 0, none⟩) 1 cap) ∧ wr.ownsRow (R + 2) 168 5 (.slice (some ⟨g, 0, none⟩) 1 cap) 1 [.int .i64 x.k, .slice x.a x.l.length x.c, .int .i64 y.k, .slice y.a y.l.length y.c, .pointer (some ⟨R, 0, none⟩)])
    ∨ (k = 0 ∧ (∃ t : Tr, t.ty = joinY x.ty y.ty ∧ t.In wr ∧ t.Bl (R < ·) ∧ wr.cell? ⟨R, 0, none⟩ = some (.int .i64 t.k) ∧ wr.cell? ⟨R, 1, none⟩ = some (.slice t.a t.l.length t.c)) ∧ ∃ a cap, wr.cell? ⟨R + 1, 0, none⟩ = some (.slice a 0 cap)))
set_option maxHeartbeats 1000000 in
/-- kind.Join. -/
theorem join_whole (x y : Tr) (w : World) (hx : x.In w) (hy : y.In w) (rx : x.right) (ry : y.right) (hh : x.hgt ≤ 1000) :
    Calls Tryz.prog 69 #[.agg #[.int .i64 x.k, .slice x.a x.l.length x.c], .agg #[.int .i64 y.k, .slice y.a y.l.length y.c]] w fun e w' => ∃ t : Tr, e = .returned (.agg #[.int .i64 t.k, .slice t.a t.l.length t.c]) ∧ t.ty = joinY x.ty y.ty ∧ t.In w' ∧ t.Bl (w.heap.size ≤ ·) ∧ Below w.heap.size w w' := by
  have HC : Hid (∀ (rp : Option Addr) (ib io : Nat) (w : World), x.In w → y.In w → w.cell? ⟨ib, io, none⟩ = some (.int .i64 0) → w.cell? ⟨ib, io + 1, none⟩ = some (.slice none 0 0) → w.frozen? ⟨ib, io, none⟩ = false → w.frozen? ⟨ib, io + 1, none⟩ = false →
    Calls Tryz.prog 109 #[.agg #[.int .i64 x.k, .slice x.a x.l.length x.c, .int .i64 y.k, .slice y.a y.l.length y.c, .pointer (some ⟨ib, io, none⟩)], .int .i64 1000, .pointer rp] w fun e w' => e = .returned (.tuple #[]) ∧ Joined x y ib io w w') := fun rp ib io w h1 h2 => join_any 1000 (Nat.le_refl _) x y rp ib io w h1 h2 rx ry hh
  go_enter Tryz.func69, Tryz.ntmps69
  go_wp2_with fail
  obtain ⟨W0, hW0⟩ : ∃ W0, W0 = (((w.alloc (Obj.cells #[.int .i64 x.k, .slice x.a x.l.length x.c] 24)).alloc (Obj.cells #[.int .i64 y.k, .slice y.a y.l.length y.c] 24)).alloc (Obj.cells #[.int .i64 0, .slice none 0 0] 24)) := ⟨_, rfl⟩
  have hs0 : W0.heap.size = w.heap.size + 1 + 1 + 1 := by rw [hW0]; simp
  have hbw0 : Below w.heap.size w W0 := by rw [hW0]; exact (((Below.refl _ _).alloc (Nat.le_refl _) _).alloc (by simp) _).alloc (by simp; omega) _
  have r0 : W0.cell? ⟨w.heap.size + 1 + 1, 0, none⟩ = some (.int .i64 0) := by rw [hW0]; simp [go_sem]
  have r1 : W0.cell? ⟨w.heap.size + 1 + 1, 1, none⟩ = some (.slice none 0 0) := by rw [hW0]; simp [go_sem]
  have r2 : ∀ o, W0.frozen? ⟨w.heap.size + 1 + 1, o, none⟩ = false := by intro o; rw [hW0]; simp [go_sem]
  rw [← hW0]
  clear hW0
  have u0 : ((W0.alloc (Obj.cells #[.int .i64 0, .slice none 0 0] 24)).alloc (Obj.cells #[.slice none 0 0] 164)).cell? ⟨w.heap.size + 1 + 1 + 1, 0, none⟩ = some (.int .i64 0) := by rw [← hs0]; simp [go_sem]
  have u1 : ((W0.alloc (Obj.cells #[.int .i64 0, .slice none 0 0] 24)).alloc (Obj.cells #[.slice none 0 0] 164)).cell? ⟨w.heap.size + 1 + 1 + 1, 1, none⟩ = some (.slice none 0 0) := by rw [← hs0]; simp [go_sem]
  have u2 : ∀ o, ((W0.alloc (Obj.cells #[.int .i64 0, .slice none 0 0] 24)).alloc (Obj.cells #[.slice none 0 0] 164)).frozen? ⟨w.heap.size + 1 + 1 + 1, o, none⟩ = false := by intro o; rw [← hs0]; simp [go_sem]
  refine (put_any (w.heap.size + 1 + 1 + 1 + 1) (.slice none 0 0) 0 [] x.k y.k x.a y.a x.l.length y.l.length x.c y.c (some ⟨w.heap.size + 1 + 1 + 1, 0, none⟩) _ (by rw [← hs0]; simp [go_sem]) (by rw [← hs0]; simp [go_sem]) (World.ownsRow_nil _ _ _ _) (by omega)).mono ?_
  rintro e w1 ⟨rfl, g, cap, hc1, hf1, ho1, _, hk1⟩
  have hb1 : Below (w.heap.size + 1 + 1 + 1) W0 w1 := by
    have h := hk1.below (by simp [Value.ownBlock]) (by simp [hs0])
    have h' : Below W0.heap.size W0 ((W0.alloc (Obj.cells #[.int .i64 0, .slice none 0 0] 24)).alloc (Obj.cells #[.slice none 0 0] 164)) := ((Below.refl _ _).alloc (Nat.le_refl _) _).alloc (by simp) _
    rw [hs0] at h'
    exact h'.trans (h.mono (by omega))
  have hblk := hk1.below (by simp [Value.ownBlock]) (by simp [hs0])
  have HO : Hid (OffJ (w.heap.size + 1 + 1 + 1) x y 1 w1) :=
    ⟨hf1, (hblk.frozen (p := ⟨w.heap.size + 1 + 1 + 1, 0, none⟩) (by simp)).trans (u2 0), (hblk.frozen (p := ⟨w.heap.size + 1 + 1 + 1, 1, none⟩) (by simp)).trans (u2 1), .inl ⟨rfl, (hblk.cell (p := ⟨w.heap.size + 1 + 1 + 1, 0, none⟩) (by simp)).trans u0, (hblk.cell (p := ⟨w.heap.size + 1 + 1 + 1, 1, none⟩) (by simp)).trans u1, g, cap, by simpa using hc1, by simpa using ho1⟩⟩
  clear hc1 hf1 ho1 hk1 u0 u1 u2 hblk
  have HR0 : Hid (W0.cell? ⟨w.heap.size + 1 + 1, 0, none⟩ = some (.int .i64 0) ∧ W0.cell? ⟨w.heap.size + 1 + 1, 1, none⟩ = some (.slice none 0 0) ∧ ∀ o, W0.frozen? ⟨w.heap.size + 1 + 1, o, none⟩ = false) := ⟨r0, r1, r2⟩
  have HS0 : Hid (W0.heap.size = w.heap.size + 1 + 1 + 1) := hs0
  clear r0 r1 r2 hs0
  go_wp2_with fail
  go_loopg [] 1 (fun k wr => Hid (OffJ (w.heap.size + 1 + 1 + 1) x y k wr) ∧ Below (w.heap.size + 1 + 1 + 1) W0 wr)
  case atStart => exact ⟨HO, hb1⟩
  case round =>
    obtain ⟨HR, hbr⟩ := hrel
    have hbwr : Below w.heap.size w wr := hbw0.trans (hbr.mono (by omega))
    obtain ⟨hfr, g0, g1, ⟨rfl, z0, z1, g, cap, hc, ho⟩ | ⟨rfl, ⟨t, ht, hin, hbl, t0, t1⟩, a, cap, hc⟩⟩ := HR.out
    · have c0 := ho.cellAt 0 (by omega)
      have c1 := ho.cellAt 1 (by omega)
      have c2 := ho.cellAt 2 (by omega)
      have c3 := ho.cellAt 3 (by omega)
      have c4 := ho.cellAt 4 (by omega)
      simp only [List.getElem?_cons_zero, List.getElem?_cons_succ] at c0 c1 c2 c3 c4
      have hcap : 1 ≤ cap := by
        rcases ho.2 with ⟨h, _⟩ | ⟨g', cap', cur, h, _, _, h1, _⟩
        · cases h
        · cases h; exact h1
      have hlr : w.heap.size + 1 + 1 + 1 + 1 < wr.heap.size := World.block_lt_of_cell? _ _ hc
      clear ho HR HO
      go_wp2_with fail
      refine (empty_any (w.heap.size + 1 + 1 + 1 + 1) (some ⟨g, 0, none⟩) 1 cap _ hc).mono ?_
      rintro e w' ⟨rfl, rfl⟩
      go_wp2_with fail
      refine (take_any (w.heap.size + 1 + 1 + 1 + 1) g 0 cap x.k y.k x.a y.a x.l.length y.l.length x.c y.c (some ⟨w.heap.size + 1 + 1 + 1, 0, none⟩) _ (by simpa using hc) hfr (by omega) (by omega) (by simpa using c0) (by simpa using c1) (by simpa using c2) (by simpa using c3) (by simpa using c4)).mono ?_
      rintro e w' ⟨rfl, rfl⟩
      go_wp2_with fail
      obtain ⟨WT, hWT⟩ : ∃ WT, WT = ((w'.setCell ⟨w.heap.size + 1 + 1 + 1 + 1, 0, none⟩ (.slice (some ⟨g, 0, none⟩) 0 cap)).alloc (.cells #[.int .i64 x.k, .slice x.a x.l.length x.c, .int .i64 y.k, .slice y.a y.l.length y.c, .pointer (some ⟨w.heap.size + 1 + 1 + 1, 0, none⟩)] 168)).alloc (.cells #[.int .i64 x.k, .slice x.a x.l.length x.c, .int .i64 y.k, .slice y.a y.l.length y.c, .pointer (some ⟨w.heap.size + 1 + 1 + 1, 0, none⟩)] 168) := ⟨_, rfl⟩
      have hbt : Below (w.heap.size + 1 + 1 + 1 + 1) w' WT := by
        rw [hWT]
        exact (((Below.refl _ _).setCell (by simp) _).alloc (by simp [World.setCell]; omega) _).alloc (by simp [World.setCell]; omega) _
      have hsT : w'.heap.size ≤ WT.heap.size := hbt.size
      have hcT : WT.cell? ⟨w.heap.size + 1 + 1 + 1 + 1, 0, none⟩ = some (.slice (some ⟨g, 0, none⟩) 0 cap) := by
        rw [hWT]
        exact cell_later (((Below.refl _ _).alloc (Nat.le_refl _) _).alloc (by simp) _) (World.cell?_setCell_same _ _ _ hc)
      have hfT : WT.frozen? ⟨w.heap.size + 1 + 1 + 1 + 1, 0, none⟩ = false := by
        rw [hWT]
        simp [frozen?_alloc_cells, hfr]
      rw [← hWT]
      have hbT : Below w.heap.size w WT := hbwr.trans (hbt.mono (by omega))
      refine (HC.out _ (w.heap.size + 1 + 1 + 1) 0 WT (hx.below hbT) (hy.below hbT) ((hbt.cell (p := ⟨w.heap.size + 1 + 1 + 1, 0, none⟩) (by simp)).trans z0) ((hbt.cell (p := ⟨w.heap.size + 1 + 1 + 1, 1, none⟩) (by simp)).trans z1) ((hbt.frozen (p := ⟨w.heap.size + 1 + 1 + 1, 0, none⟩) (by simp)).trans g0) ((hbt.frozen (p := ⟨w.heap.size + 1 + 1 + 1, 1, none⟩) (by simp)).trans g1)).mono ?_
      rintro e w5 ⟨rfl, t, ht, hin, hbl, t0, t1, hw⟩
      have hbl' : w5.heap[w.heap.size + 1 + 1 + 1 + 1]? = WT.heap[w.heap.size + 1 + 1 + 1 + 1]? := hw.block _ (by omega) (by omega)
      have HO5 : Hid (OffJ (w.heap.size + 1 + 1 + 1) x y 0 w5) :=
        ⟨(World.frozen?_of_block (a := ⟨w.heap.size + 1 + 1 + 1 + 1, 0, none⟩) hbl').trans hfT, (hw.frozen 0).trans ((hbt.frozen (p := ⟨w.heap.size + 1 + 1 + 1, 0, none⟩) (by simp)).trans g0), (hw.frozen 1).trans ((hbt.frozen (p := ⟨w.heap.size + 1 + 1 + 1, 1, none⟩) (by simp)).trans g1),
          .inr ⟨rfl, ⟨t, ht, hin, hbl.mono fun b hb => by omega, t0, t1⟩, _, _, (World.cell?_of_block (a := ⟨w.heap.size + 1 + 1 + 1 + 1, 0, none⟩) hbl').trans hcT⟩⟩
      have hb5 : Below (w.heap.size + 1 + 1 + 1) W0 w5 := hbr.trans ((hbt.mono (by omega)).trans (hw.under (by omega)))
      clear hWT hbt hcT hfT hbT ht hin hbl t0 t1 hw hbl' z0 z1 g0 g1 hfr hc c0 c1 c2 c3 c4
      go_wp2_with fail
      go_roundg 0
      case measure => omega
      case rel => exact ⟨HO5, hb5⟩
    · go_wp2_with fail
      refine (empty_any (w.heap.size + 1 + 1 + 1 + 1) a 0 cap _ hc).mono ?_
      rintro e w' ⟨rfl, rfl⟩
      have v0 := (hbr.cell (p := ⟨w.heap.size + 1 + 1, 0, none⟩) (by simp)).trans HR0.out.1
      have v1 := (hbr.cell (p := ⟨w.heap.size + 1 + 1, 1, none⟩) (by simp)).trans HR0.out.2.1
      have v2 := (hbr.frozen (p := ⟨w.heap.size + 1 + 1, 0, none⟩) (by simp)).trans (HR0.out.2.2 0)
      have v3 := (hbr.frozen (p := ⟨w.heap.size + 1 + 1, 1, none⟩) (by simp)).trans (HR0.out.2.2 1)
      have HT : Hid (t.ty = joinY x.ty y.ty) := ht
      clear ht HR HO hc hfr g0 g1
      go_wp2_with fail
      refine bodyPost_ret (v := .agg #[.int .i64 t.k, .slice t.a t.l.length t.c]) ?_ rfl ⟨t, rfl, HT.out, set_keeps hin (hbl.mono fun b hb => by omega), hbl.mono fun b hb => by omega, (hbwr.setCell (by simp; omega) _).setCell (by simp; omega) _⟩
      have hh := set_cells (u := .int .i64 t.k) (v := .slice t.a t.l.length t.c) v0 v1
      simp [results, Tryz.results69, go_sem, hh.1, hh.2]
end Go.Proofs.YtnddkmccagiclaaGreatDoor

/-
  What the call of kind.fits answers at two trees that lie in memory, where there is room for all levels of the first.
-/
namespace Go.Proofs.YtnddkmccagiclaaGreatDoor
open Go.RowKit
set_option maxHeartbeats 400000 in
theorem fits_left (n : Nat) (hn : n ≤ 1000) (k' : Int) (a a' : Option Addr) (m m' c c' : Nat) (rp : Option Addr) (w : World) :
    Calls Tryz.prog 140 #[.agg #[.int .i64 0, .slice a m c], .agg #[.int .i64 k', .slice a' m' c'], .int .i64 ((n : Int) + 1), .pointer rp] w fun e w' => e = .returned (.bool true) ∧ Below w.heap.size w w' := by
  have hz : (((n : Int) + 1) == 0) = false := by simp; omega
  go_enter Tryz.func140, Tryz.ntmps140
  go_wp2_with fail
  go_ret
  exact ⟨rfl, ((Below.refl _ _).alloc (Nat.le_refl _) _).alloc (by simp) _⟩
set_option maxHeartbeats 400000 in
theorem fits_right (n : Nat) (hn : n ≤ 1000) (k : Int) (hk : (k == 0) = false) (a a' : Option Addr) (m m' c c' : Nat) (rp : Option Addr) (w : World) :
    Calls Tryz.prog 140 #[.agg #[.int .i64 k, .slice a m c], .agg #[.int .i64 0, .slice a' m' c'], .int .i64 ((n : Int) + 1), .pointer rp] w fun e w' => e = .returned (.bool true) ∧ Below w.heap.size w w' := by
  have hz : (((n : Int) + 1) == 0) = false := by simp; omega
  go_enter Tryz.func140, Tryz.ntmps140
  go_wp2_with fail
  go_ret
  exact ⟨rfl, ((Below.refl _ _).alloc (Nat.le_refl _) _).alloc (by simp) _⟩
set_option maxHeartbeats 1000000 in
theorem fits_step (n : Nat) (hn : n ≤ 1000) (x y : Tr) (rp : Option Addr) (w : World) (hx : x.In w) (hy : y.In w) (hh : x.hgt ≤ n + 1) (hs : x.sm) (e1 : (x.k == 0) = false) (e2 : (y.k == 0) = false)
    (ih : Hid (∀ (x y : Tr) (w : World), x.In w → y.In w → x.hgt ≤ n → x.sm → Calls Tryz.prog 140 #[.agg #[.int .i64 x.k, .slice x.a x.l.length x.c], .agg #[.int .i64 y.k, .slice y.a y.l.length y.c], .int .i64 (n : Int), .pointer rp] w fun e w' => e = .returned (.bool (relY escFits x.ty y.ty)) ∧ Below w.heap.size w w')) :
    Calls Tryz.prog 140 #[.agg #[.int .i64 x.k, .slice x.a x.l.length x.c], .agg #[.int .i64 y.k, .slice y.a y.l.length y.c], .int .i64 ((n : Int) + 1), .pointer rp] w fun e w' => e = .returned (.bool (relY escFits x.ty y.ty)) ∧ Below w.heap.size w w' := by
  have hz : (((n : Int) + 1) == 0) = false := by simp; omega
  have hlen := hs.len
  by_cases ht0 : (x.k == y.k && (x.l.length : Int) == (y.l.length : Int)) = false
  · have ht : Hid ((x.k == y.k && (x.l.length : Int) == (y.l.length : Int)) = false) := ht0
    clear ht0
    go_enter Tryz.func140, Tryz.ntmps140
    go_wp2_with fail
    refine (alike_any _ _ _ _ _ _ _ _ false ht.out _).mono ?_
    rintro e w1 ⟨rfl, hb1⟩
    go_wp2_with fail
    go_ret
    refine ⟨?_, (((Below.refl _ _).alloc (Nat.le_refl _) _).alloc (by simp) _).trans (hb1.mono (by simp; omega))⟩
    rw [relY_top escFits x y (by simp [escFits, e1, e2]) ht.out]
    rfl
  · have ht' : Hid ((x.k == y.k && (x.l.length : Int) == (y.l.length : Int)) = true) := by simpa [Hid] using ht0
    clear ht0
    have hk : Hid (x.k = y.k) := by have h := ht'.out; simp at h; exact h.1
    have hl : Hid (x.l.length = y.l.length) := by have h := ht'.out; simp at h; exact Int.ofNat.inj h.2
    go_enter Tryz.func140, Tryz.ntmps140
    go_wp2_with fail
    refine (alike_any _ _ _ _ _ _ _ _ true ht'.out _).mono ?_
    rintro e w1 ⟨rfl, hb1⟩
    have hbw : Below w.heap.size w w1 := (((Below.refl _ _).alloc (Nat.le_refl _) _).alloc (by simp) _).trans (hb1.mono (by simp; omega))
    have p1 : w1.cell? ⟨w.heap.size, 1, none⟩ = some (.slice x.a x.l.length x.c) := cell_later hb1 (by simp [go_sem])
    have p3 : w1.cell? ⟨w.heap.size + 1, 1, none⟩ = some (.slice y.a y.l.length y.c) := cell_later hb1 (by simp [go_sem])
    clear hb1
    go_wp2_with fail
    go_loopw [32] (fun i wr => ∃ j : Nat, j ≤ x.l.length ∧ i = .int .i64 (j : Int) ∧ Below w1.heap.size w1 wr ∧ ∀ q (h : q < x.l.length) (h' : q < y.l.length), q < j → relY escFits x.l[q].ty y.l[q].ty = true) (fun i _ => x.l.length - (intOf i).toNat)
    case atStart => exact ⟨0, Nat.zero_le _, rfl, Below.refl _ _, fun q _ _ h => absurd h (by omega)⟩
    case round =>
      obtain ⟨j, hj, rfl, hbr, hall⟩ := hrel
      have HA : Hid (∀ q (h : q < x.l.length) (h' : q < y.l.length), q < j → relY escFits x.l[q].ty y.l[q].ty = true) := hall
      clear hall
      have hbwr : Below w.heap.size w wr := hbw.trans (hbr.mono hbw.size)
      by_cases hlt : j < x.l.length
      · have hlt' : j < y.l.length := hl.out ▸ hlt
        obtain ⟨b, o, ea, x0, x1, hxj⟩ := hx.part j hlt
        obtain ⟨b', o', eb, y0, y1, hyj⟩ := hy.part j hlt'
        have q1 : wr.cell? ⟨w.heap.size, 1, none⟩ = some (.slice (some ⟨b, o, none⟩) x.l.length x.c) := by rw [← ea]; exact cell_later hbr p1
        have q3 : wr.cell? ⟨w.heap.size + 1, 1, none⟩ = some (.slice (some ⟨b', o', none⟩) y.l.length y.c) := by rw [← eb]; exact cell_later hbr p3
        replace x0 := cell_later hbwr x0
        replace x1 := cell_later hbwr x1
        replace y0 := cell_later hbwr y0
        replace y1 := cell_later hbwr y1
        have i1 : (j : Int) < (x.l.length : Int) := by omega
        have i2 : (j : Int) < (y.l.length : Int) := by omega
        have i0 : (0 : Int) ≤ (j : Int) := by omega
        clear p1 p3 ea eb hx hy ht'
        have hwr : IntKind.i64.wrap (n : Int) = (n : Int) := wrap_small n hn
        obtain ⟨r, hr⟩ : ∃ r, relY escFits x.l[j].ty y.l[j].ty = r := ⟨_, rfl⟩
        have HC : Hid (∀ (w : World), x.l[j].In w → y.l[j].In w → Calls Tryz.prog 140 #[.agg #[.int .i64 x.l[j].k, .slice x.l[j].a x.l[j].l.length x.l[j].c], .agg #[.int .i64 y.l[j].k, .slice y.l[j].a y.l[j].l.length y.l[j].c], .int .i64 (n : Int), .pointer rp] w fun e w' => e = .returned (.bool r) ∧ Below w.heap.size w w') := by
          intro w h1 h2
          have := ih.out x.l[j] y.l[j] w h1 h2 (Tr.hgt_part hh j hlt) (hs.part j hlt)
          rw [hr] at this
          exact this
        have HR : Hid (relY escFits x.l[j].ty y.l[j].ty = r) := hr
        clear hr
        cases r
        · go_wp2_with fail
          go_region_held3 (fun w' => w'.cell? ⟨w.heap.size, 1, none⟩ = some (.slice (some ⟨b, o, none⟩) x.l.length x.c) ∧ w'.cell? ⟨w.heap.size + 1, 1, none⟩ = some (.slice (some ⟨b', o', none⟩) y.l.length y.c) ∧ w'.cell? ⟨b, o + j * 2, none⟩ = some (.int .i64 x.l[j].k) ∧ w'.cell? ⟨b, o + j * 2 + 1, none⟩ = some (.slice x.l[j].a x.l[j].l.length x.l[j].c) ∧ w'.cell? ⟨b', o' + j * 2, none⟩ = some (.int .i64 y.l[j].k) ∧ w'.cell? ⟨b', o' + j * 2 + 1, none⟩ = some (.slice y.l[j].a y.l[j].l.length y.l[j].c)) (first | exact ⟨cell_later hb2 q1, cell_later hb2 q3, cell_later hb2 x0, cell_later hb2 x1, cell_later hb2 y0, cell_later hb2 y1⟩ | go_keep) (first | (go_at_call 140; refine (HC.out _ (hxj.below hbwr.drew) (hyj.below hbwr.drew)).mono ?_; rintro e w2 ⟨rfl, hb2⟩))
          have hbr2 : Below w1.heap.size w1 w2 := hbr.drew.trans (hb2.mono hbr.size)
          go_wp2_with fail
          go_ret
          refine ⟨?_, hbw.trans (hbr2.mono hbw.size)⟩
          rw [relY_part_not escFits x y (by simp [escFits, e1, e2]) j hlt hlt' HR.out]
          rfl
        · go_wp2_with fail
          go_region_held3 (fun w' => w'.cell? ⟨w.heap.size, 1, none⟩ = some (.slice (some ⟨b, o, none⟩) x.l.length x.c) ∧ w'.cell? ⟨w.heap.size + 1, 1, none⟩ = some (.slice (some ⟨b', o', none⟩) y.l.length y.c) ∧ w'.cell? ⟨b, o + j * 2, none⟩ = some (.int .i64 x.l[j].k) ∧ w'.cell? ⟨b, o + j * 2 + 1, none⟩ = some (.slice x.l[j].a x.l[j].l.length x.l[j].c) ∧ w'.cell? ⟨b', o' + j * 2, none⟩ = some (.int .i64 y.l[j].k) ∧ w'.cell? ⟨b', o' + j * 2 + 1, none⟩ = some (.slice y.l[j].a y.l[j].l.length y.l[j].c)) (first | exact ⟨cell_later hb2 q1, cell_later hb2 q3, cell_later hb2 x0, cell_later hb2 x1, cell_later hb2 y0, cell_later hb2 y1⟩ | go_keep) (first | (go_at_call 140; refine (HC.out _ (hxj.below hbwr.drew) (hyj.below hbwr.drew)).mono ?_; rintro e w2 ⟨rfl, hb2⟩))
          have hbr2 : Below w1.heap.size w1 w2 := hbr.drew.trans (hb2.mono hbr.size)
          go_wp2_with fail
          go_roundw
          case rel =>
            refine ⟨j + 1, by omega, by go_num, hbr2, fun q h h' hq => ?_⟩
            by_cases e : q = j
            · subst e; exact HR.out
            · exact HA.out q h h' (by omega)
          case measure => simp [intOf]; omega
      · go_wp2_with fail
        go_ret
        refine ⟨?_, hbwr⟩
        rw [relY_parts escFits x y hk.out hl.out fun q h h' => HA.out q h h' (by omega)]
        rfl
theorem fits_any (n : Nat) : n ≤ 1000 → ∀ (x y : Tr) (rp : Option Addr) (w : World), x.In w → y.In w → x.hgt ≤ n → x.sm → Calls Tryz.prog 140 #[.agg #[.int .i64 x.k, .slice x.a x.l.length x.c], .agg #[.int .i64 y.k, .slice y.a y.l.length y.c], .int .i64 (n : Int), .pointer rp] w fun e w' => e = .returned (.bool (relY escFits x.ty y.ty)) ∧ Below w.heap.size w w' := by
  induction n with
  | zero =>
    intro _ x y rp w _ _ h
    have := x.hgt_pos
    omega
  | succ n ih =>
    intro hn x y rp w hx hy h hs
    have e : ((n + 1 : Nat) : Int) = (n : Int) + 1 := by omega
    rw [e]
    by_cases k1 : x.k = 0
    · rw [k1, relY_esc escFits x y (by simp [escFits, k1])]
      exact fits_left n (by omega) y.k x.a y.a _ _ _ _ rp w
    by_cases k2 : y.k = 0
    · rw [k2, relY_esc escFits x y (by simp [escFits, k2])]
      exact fits_right n (by omega) x.k (by simpa using k1) x.a y.a _ _ _ _ rp w
    exact fits_step n (by omega) x y rp w hx hy h hs (by simpa using k1) (by simpa using k2) (fun x y w hx hy h hs => ih (by omega) x y rp w hx hy h hs)
end Go.Proofs.YtnddkmccagiclaaGreatDoor

/-
  What the calls of kind.holds (of kind.fits) and kind.Fits answer at two trees of which the first has at most a thousand levels.
-/
namespace Go.Proofs.YtnddkmccagiclaaGreatDoor
open Go.RowKit
set_option maxHeartbeats 1000000 in
theorem holds_32 (x y : Tr) (r : Bool) (w : World) (hx : x.In w) (hy : y.In w)
    (HC : Hid (∀ (rp : Option Addr) (w : World), x.In w → y.In w → Calls Tryz.prog 140 #[.agg #[.int .i64 x.k, .slice x.a x.l.length x.c], .agg #[.int .i64 y.k, .slice y.a y.l.length y.c], .int .i64 1000, .pointer rp] w fun e w' => e = .returned (.bool r) ∧ Below w.heap.size w w')) :
    Calls Tryz.prog 79 #[.func (.func 140) #[] #[], .agg #[.int .i64 x.k, .slice x.a x.l.length x.c], .agg #[.int .i64 y.k, .slice y.a y.l.length y.c]] w fun e w' => e = .returned (.bool r) ∧ Below w.heap.size w w' := by
  go_enter Tryz.func79, Tryz.ntmps79
  go_wp2_with fail
  refine (put_any (w.heap.size + 1 + 1) (.slice none 0 0) 0 [] x.k y.k x.a y.a x.l.length y.l.length x.c y.c none _ (by simp [go_sem]) (by simp [go_sem]) (World.ownsRow_nil _ _ _ _) (by omega)).mono ?_
  rintro e w1 ⟨rfl, g, cap, hc1, hf1, ho1, _, hk1⟩
  have hbw : Below w.heap.size w w1 := ((((Below.refl _ _).alloc (Nat.le_refl _) _).alloc (by simp) _).alloc (by simp; omega) _).trans ((hk1.below (by simp [Value.ownBlock]) (by simp)).mono (by omega))
  have hsz : w.heap.size + 1 + 1 < w1.heap.size := World.block_lt_of_cell? _ _ hc1
  have HO : Hid (Off (w.heap.size + 1 + 1) x y r 1 w1) := ⟨hf1, .inl ⟨rfl, g, cap, by simpa using hc1, by simpa using ho1⟩⟩
  clear hc1 hf1 ho1 hk1
  go_wp2_with fail
  go_loopg [] 1 (fun k wr => Hid (Off (w.heap.size + 1 + 1) x y r k wr) ∧ Below w.heap.size w wr)
  case atStart => exact ⟨HO, hbw⟩
  case round =>
    obtain ⟨HR, hbr⟩ := hrel
    obtain ⟨hfr, ⟨rfl, g, cap, hc, ho⟩ | ⟨rfl, rfl, a, cap, hc⟩⟩ := HR.out
    · have c0 := ho.cellAt 0 (by omega)
      have c1 := ho.cellAt 1 (by omega)
      have c2 := ho.cellAt 2 (by omega)
      have c3 := ho.cellAt 3 (by omega)
      have c4 := ho.cellAt 4 (by omega)
      simp only [List.getElem?_cons_zero, List.getElem?_cons_succ] at c0 c1 c2 c3 c4
      have hcap : 1 ≤ cap := by
        rcases ho.2 with ⟨h, _⟩ | ⟨g', cap', cur, h, _, _, h1, _⟩
        · cases h
        · cases h; exact h1
      have hgr : w.heap.size + 1 + 1 < g := by
        rcases ho.2 with ⟨h, _⟩ | ⟨g', cap', cur, h, h1, _⟩
        · cases h
        · cases h; exact h1
      have hlr : w.heap.size + 1 + 1 < wr.heap.size := World.block_lt_of_cell? _ _ hc
      clear ho HR HO
      go_wp2_with fail
      refine (empty_any (w.heap.size + 1 + 1) (some ⟨g, 0, none⟩) 1 cap _ hc).mono ?_
      rintro e w' ⟨rfl, rfl⟩
      go_wp2_with fail
      refine (take_any (w.heap.size + 1 + 1) g 0 cap x.k y.k x.a y.a x.l.length y.l.length x.c y.c none _ (by simpa using hc) hfr (by omega) (by omega) (by simpa using c0) (by simpa using c1) (by simpa using c2) (by simpa using c3) (by simpa using c4)).mono ?_
      rintro e w' ⟨rfl, rfl⟩
      go_wp2_with fail
      have hb3 : Below w.heap.size w (((w'.setCell ⟨w.heap.size + 1 + 1, 0, none⟩ (.slice (some ⟨g, 0, none⟩) 0 cap)).alloc (.cells #[.int .i64 x.k, .slice x.a x.l.length x.c, .int .i64 y.k, .slice y.a y.l.length y.c, .pointer none] 168)).alloc (.cells #[.int .i64 x.k, .slice x.a x.l.length x.c, .int .i64 y.k, .slice y.a y.l.length y.c, .pointer none] 168)) :=
        ((hbr.setCell (by simp; omega) _).alloc (by simp [World.setCell]; omega) _).alloc (by simp [World.setCell]; omega) _
      have hb4 := hb3.alloc (by simp [World.setCell]; omega) (.cells #[.int .i64 x.k, .slice x.a x.l.length x.c, .int .i64 y.k, .slice y.a y.l.length y.c, .pointer none] 168)
      refine (HC.out _ _ (hx.below hb4) (hy.below hb4)).mono ?_
      rintro e w5 ⟨rfl, hb5⟩
      have hb6 : Below w.heap.size w w5 := hb4.trans (hb5.mono (by simp [World.setCell]; omega))
      have hcR : w5.cell? ⟨w.heap.size + 1 + 1, 0, none⟩ = some (.slice (some ⟨g, 0, none⟩) 0 cap) := by
        refine cell_later hb5 (cell_later ((((Below.refl _ (w'.setCell ⟨w.heap.size + 1 + 1, 0, none⟩ (.slice (some ⟨g, 0, none⟩) 0 cap))).alloc (Nat.le_refl _) _).alloc (by simp) _).alloc (by simp; omega) _) ?_)
        exact World.cell?_setCell_same _ _ _ hc
      have hfR : w5.frozen? ⟨w.heap.size + 1 + 1, 0, none⟩ = false := by
        rw [hb5.frozen (p := ⟨w.heap.size + 1 + 1, 0, none⟩) (by simp [World.setCell]; omega)]
        simp [frozen?_alloc_cells, hfr]
      clear hb5 hb4 hb3 hc hfr c0 c1 c2 c3 c4
      cases r
      · go_wp2_with fail
        go_ret
        exact ⟨rfl, hb6⟩
      · go_wp2_with fail
        go_roundg 0
        case measure => omega
        case rel => exact ⟨⟨hfR, .inr ⟨rfl, rfl, _, _, hcR⟩⟩, hb6⟩
    · go_wp2_with fail
      refine (empty_any (w.heap.size + 1 + 1) a 0 cap _ hc).mono ?_
      rintro e w' ⟨rfl, rfl⟩
      go_wp2_with fail
      go_ret
      exact ⟨rfl, hbr⟩
set_option maxHeartbeats 400000 in
/-- kind.Fits. -/
theorem fits_whole (x y : Tr) (w : World) (hx : x.In w) (hy : y.In w) (hh : x.hgt ≤ 1000) (hs : x.sm) :
    Calls Tryz.prog 105 #[.agg #[.int .i64 x.k, .slice x.a x.l.length x.c], .agg #[.int .i64 y.k, .slice y.a y.l.length y.c]] w fun e w' => e = .returned (.bool (relY escFits x.ty y.ty)) ∧ Below w.heap.size w w' := by
  obtain ⟨r, hr⟩ : ∃ r, relY escFits x.ty y.ty = r := ⟨_, rfl⟩
  have HC : Hid (∀ (rp : Option Addr) (w : World), x.In w → y.In w → Calls Tryz.prog 140 #[.agg #[.int .i64 x.k, .slice x.a x.l.length x.c], .agg #[.int .i64 y.k, .slice y.a y.l.length y.c], .int .i64 1000, .pointer rp] w fun e w' => e = .returned (.bool r) ∧ Below w.heap.size w w') := by
    intro rp w h1 h2
    have h := fits_any 1000 (Nat.le_refl _) x y rp w h1 h2 hh hs
    rw [hr] at h
    exact h
  rw [hr]
  clear hr
  have HH : Hid (∀ (w : World), x.In w → y.In w → Calls Tryz.prog 79 #[.func (.func 140) #[] #[], .agg #[.int .i64 x.k, .slice x.a x.l.length x.c], .agg #[.int .i64 y.k, .slice y.a y.l.length y.c]] w fun e w' => e = .returned (.bool r) ∧ Below w.heap.size w w') := fun w h1 h2 => holds_32 x y r w h1 h2 HC
  clear HC
  go_enter Tryz.func105, Tryz.ntmps105
  go_wp2_with fail
  have hb0 : Below w.heap.size w ((w.alloc (Obj.cells #[.int .i64 x.k, .slice x.a x.l.length x.c] 24)).alloc (Obj.cells #[.int .i64 y.k, .slice y.a y.l.length y.c] 24)) := ((Below.refl _ _).alloc (Nat.le_refl _) _).alloc (by simp) _
  refine (HH.out _ (hx.below hb0) (hy.below hb0)).mono ?_
  rintro e w1 ⟨rfl, hb1⟩
  have hb2 := hb0.trans (hb1.mono (by simp; omega))
  clear hb0 hb1
  go_wp2_with fail
  go_ret
  exact ⟨rfl, hb2⟩
end Go.Proofs.YtnddkmccagiclaaGreatDoor
