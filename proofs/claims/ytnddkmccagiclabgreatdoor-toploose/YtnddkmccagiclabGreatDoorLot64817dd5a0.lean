/-
  What lies under a cast and under a value, in plain mathematics: what says at most so much that the cast lets it pass; no program in it.
-/
import Derived.Test.YtnddkmccagiclabGreatDoorLotabe26c0bfc
namespace Go.Proofs.YtnddkmccagiclabGreatDoor
/-- What nothing passes. -/
def botY : Ty := ⟨-1, []⟩
def escLe (k k' : Int) : Bool := k == -1 || k' == 0
/-- A type (or what nothing passes) says at least as much as another one. -/
def leY (x t : Ty) : Prop := relY escLe x t = true
def P0 (t : Ty) : Ty := t.l.getD 0 anyY
def P1 (t : Ty) : Ty := t.l.getD 1 anyY
theorem P0_fun (a b : Ty) : P0 (funY a b) = a := rfl
theorem P1_fun (a b : Ty) : P1 (funY a b) = b := rfl
/-- What passes a cast. -/
def LoB : Option Ca → Ty → Ty → Ty → Prop
  | none, S, _, x => leY x S
  | some ⟨o, _, k, e, g, a, h⟩, S, T, x => x.k = -1 ∨ (e.k = 0 ∧ x.k = k ∧ (k = 3 → ∃ x1 x2, x = funY x1 x2 ∧ LoB g (P0 (if h = true then gr k else T)) (P0 (if o = true then gr k else S)) x1 ∧ LoB a (P1 (if o = true then gr k else S)) (P1 (if h = true then gr k else T)) x2) ∧ (k ≠ 3 → x = ⟨k, []⟩))
  termination_by c => SizeOf.sizeOf c
  decreasing_by
    · simp; omega
    · simp; omega
theorem LoB_none {S T x : Ty} : LoB none S T x ↔ leY x S := by rw [LoB]
theorem LoB_some {o : Bool} {w : Out} {k : Int} {e : Out} {g a : Option Ca} {h : Bool} {S T x : Ty} : LoB (some ⟨o, w, k, e, g, a, h⟩) S T x ↔ x.k = -1 ∨ (e.k = 0 ∧ x.k = k ∧ (k = 3 → ∃ x1 x2, x = funY x1 x2 ∧ LoB g (P0 (if h = true then gr k else T)) (P0 (if o = true then gr k else S)) x1 ∧ LoB a (P1 (if o = true then gr k else S)) (P1 (if h = true then gr k else T)) x2) ∧ (k ≠ 3 → x = ⟨k, []⟩)) := by
  rw [LoB]
theorem le_bot {x t : Ty} (h : x.k = -1) : leY x t := by
  cases x; cases t
  unfold leY
  rw [relY_mk]
  simp only at h
  simp [escLe, h]
theorem le_any (x : Ty) : leY x anyY := by
  cases x
  unfold leY anyY
  rw [relY_mk]
  simp [escLe]
theorem le_fun {x1 x2 t1 t2 : Ty} : leY (funY x1 x2) (funY t1 t2) ↔ leY x1 t1 ∧ leY x2 t2 := by
  unfold leY funY
  rw [relY_mk]
  simp [escLe, relL]
theorem le_base {x : Ty} {k : Int} (h0 : k ≠ 0) : leY x ⟨k, []⟩ ↔ x.k = -1 ∨ x = ⟨k, []⟩ := by
  obtain ⟨k', l⟩ := x
  unfold leY
  rw [relY_mk]
  simp only [escLe, Bool.or_eq_true, Bool.and_eq_true, beq_iff_eq, Ty.mk.injEq]
  cases l with
  | nil => simp [relL]; omega
  | cons a r => simp [relL]; omega
theorem le_ofFun {x t1 t2 : Ty} (h : leY x (funY t1 t2)) : x.k = -1 ∨ ∃ x1 x2, x = funY x1 x2 ∧ leY x1 t1 ∧ leY x2 t2 := by
  obtain ⟨k, l⟩ := x
  unfold leY funY at h
  rw [relY_mk] at h
  simp only [escLe, Bool.or_eq_true, Bool.and_eq_true, beq_iff_eq] at h
  rcases h with (h | h) | ⟨rfl, hl⟩
  · exact .inl h
  · omega
  · match l, hl with
    | [], hl => simp [relL] at hl
    | [a], hl => simp [relL] at hl
    | [a, b], hl =>
      simp only [relL, Bool.and_eq_true, Bool.and_true] at hl
      exact .inr ⟨a, b, rfl, hl.1, hl.2⟩
    | a :: b :: c :: r, hl => simp [relL] at hl
theorem LoB_bot {c : Option Ca} {S T x : Ty} (h : x.k = -1) : LoB c S T x := by
  cases c with
  | none => exact LoB_none.2 (le_bot h)
  | some c => cases c; exact LoB_some.2 (.inl h)
/-- What passes lies under both ends. -/
theorem LoB_ends : ∀ (n : Nat) (c : Option Ca) (S T x : Ty), SizeOf.sizeOf c ≤ n → tyC c S T → LoB c S T x → leY x S ∧ leY x T
  | 0, c, _, _, _, hn, _, _ => by cases c <;> simp at hn
  | n + 1, none, S, T, x, _, ht, h => by
    rw [← tyC_none.1 ht]
    exact ⟨LoB_none.1 h, LoB_none.1 h⟩
  | n + 1, some ⟨o, w, k, e, g, a, d⟩, S, T, x, hn, ht, h => by
    simp at hn
    rcases LoB_some.1 h with h | ⟨he, hk, h3, h4⟩
    · exact ⟨le_bot h, le_bot h⟩
    obtain ⟨hkk, S1, T1, hS, hS1, he'⟩ := tyC_some.1 ht
    rcases he' with he' | ⟨_, hT, hp⟩
    · omega
    have hs : (if o = true then gr k else S) = S1 := by
      rcases hS with ⟨rfl, _, rfl, _⟩ | ⟨rfl, rfl⟩ <;> simp
    have htt : (if d = true then gr k else T) = T1 := by
      rcases hT with ⟨rfl, _, rfl⟩ | ⟨rfl, rfl⟩ <;> simp
    rw [hs, htt] at h3
    have h5 : leY x S1 ∧ leY x T1 := by
      rcases hp with ⟨k3, rfl, rfl, rfl⟩ | ⟨rfl, s1, s2, t1, t2, rfl, rfl, hg, ha⟩
      · rcases hS1 with ⟨_, rfl⟩ | ⟨h, _⟩
        · rw [h4 k3]
          have : leY ⟨k, []⟩ ⟨k, []⟩ := (le_base (by omega)).2 (.inr rfl)
          exact ⟨this, this⟩
        · omega
      · obtain ⟨x1, x2, rfl, g1, g2⟩ := h3 rfl
        simp only [P0_fun, P1_fun] at g1 g2
        obtain ⟨a1, a2⟩ := LoB_ends n g _ _ x1 (by omega) hg g1
        obtain ⟨b1, b2⟩ := LoB_ends n a _ _ x2 (by omega) ha g2
        exact ⟨le_fun.2 ⟨a2, b1⟩, le_fun.2 ⟨a1, b2⟩⟩
    refine ⟨?_, ?_⟩
    · rcases hS with ⟨_, rfl, _⟩ | ⟨_, rfl⟩
      · exact le_any x
      · exact h5.1
    · rcases hT with ⟨_, rfl, _⟩ | ⟨_, rfl⟩
      · exact le_any x
      · exact h5.2
theorem LoB.ends {c : Option Ca} {S T x : Ty} (ht : tyC c S T) (h : LoB c S T x) : leY x S ∧ leY x T := LoB_ends _ c S T x (Nat.le_refl _) ht h
/-- What passes two casts one after the other. -/
theorem LoB_then : ∀ (n : Nat) (c d : Option Ca) (S T U x : Ty), SizeOf.sizeOf c + SizeOf.sizeOf d ≤ n → tyC c S T → tyC d T U → (LoB (thenC c d) S U x ↔ LoB c S T x ∧ LoB d T U x)
  | 0, c, d, _, _, _, _, h, _, _ => by cases c <;> simp at h
  | n + 1, none, d, S, T, U, x, _, h1, h2 => by
    rw [thenC_nil, tyC_none.1 h1, LoB_none]
    exact ⟨fun h => ⟨(h.ends h2).1, h⟩, fun h => h.2⟩
  | n + 1, some c, none, S, T, U, x, _, h1, h2 => by
    rw [thenC_one, ← tyC_none.1 h2, LoB_none]
    exact ⟨fun h => ⟨h, (h.ends h1).2⟩, fun h => h.1⟩
  | n + 1, some ⟨o, w, k, e, g, a, h⟩, some ⟨o', w', k', e', g', a', h'⟩, S, T, U, x, hn, h1, h2 => by
    simp at hn
    by_cases hb : x.k = -1
    · exact ⟨fun _ => ⟨LoB_bot hb, LoB_bot hb⟩, fun _ => LoB_bot hb⟩
    obtain ⟨hk, S1, T1, hS, hS1, he⟩ := tyC_some.1 h1
    obtain ⟨hk', S2, T2, hT, hS2, he'⟩ := tyC_some.1 h2
    rw [thenC_two]
    rcases he with he | ⟨he, hT1, hp⟩
    · rw [if_neg (by omega)]
      refine ⟨fun h => ?_, fun h => ?_⟩
      · rcases LoB_some.1 h with h | h
        · exact absurd h hb
        · omega
      · rcases LoB_some.1 h.1 with h | h
        · exact absurd h hb
        · omega
    · rw [if_pos he]
      have a1 := half_k hS2
      have a2 := half_k' hp
      by_cases hkk : k' = k
      · rw [if_pos hkk]
        subst hkk
        have e12 : T1 = S2 := by
          rcases hT1 with ⟨_, t1, t2⟩ | ⟨_, t1⟩ <;> rcases hT with ⟨_, s1, s2, _⟩ | ⟨_, s1⟩
          · rw [t2, s2]
          · exfalso; rw [← s1, t1] at a1; simp [anyY] at a1; omega
          · exfalso; rw [← t1, s1] at a2; simp [anyY] at a2; omega
          · rw [← t1, s1]
        have i1 : (if o = true then gr k' else S) = S1 := by
          rcases hS with ⟨rfl, _, rfl, _⟩ | ⟨rfl, rfl⟩ <;> simp
        have i2 : (if h = true then gr k' else T) = T1 := by
          rcases hT1 with ⟨rfl, _, rfl⟩ | ⟨rfl, rfl⟩ <;> simp
        have i3 : (if o' = true then gr k' else T) = S2 := by
          rcases hT with ⟨rfl, _, rfl, _⟩ | ⟨rfl, rfl⟩ <;> simp
        rw [LoB_some, LoB_some, LoB_some, i1, i2, i3]
        rcases he' with he' | ⟨he', hU, hp'⟩
        · constructor
          · rintro (h | h)
            · exact absurd h hb
            · omega
          · rintro ⟨_, h | h⟩
            · exact absurd h hb
            · omega
        have i4 : (if h' = true then gr k' else U) = T2 := by
          rcases hU with ⟨rfl, _, rfl⟩ | ⟨rfl, rfl⟩ <;> simp
        rw [i4]
        rcases hp' with ⟨q1, q2, rfl, rfl⟩ | ⟨q1, s1, s2, t1, t2, q2, q3, q4, q5⟩
        · constructor
          · rintro (h | ⟨g1, g2, _, g4⟩)
            · exact absurd h hb
            · exact ⟨.inr ⟨he, g2, fun h => absurd h q1, g4⟩, .inr ⟨he', g2, fun h => absurd h q1, g4⟩⟩
          · rintro ⟨h | ⟨_, g2, _, g4⟩, _⟩
            · exact absurd h hb
            · exact .inr ⟨he', g2, fun h => absurd h q1, g4⟩
        · rcases hp with ⟨p1, _⟩ | ⟨p1, u1, u2, v1, v2, p2, p3, p4, p5⟩
          · omega
          · have : funY v1 v2 = funY s1 s2 := by rw [← p3, ← q2, e12]
            obtain ⟨rfl, rfl⟩ := funY_inj this
            subst p2 p3 q3 p1
            rw [← e12]
            simp only [P0_fun, P1_fun]
            constructor
            · rintro (h | ⟨g1, g2, g3, g4⟩)
              · exact absurd h hb
              · obtain ⟨x1, x2, rfl, b1, b2⟩ := g3 trivial
                obtain ⟨c1, c2⟩ := (LoB_then n g' g _ _ _ x1 (by omega) q4 p4).1 b1
                obtain ⟨d1, d2⟩ := (LoB_then n a a' _ _ _ x2 (by omega) p5 q5).1 b2
                exact ⟨.inr ⟨he, g2, fun _ => ⟨x1, x2, rfl, c2, d1⟩, g4⟩, .inr ⟨he', g2, fun _ => ⟨x1, x2, rfl, c1, d2⟩, g4⟩⟩
            · rintro ⟨h | ⟨_, g2, g3, g4⟩, h | ⟨_, _, g3', _⟩⟩
              · exact absurd h hb
              · exact absurd h hb
              · exact absurd h hb
              · obtain ⟨x1, x2, rfl, c2, d1⟩ := g3 trivial
                obtain ⟨y1, y2, ey, c1, d2⟩ := g3' trivial
                obtain ⟨rfl, rfl⟩ := funY_inj ey
                exact .inr ⟨he', g2, fun _ => ⟨x1, x2, rfl, (LoB_then n g' g _ _ _ x1 (by omega) q4 p4).2 ⟨c1, c2⟩, (LoB_then n a a' _ _ _ x2 (by omega) p5 q5).2 ⟨d1, d2⟩⟩, g4⟩
      · rw [if_neg hkk]
        have hw : w'.k = 4 := by
          rcases hT with ⟨_, _, _, hw⟩ | ⟨_, s1⟩
          · exact hw
          · exfalso
            rcases hT1 with ⟨_, t1, _⟩ | ⟨_, t1⟩
            · rw [← s1, t1] at a1; simp [anyY] at a1; omega
            · rw [← t1, s1] at a2; omega
        rw [LoB_some, LoB_some, LoB_some]
        constructor
        · rintro (h | h)
          · exact absurd h hb
          · omega
        · rintro ⟨h | h, h' | h'⟩
          · exact absurd h hb
          · exact absurd h hb
          · exact absurd h' hb
          · omega
theorem LoB_thens {c d : Option Ca} {S T U x : Ty} (h1 : tyC c S T) (h2 : tyC d T U) : LoB (thenC c d) S U x ↔ LoB c S T x ∧ LoB d T U x := LoB_then _ c d S T U x (Nat.le_refl _) h1 h2
/-- What passes a cast that is made of two types: what lies under both. -/
theorem LoB_new : ∀ (m n : Nat) (f t : Ty) (o : Out) (x : Ty), goodY n f = true → goodY n t = true → relY escFits f t = true → o.k = 4 → 2 * n + (if f.k = 0 ∨ t.k = 0 then 1 else 0) ≤ m → (LoB (newC m f t o) f t x ↔ leY x f ∧ leY x t)
  | 0, 0, f, t, o, x, hf, _, _, _, _ => by simp [goodY] at hf
  | 0, n + 1, f, t, o, x, _, _, _, _, hm => by omega
  | m + 1, 0, f, t, o, x, hf, _, _, _, _ => by simp [goodY] at hf
  | m + 1, n + 1, f, t, o, x, hf, ht, hfit, ho, hm => by
    have hty := tyC_new (m + 1) (n + 1) f t o hf ht hfit ho hm
    refine ⟨fun h => h.ends hty, fun hx => ?_⟩
    by_cases hb : x.k = -1
    · exact LoB_bot hb
    clear hty
    rw [newC]
    by_cases hs : relY escSame f t = true
    · rw [if_pos hs, LoB_none]; exact hx.1
    rw [if_neg hs]
    have hne : f ≠ t := fun e => hs (by rw [e]; exact same_refl t)
    rcases goodY_cases hf with ⟨k, rfl, hk⟩ | ⟨f1, f2, rfl, gf1, gf2⟩ <;> rcases goodY_cases ht with ⟨k', rfl, hk'⟩ | ⟨t1, t2, rfl, gt1, gt2⟩
    · have h3 : ¬ ((Ty.mk k []).k = 3 ∧ (Ty.mk k' []).k = 3) := by simp only; omega
      rw [if_neg h3]
      have hkk : k ≠ k' := fun e => hne (by rw [e])
      have hor : k = 0 ∨ k' = 0 := by
        have := fits_kind hfit
        simp only at this
        omega
      simp only
      split
      · rename_i h0
        have e1 : groundY (Ty.mk k []) = ⟨k, []⟩ := by simp only [groundY]; rw [if_neg (by omega)]
        have e2 : newC m ⟨k, []⟩ ⟨k, []⟩ o = none := by
          cases m with
          | zero => rfl
          | succ m => rw [newC, if_pos (same_refl _)]
        rw [e1, e2]
        have hxk := ((le_base (show k ≠ 0 by omega)).1 hx.1).resolve_left hb
        exact LoB_some.2 (.inr ⟨rfl, by rw [hxk]; rfl, fun h => by simp only [someC] at h; omega, fun _ => hxk⟩)
      · rename_i h0
        have hk0 : k = 0 := by omega
        subst hk0
        rw [if_pos rfl]
        have e1 : groundY (Ty.mk k' []) = ⟨k', []⟩ := by simp only [groundY]; rw [if_neg (by omega)]
        have e2 : newC m ⟨k', []⟩ ⟨k', []⟩ o = none := by
          cases m with
          | zero => rfl
          | succ m => rw [newC, if_pos (same_refl _)]
        rw [e1, e2]
        have hxk := ((le_base (show k' ≠ 0 by omega)).1 hx.2).resolve_left hb
        exact LoB_some.2 (.inr ⟨rfl, by rw [hxk]; rfl, fun h => by simp only [someC] at h; omega, fun _ => hxk⟩)
    · have h3 : ¬ ((Ty.mk k []).k = 3 ∧ (Ty.mk 3 [t1, t2]).k = 3) := by simp only; omega
      rw [if_neg h3]
      have hk0 : k = 0 := by
        have := fits_kind hfit
        simp only at this
        omega
      subst hk0
      simp only
      rw [if_neg (by omega), if_pos trivial]
      have e1 : groundY (Ty.mk 3 [t1, t2]) = funY anyY anyY := rfl
      rw [e1]
      have hg2 : goodY (n + 1) (funY anyY anyY) = true := by
        cases n with
        | zero => simp [goodY] at gt1
        | succ n => simp [goodY, funY, anyY]
      obtain ⟨x1, x2, rfl, l1, l2⟩ := (le_ofFun (t1 := t1) (t2 := t2) hx.2).resolve_left hb
      have ih := (LoB_new m (n + 1) (funY anyY anyY) ⟨3, [t1, t2]⟩ o (funY x1 x2) hg2 ht (by rw [funY, two _ _ _ _ _ rfl, anyY, any_left, any_left]; rfl) ho (by simp [funY] at hm ⊢; omega)).2 ⟨le_fun.2 ⟨le_any _, le_any _⟩, hx.2⟩
      have ty := tyC_new m (n + 1) (funY anyY anyY) ⟨3, [t1, t2]⟩ o hg2 ht (by rw [funY, two _ _ _ _ _ rfl, anyY, any_left, any_left]; rfl) ho (by simp [funY] at hm ⊢; omega)
      cases hc : newC m (funY anyY anyY) ⟨3, [t1, t2]⟩ o with
      | none =>
        rw [hc] at ty
        have e9 := tyC_none.1 ty
        have : funY anyY anyY = funY t1 t2 := e9
        obtain ⟨rfl, rfl⟩ := funY_inj this
        exact LoB_some.2 (.inr ⟨rfl, rfl, fun _ => ⟨x1, x2, rfl, LoB_none.2 l1, LoB_none.2 (le_any _)⟩, fun h => absurd rfl h⟩)
      | some c =>
        rw [hc] at ih ty
        obtain ⟨oo, w, k, e, g, a, h⟩ := c
        have hoo : oo = false := by
          obtain ⟨_, S1, _, hS, _⟩ := tyC_some.1 ty
          rcases hS with ⟨_, h, _⟩ | ⟨h, _⟩
          · simp [funY, anyY] at h
          · exact h
        subst hoo
        rcases LoB_some.1 ih with h | ⟨g1, g2, g3, g4⟩
        · exact absurd h hb
        · have hk3 : k = 3 := g2.symm
          subst hk3
          refine LoB_some.2 (.inr ⟨g1, g2, fun _ => ?_, g4⟩)
          obtain ⟨y1, y2, ey, b1, b2⟩ := g3 rfl
          exact ⟨y1, y2, ey, b1, b2⟩
    · have h3 : ¬ ((Ty.mk 3 [f1, f2]).k = 3 ∧ (Ty.mk k' []).k = 3) := by simp only; omega
      rw [if_neg h3]
      have hk0 : k' = 0 := by
        have := fits_kind hfit
        simp only at this
        omega
      subst hk0
      simp only
      rw [if_pos trivial]
      have e1 : groundY (Ty.mk 3 [f1, f2]) = funY anyY anyY := rfl
      rw [e1]
      have hg2 : goodY (n + 1) (funY anyY anyY) = true := by
        cases n with
        | zero => simp [goodY] at gf1
        | succ n => simp [goodY, funY, anyY]
      obtain ⟨x1, x2, rfl, l1, l2⟩ := (le_ofFun (t1 := f1) (t2 := f2) hx.1).resolve_left hb
      have ih := (LoB_new m (n + 1) ⟨3, [f1, f2]⟩ (funY anyY anyY) o (funY x1 x2) hf hg2 (by rw [funY, two _ _ _ _ _ rfl, anyY, any_right, any_right]; rfl) ho (by simp [funY] at hm ⊢; omega)).2 ⟨hx.1, le_fun.2 ⟨le_any _, le_any _⟩⟩
      have ty := tyC_new m (n + 1) ⟨3, [f1, f2]⟩ (funY anyY anyY) o hf hg2 (by rw [funY, two _ _ _ _ _ rfl, anyY, any_right, any_right]; rfl) ho (by simp [funY] at hm ⊢; omega)
      cases hc : newC m ⟨3, [f1, f2]⟩ (funY anyY anyY) o with
      | none =>
        rw [hc] at ty
        have : funY f1 f2 = funY anyY anyY := tyC_none.1 ty
        obtain ⟨rfl, rfl⟩ := funY_inj this
        exact LoB_some.2 (.inr ⟨rfl, rfl, fun _ => ⟨x1, x2, rfl, LoB_none.2 (le_any _), LoB_none.2 l2⟩, fun h => absurd rfl h⟩)
      | some c =>
        rw [hc] at ih ty
        obtain ⟨oo, w, k, e, g, a, h⟩ := c
        rcases LoB_some.1 ih with h | ⟨g1, g2, g3, g4⟩
        · exact absurd h hb
        · have hk3 : k = 3 := g2.symm
          subst hk3
          have hh : h = false ∨ h = true := by cases h <;> simp
          refine LoB_some.2 (.inr ⟨g1, g2, fun _ => ?_, g4⟩)
          obtain ⟨y1, y2, ey, b1, b2⟩ := g3 rfl
          have eT : (if h = true then gr 3 else funY anyY anyY) = gr 3 := by split <;> rfl
          rw [eT] at b1 b2
          exact ⟨y1, y2, ey, b1, b2⟩
    · rw [if_pos ⟨rfl, rfl⟩]
      rw [two _ _ _ _ _ rfl, Bool.and_eq_true] at hfit
      obtain ⟨x1, x2, rfl, l1, l2⟩ := (le_ofFun (t1 := f1) (t2 := f2) hx.1).resolve_left hb
      obtain ⟨l3, l4⟩ := le_fun.1 (show leY (funY x1 x2) (funY t1 t2) from hx.2)
      refine LoB_some.2 (.inr ⟨rfl, rfl, fun _ => ⟨x1, x2, rfl, ?_, ?_⟩, fun h => absurd rfl h⟩)
      · exact (LoB_new m n t1 f1 (turnO o) x1 gt1 gf1 (by rw [fits_sym n t1 f1 gt1 gf1]; exact hfit.1) ho (by split <;> (simp at hm; omega))).2 ⟨l3, l1⟩
      · exact (LoB_new m n f2 t2 _ x2 gf2 gt2 hfit.2 ho (by split <;> (simp at hm; omega))).2 ⟨l2, l4⟩
end Go.Proofs.YtnddkmccagiclabGreatDoor

/-
  What lies under a value, and what a cast leaves of it, in plain mathematics; no program in it.
-/
namespace Go.Proofs.YtnddkmccagiclabGreatDoor
/-- What is within, or the value itself. -/
def core1 (w : Val) : Val := match w.inn with
  | [u] => u
  | _ => w
theorem core1_eq {w : Val} (h : w.inn = [w.core]) : core1 w = w.core := by unfold core1; rw [h]
theorem core1_sz (w : Val) : SizeOf.sizeOf (core1 w) ≤ SizeOf.sizeOf w := by
  obtain ⟨k, n, b, e, i, g, a, s⟩ := w
  unfold core1
  match i with
  | [] => simp
  | [u] => simp; omega
  | u :: v :: r => simp
def stripV (w : Val) : Val := if w.k = 4 then core1 w else w
def coreV (v : Val) : Val := if v.k = 5 then stripV (core1 v) else stripV v
theorem stripV_sz (w : Val) : SizeOf.sizeOf (stripV w) ≤ SizeOf.sizeOf w := by
  unfold stripV; split
  · exact core1_sz w
  · exact Nat.le_refl _
theorem coreV_sz (w : Val) : SizeOf.sizeOf (coreV w) ≤ SizeOf.sizeOf w := by
  unfold coreV; split
  · exact Nat.le_trans (stripV_sz _) (core1_sz w)
  · exact stripV_sz w
/-- A core's type has its kind. -/
def cK (w : Val) (C : Ty) : Prop := (w.k = 1 ∧ C = numY) ∨ (w.k = 2 ∧ C = truthY) ∨ (w.k = 3 ∧ ∃ A B, C = funY A B)
def tyW (w : Val) (T C : Ty) : Prop := (w.k = 4 ∧ w.inn = [w.core] ∧ w.core.k = 3 ∧ ∃ A0 B0 A B, C = funY A0 B0 ∧ T = funY A B ∧ tyC w.given A A0 ∧ tyC w.answer B0 B) ∨ (T = C ∧ cK w C)
def tyX (v : Val) (T C : Ty) : Prop := (v.k = 5 ∧ T = anyY ∧ (v.as = 1 ∨ v.as = 2 ∨ v.as = 3) ∧ v.inn = [v.core] ∧ tyW v.core (gr v.as) C) ∨ tyW v T C
def LW (w : Val) (T C x : Ty) : Prop := if w.k = 4 then (x.k = -1 ∨ ∃ x1 x2, x = funY x1 x2 ∧ LoB w.given (P0 T) (P0 C) x1 ∧ LoB w.answer (P1 C) (P1 T) x2) else leY x C
/-- What lies under a value. -/
def LV (v : Val) (T C x : Ty) : Prop := if v.k = 5 then LW v.core (gr v.as) C x else LW v T C x
theorem tyW_k {w : Val} {T C : Ty} (h : tyW w T C) : w.k ≠ 5 := by
  rcases h with ⟨h, _⟩ | ⟨_, h | h | h⟩ <;> omega
theorem tyW_kind {w : Val} {T C : Ty} (h : tyW w T C) : T.k = C.k ∧ (C.k = 1 ∨ C.k = 2 ∨ C.k = 3) := by
  rcases h with ⟨_, _, _, A0, B0, A, B, rfl, rfl, _⟩ | ⟨rfl, ⟨_, rfl⟩ | ⟨_, rfl⟩ | ⟨_, A, B, rfl⟩⟩ <;> simp [funY, numY, truthY]
theorem LW_le {w : Val} {T C x : Ty} (h : tyW w T C) (hx : LW w T C x) : leY x T ∧ (x.k = -1 ∨ x.k = C.k) := by
  unfold LW at hx
  rcases h with ⟨h4, _, _, A0, B0, A, B, rfl, rfl, hg, ha⟩ | ⟨rfl, hc⟩
  · rw [if_pos h4] at hx
    rcases hx with hx | ⟨x1, x2, rfl, h1, h2⟩
    · exact ⟨le_bot hx, .inl hx⟩
    · exact ⟨le_fun.2 ⟨(h1.ends hg).1, (h2.ends ha).2⟩, .inr rfl⟩
  · rw [if_neg (by rcases hc with h | h | h <;> omega)] at hx
    refine ⟨hx, ?_⟩
    rcases hc with ⟨_, rfl⟩ | ⟨_, rfl⟩ | ⟨_, A, B, rfl⟩
    · rcases (le_base (k := 1) (by omega)).1 hx with h | h
      · exact .inl h
      · rw [h]; exact .inr rfl
    · rcases (le_base (k := 2) (by omega)).1 hx with h | h
      · exact .inl h
      · rw [h]; exact .inr rfl
    · rcases le_ofFun hx with h | ⟨x1, x2, rfl, _⟩
      · exact .inl h
      · exact .inr rfl
theorem LV_le {v : Val} {T C x : Ty} (h : tyX v T C) (hx : LV v T C x) : leY x T := by
  unfold LV at hx
  rcases h with ⟨h5, rfl, _⟩ | h
  · exact le_any x
  · rw [if_neg (tyW_k h)] at hx
    exact (LW_le h hx).1
/-- Something lies under a value. -/
theorem LW_four {w : Val} {T C x : Ty} (h : w.k = 4) : LW w T C x ↔ (x.k = -1 ∨ ∃ x1 x2, x = funY x1 x2 ∧ LoB w.given (P0 T) (P0 C) x1 ∧ LoB w.answer (P1 C) (P1 T) x2) := by unfold LW; rw [if_pos h]
theorem LW_else {w : Val} {T C x : Ty} (h : w.k ≠ 4) : LW w T C x ↔ leY x C := by unfold LW; rw [if_neg h]
theorem LV_five {v : Val} {T C x : Ty} (h : v.k = 5) : LV v T C x ↔ LW v.core (gr v.as) C x := by unfold LV; rw [if_pos h]
theorem LV_else {v : Val} {T C x : Ty} (h : v.k ≠ 5) : LV v T C x ↔ LW v T C x := by unfold LV; rw [if_neg h]
theorem LW_ex {w : Val} {T C : Ty} (h : tyW w T C) : ∃ x : Ty, x.k ≠ -1 ∧ LW w T C x := by
  rcases h with ⟨h4, _, _, A0, B0, A, B, rfl, rfl, hg, ha⟩ | ⟨rfl, hc⟩
  · exact ⟨funY botY botY, by simp [funY], (LW_four h4).2 (.inr ⟨botY, botY, rfl, LoB_bot rfl, LoB_bot rfl⟩)⟩
  · have h4 : w.k ≠ 4 := by rcases hc with h | h | h <;> omega
    rcases hc with ⟨_, rfl⟩ | ⟨_, rfl⟩ | ⟨_, A, B, rfl⟩
    · exact ⟨numY, by simp [numY], (LW_else h4).2 ((le_base (k := 1) (by omega)).2 (.inr rfl))⟩
    · exact ⟨truthY, by simp [truthY], (LW_else h4).2 ((le_base (k := 2) (by omega)).2 (.inr rfl))⟩
    · exact ⟨funY botY botY, by simp [funY], (LW_else h4).2 (le_fun.2 ⟨le_bot rfl, le_bot rfl⟩)⟩
theorem LV_ex {v : Val} {T C : Ty} (h : tyX v T C) : ∃ x : Ty, x.k ≠ -1 ∧ LV v T C x := by
  rcases h with ⟨h5, rfl, _, _, h⟩ | h
  · obtain ⟨x, h1, h2⟩ := LW_ex h
    exact ⟨x, h1, (LV_five h5).2 h2⟩
  · obtain ⟨x, h1, h2⟩ := LW_ex h
    exact ⟨x, h1, (LV_else (tyW_k h)).2 h2⟩
theorem stripV_chap (v : Val) (g a : Option Ca) : stripV (chapV v g a) = v := by simp [stripV, chapV, core1]
theorem coreV_known (v : Val) (k : Int) : coreV (knownV v k) = stripV v := by simp [coreV, knownV, core1]
/-- A function that is cast along. -/
theorem accomp_lo {w : Val} {c : Ca} {s1 s2 t1 t2 C : Ty} (h : tyW w (funY s1 s2) C) (hg : tyC c.given t1 s1) (ha : tyC c.answer s2 t2) :
    tyW (accompV w c) (funY t1 t2) C ∧ stripV (accompV w c) = stripV w ∧ ∀ x, LW (accompV w c) (funY t1 t2) C x ↔ LW w (funY s1 s2) C x ∧ (x.k = -1 ∨ ∃ x1 x2, x = funY x1 x2 ∧ LoB c.given t1 s1 x1 ∧ LoB c.answer s2 t2 x2) := by
  rcases h with ⟨h4, hi, hc3, A0, B0, A, B, rfl, hT, hg', ha'⟩ | ⟨rfl, hc⟩
  · obtain ⟨rfl, rfl⟩ := funY_inj hT
    have e : accompV w c = chapV w.core (thenC c.given w.given) (thenC w.answer c.answer) := by unfold accompV; rw [if_pos h4]
    rw [e]
    refine ⟨.inl ⟨rfl, rfl, hc3, A0, B0, t1, t2, rfl, rfl, tyC_thens hg hg', tyC_thens ha' ha⟩, ?_, fun x => ?_⟩
    · rw [stripV_chap]
      unfold stripV
      rw [if_pos h4, core1_eq hi]
    · rw [LW_four h4, LW_four (w := chapV w.core (thenC c.given w.given) (thenC w.answer c.answer)) rfl]
      simp only [chapV, P0_fun, P1_fun]
      constructor
      · rintro (h | ⟨x1, x2, rfl, h1, h2⟩)
        · exact ⟨.inl h, .inl h⟩
        · obtain ⟨a1, a2⟩ := (LoB_thens hg hg').1 h1
          obtain ⟨b1, b2⟩ := (LoB_thens ha' ha).1 h2
          exact ⟨.inr ⟨x1, x2, rfl, a2, b1⟩, .inr ⟨x1, x2, rfl, a1, b2⟩⟩
      · rintro ⟨h | ⟨x1, x2, rfl, h1, h2⟩, h' | ⟨y1, y2, ey, h3, h4⟩⟩
        · exact .inl h
        · exact .inl h
        · exact .inl h'
        · obtain ⟨rfl, rfl⟩ := funY_inj ey
          exact .inr ⟨x1, x2, rfl, (LoB_thens hg hg').2 ⟨h3, h1⟩, (LoB_thens ha' ha).2 ⟨h2, h4⟩⟩
  · have hk : w.k = 3 := by
      rcases hc with ⟨_, h⟩ | ⟨_, h⟩ | ⟨h, _⟩
      · simp [funY, numY] at h
      · simp [funY, truthY] at h
      · exact h
    have e : accompV w c = chapV w c.given c.answer := by unfold accompV; rw [if_neg (by omega)]
    rw [e]
    refine ⟨.inl ⟨rfl, rfl, hk, s1, s2, t1, t2, rfl, rfl, hg, ha⟩, ?_, fun x => ?_⟩
    · rw [stripV_chap]
      unfold stripV
      rw [if_neg (by omega)]
    · rw [LW_else (show w.k ≠ 4 by omega), LW_four (w := chapV w c.given c.answer) rfl]
      simp only [chapV, P0_fun, P1_fun]
      constructor
      · rintro (h | ⟨x1, x2, rfl, h1, h2⟩)
        · exact ⟨le_bot h, .inl h⟩
        · exact ⟨le_fun.2 ⟨(h1.ends hg).2, (h2.ends ha).1⟩, .inr ⟨x1, x2, rfl, h1, h2⟩⟩
      · exact fun h => h.2
/-- A value that is cast: what lies under it then is what lay under it and passes the cast; or somebody is blamed, and nothing did. -/
theorem change_lo {s : St} {c : Option Ca} {v : Val} {S T C : Ty} (hc : tyC c S T) (hv : tyX v S C) :
    (∃ u, changeS s c v = s.push u ∧ tyX u T C ∧ coreV u = coreV v ∧ ∀ x, LV u T C x ↔ LV v S C x ∧ LoB c S T x) ∨ ∃ o : Out, changeS s c v = s.stop o ∧ o.k = 4 ∧ ∀ x, LV v S C x → LoB c S T x → x.k = -1 := by
  cases c with
  | none =>
    have := tyC_none.1 hc
    subst this
    exact .inl ⟨v, rfl, hv, rfl, fun x => ⟨fun h => ⟨h, LoB_none.2 (LV_le hv h)⟩, fun h => h.1⟩⟩
  | some c =>
    obtain ⟨o, w, k, e, g, a, h⟩ := c
    obtain ⟨hk, S1, T1, hS, hS1, he⟩ := tyC_some.1 hc
    have eS : (if o = true then gr k else S) = S1 := by
      rcases hS with ⟨rfl, _, rfl, _⟩ | ⟨rfl, rfl⟩ <;> simp
    obtain ⟨z, hz⟩ : ∃ z, z = if o = true then v.core else v := ⟨_, rfl⟩
    have h1 : (∃ o', changeS s (some ⟨o, w, k, e, g, a, h⟩) v = s.stop o' ∧ o'.k = 4 ∧ ∀ x, LV v S C x → LoB (some ⟨o, w, k, e, g, a, h⟩) S T x → x.k = -1) ∨ ((o = true → v.k = 5 ∧ v.as = k) ∧ tyW z S1 C ∧ (∀ x, LV v S C x ↔ LW z S1 C x) ∧ stripV z = coreV v) := by
      rcases hS with ⟨rfl, rfl, rfl, hw⟩ | ⟨rfl, rfl⟩
      · rw [if_pos rfl] at hz
        subst hz
        have hv' : v.k = 5 ∧ (v.as = 1 ∨ v.as = 2 ∨ v.as = 3) ∧ v.inn = [v.core] ∧ tyW v.core (gr v.as) C := by
          rcases hv with ⟨h5, _, h⟩ | h
          · exact ⟨h5, h⟩
          · have := tyW_kind h
            simp [anyY] at this
            omega
        obtain ⟨h5, has, hi, hcore⟩ := hv'
        by_cases hak : v.as = k
        · right
          refine ⟨fun _ => ⟨h5, hak⟩, by rw [← hak]; exact hcore, fun x => ?_, ?_⟩
          · unfold LV; rw [if_pos h5, hak]
          · unfold coreV; rw [if_pos h5, core1_eq hi]
        · left
          refine ⟨w, ?_, hw, fun x hx hl => ?_⟩
          · simp only [changeS]
            rw [if_neg (fun h => h.2 h5), if_pos ⟨by trivial, hak⟩]
          · unfold LV at hx
            rw [if_pos h5] at hx
            have b1 := (LW_le hcore hx).2
            have b2 := (tyW_kind hcore).1
            rw [gr_k] at b2
            rcases LoB_some.1 hl with h | h
            · exact h
            · rcases b1 with b1 | b1
              · exact b1
              · omega
      · right
        rw [if_neg (by simp)] at hz
        subst hz
        have hz' : tyW z S C := by
          rcases hv with ⟨_, h, _⟩ | h
          · have := half_k hS1
            rw [h] at this
            simp [anyY] at this
            omega
          · exact h
        refine ⟨fun h => (by cases h), hz', fun x => ?_, ?_⟩
        · unfold LV; rw [if_neg (tyW_k hz')]
        · unfold coreV; rw [if_neg (tyW_k hz')]
    rcases h1 with h1 | ⟨hopen, hv1, hlv, hst⟩
    · exact .inr h1
    have e1 : changeS s (some ⟨o, w, k, e, g, a, h⟩) v = if e.k ≠ 0 then s.stop e else s.push (ofC ⟨o, w, k, e, g, a, h⟩ v) := by
      simp only [changeS]
      rw [if_neg (fun h => h.2 (hopen h.1).1), if_neg (fun h => h.2 (hopen h.1).2)]
    rw [e1]
    rcases he with he | ⟨he, hT, hp⟩
    · right
      refine ⟨e, by rw [if_pos (by omega)], he, fun x _ hl => ?_⟩
      rcases LoB_some.1 hl with h | h
      · exact h
      · omega
    · left
      have eT : (if h = true then gr k else T) = T1 := by
        rcases hT with ⟨rfl, _, rfl⟩ | ⟨rfl, rfl⟩ <;> simp
      have hLB : ∀ x, LoB (some ⟨o, w, k, e, g, a, h⟩) S T x ↔ x.k = -1 ∨ (e.k = 0 ∧ x.k = k ∧ (k = 3 → ∃ x1 x2, x = funY x1 x2 ∧ LoB g (P0 T1) (P0 S1) x1 ∧ LoB a (P1 S1) (P1 T1) x2) ∧ (k ≠ 3 → x = ⟨k, []⟩)) := fun x => by rw [LoB_some, eS, eT]
      refine ⟨_, by rw [if_neg (by omega)], ?_⟩
      obtain ⟨z2, hz2⟩ : ∃ z2, z2 = (if g.isSome = true ∨ a.isSome = true then accompV z ⟨o, w, k, e, g, a, h⟩ else z) := ⟨_, rfl⟩
      have h2 : tyW z2 T1 C ∧ stripV z2 = stripV z ∧ ∀ x, LW z2 T1 C x ↔ LW z S1 C x ∧ LoB (some ⟨o, w, k, e, g, a, h⟩) S T x := by
        rcases hp with ⟨k3, rfl, rfl, rfl⟩ | ⟨rfl, s1, s2, t1, t2, rfl, rfl, hg, ha⟩
        · rcases hS1 with ⟨_, rfl⟩ | ⟨h, _⟩
          · rw [if_neg (by simp)] at hz2
            subst hz2
            refine ⟨hv1, rfl, fun x => ⟨fun hx => ⟨hx, (hLB x).2 ?_⟩, fun h => h.1⟩⟩
            rcases (le_base (by omega)).1 (LW_le hv1 hx).1 with hb | hb
            · exact .inl hb
            · exact .inr ⟨he, by rw [hb], fun h => absurd h k3, fun _ => hb⟩
          · omega
        · have hLB' : ∀ x, LoB (some ⟨o, w, 3, e, g, a, h⟩) S T x ↔ (x.k = -1 ∨ ∃ x1 x2, x = funY x1 x2 ∧ LoB g t1 s1 x1 ∧ LoB a s2 t2 x2) := fun x => by
            rw [hLB x]
            constructor
            · rintro (h | ⟨_, _, h3, _⟩)
              · exact .inl h
              · exact .inr (h3 rfl)
            · rintro (h | ⟨x1, x2, rfl, h1, h2⟩)
              · exact .inl h
              · exact .inr ⟨he, rfl, fun _ => ⟨x1, x2, rfl, h1, h2⟩, fun h => absurd rfl h⟩
          split at hz2
          · subst hz2
            have := accomp_lo (c := ⟨o, w, 3, e, g, a, h⟩) hv1 hg ha
            exact ⟨this.1, this.2.1, fun x => by rw [this.2.2 x, hLB' x]⟩
          · rename_i hn
            subst hz2
            have hg0 : g = none := by cases g with
              | none => rfl
              | some x => exact absurd (.inl rfl) hn
            have ha0 : a = none := by cases a with
              | none => rfl
              | some x => exact absurd (.inr rfl) hn
            subst hg0 ha0
            have q1 := tyC_none.1 hg
            have q2 := tyC_none.1 ha
            subst q1 q2
            refine ⟨hv1, rfl, fun x => ⟨fun hx => ⟨hx, (hLB' x).2 ?_⟩, fun h => h.1⟩⟩
            rcases le_ofFun (LW_le hv1 hx).1 with hb | ⟨x1, x2, rfl, b1, b2⟩
            · exact .inl hb
            · exact .inr ⟨x1, x2, rfl, LoB_none.2 b1, LoB_none.2 b2⟩
      have e2 : ofC ⟨o, w, k, e, g, a, h⟩ v = if h = true then knownV z2 k else z2 := by
        simp only [ofC]
        rw [hz2, hz]
      rw [e2]
      obtain ⟨j1, j2, j3⟩ := h2
      rcases hT with ⟨rfl, rfl, rfl⟩ | ⟨rfl, rfl⟩
      · rw [if_pos rfl]
        refine ⟨.inl ⟨rfl, rfl, hk, rfl, j1⟩, ?_, fun x => ?_⟩
        · rw [← hst, ← j2, coreV_known]
        · rw [hlv x, ← j3 x, LV_five (v := knownV z2 k) rfl]; exact Iff.rfl
      · rw [if_neg (by simp)]
        refine ⟨.inr j1, ?_, fun x => ?_⟩
        · rw [← hst, ← j2]; unfold coreV; rw [if_neg (tyW_k j1)]
        · rw [hlv x, ← j3 x]; unfold LV; rw [if_neg (tyW_k j1)]
end Go.Proofs.YtnddkmccagiclabGreatDoor

/-
  Two machines side by side, the one's term saying more than the other's, in plain mathematics: what stands for what; no program in it.
-/
namespace Go.Proofs.YtnddkmccagiclabGreatDoor
/-- A type says at least as much as another one. -/
def leF (a b : Ty) : Prop := ∀ x, leY x a → leY x b
/-- A part: a term, cast to the type that is asked, or not at all. -/
def prt (p z : Tm) (c : Int) (i u : Ty) : Prop := (p = z ∧ i = u) ∨ (p = ⟨10, c, u, i, [z]⟩ ∧ relY escFits i u = true ∧ goodY 46 i = true ∧ goodY 46 u = true)
theorem prt_sz {p z : Tm} {c : Int} {i u : Ty} (h : prt p z c i u) : SizeOf.sizeOf z ≤ SizeOf.sizeOf p := by
  rcases h with ⟨rfl, _⟩ | ⟨rfl, _⟩
  · exact Nat.le_refl _
  · simp; omega
/-- A term with its casts beside one that says less. -/
def RM : Tm → List Ty → Ty → Tm → List Ty → Ty → Prop
  | ⟨k, n, t, f, l⟩, G, i, y', G', i' => ∃ us us' : List Ty, l.length = us.length ∧ y'.l.length = us'.length ∧ us.length = us'.length ∧ y'.k = k ∧ y'.n = n ∧ k ≠ 10 ∧ ruleT k n t f us G i ∧ ruleT k n y'.t y'.f us' G' i' ∧ leF i i' ∧
      ∀ j (h : j < l.length) (h1 : j < us.length) (h2 : j < us'.length), leF us[j] us'[j] ∧ ∃ z c iz z' c' iz', ∃ _hp : prt l[j] z c iz us[j], prt (y'.at j) z' c' iz' us'[j] ∧ RM z (if k = 7 then t :: G else G) iz z' (if k = 7 then y'.t :: G' else G') iz'
  termination_by x => SizeOf.sizeOf x
  decreasing_by
    have h1 := prt_sz _hp
    have h2 := List.sizeOf_lt_of_mem (List.getElem_mem h)
    simp; omega
/-- The same of parts. -/
def RP (p : Tm) (G : List Ty) (u : Ty) (p' : Tm) (G' : List Ty) (u' : Ty) : Prop := leF u u' ∧ ∃ z c iz z' c' iz', ∃ _hp : prt p z c iz u, prt p' z' c' iz' u' ∧ RM z G iz z' G' iz'
theorem RM_parts {x : Tm} {G : List Ty} {i : Ty} {y' : Tm} {G' : List Ty} {i' : Ty} (h : RM x G i y' G' i') : ∃ us us' : List Ty, us.length = us'.length ∧ y'.k = x.k ∧ y'.n = x.n ∧ x.k ≠ 10 ∧ ruleT x.k x.n x.t x.f us G i ∧ ruleT x.k x.n y'.t y'.f us' G' i' ∧ leF i i' ∧
    ∀ j (h1 : j < us.length) (h2 : j < us'.length), RP (x.at j) (if x.k = 7 then x.t :: G else G) us[j] (y'.at j) (if x.k = 7 then y'.t :: G' else G') us'[j] := by
  obtain ⟨k, n, t, f, l⟩ := x
  rw [RM] at h
  obtain ⟨us, us', e1, e2, e3, e4, e5, e6, e7, e8, e9, hp⟩ := h
  refine ⟨us, us', e3, e4, e5, e6, e7, e8, e9, fun j h1 h2 => ?_⟩
  have hj : j < l.length := by omega
  rw [Tm.at_eq (x := ⟨k, n, t, f, l⟩) hj]
  exact hp j hj h1 h2
theorem RM_leF {x : Tm} {G : List Ty} {i : Ty} {y' : Tm} {G' : List Ty} {i' : Ty} (h : RM x G i y' G' i') : leF i i' := by
  obtain ⟨_, _, _, _, _, _, _, _, h, _⟩ := RM_parts h
  exact h
/-- A core beside another one. -/
def RU : Val → Ty → Val → Ty → Prop
  | ⟨k, n, b, e, _, _, _, _⟩, C, u', C' => (k ≠ 3 ∧ u'.k = k ∧ u'.n = n) ∨ (k = 3 ∧ u'.k = 3 ∧ ∃ A B G A' B' G', C = funY A B ∧ C' = funY A' B' ∧ RP b (A :: G) B u'.body (A' :: G') B' ∧ e.length = G.length ∧ u'.env.length = G'.length ∧ G.length = G'.length ∧
      ∀ j (h : j < e.length) (h0 : j < u'.env.length) (h1 : j < G.length) (h2 : j < G'.length), ∃ D D', tyX e[j] G[j] D ∧ tyX u'.env[j] G'[j] D' ∧ (∀ x, LV e[j] G[j] D x → LV u'.env[j] G'[j] D' x) ∧ RU (coreV e[j]) D (coreV u'.env[j]) D')
  termination_by v => SizeOf.sizeOf v
  decreasing_by
    have h3 := coreV_sz e[j]
    have h4 := List.sizeOf_lt_of_mem (List.getElem_mem h)
    simp; omega
/-- A value beside another one. -/
def RV (v : Val) (T : Ty) (v' : Val) (T' : Ty) : Prop := ∃ D D', tyX v T D ∧ tyX v' T' D' ∧ (∀ x, LV v T D x → LV v' T' D' x) ∧ RU (coreV v) D (coreV v') D'
def RE (e : List Val) (G : List Ty) (e' : List Val) (G' : List Ty) : Prop := e.length = G.length ∧ e'.length = G'.length ∧ G.length = G'.length ∧ ∀ j (_ : j < e.length) (_ : j < e'.length) (_ : j < G.length) (_ : j < G'.length), RV e[j] G[j] e'[j] G'[j]
theorem RU_base {u u' : Val} {C C' : Ty} (h : RU u C u' C') (hk : u.k ≠ 3) : u'.k = u.k ∧ u'.n = u.n := by
  obtain ⟨k, n, b, e, i, g, a, s⟩ := u
  rw [RU] at h
  rcases h with ⟨_, h⟩ | ⟨h, _⟩
  · exact h
  · exact absurd h hk
theorem RU_mkBase {u u' : Val} {C C' : Ty} (hk : u.k ≠ 3) (h : u'.k = u.k) (hn : u'.n = u.n) : RU u C u' C' := by
  obtain ⟨k, n, b, e, i, g, a, s⟩ := u
  rw [RU]
  exact .inl ⟨hk, h, hn⟩
theorem RU_fun {u u' : Val} {C C' : Ty} (h : RU u C u' C') (hk : u.k = 3) : u'.k = 3 ∧ ∃ A B G A' B' G', C = funY A B ∧ C' = funY A' B' ∧ RP u.body (A :: G) B u'.body (A' :: G') B' ∧ RE u.env G u'.env G' := by
  obtain ⟨k, n, b, e, i, g, a, s⟩ := u
  rw [RU] at h
  rcases h with ⟨h, _⟩ | ⟨_, h3, A, B, G, A', B', G', e1, e2, e3, e4, e5, e6, e7⟩
  · exact absurd hk h
  · exact ⟨h3, A, B, G, A', B', G', e1, e2, e3, e4, e5, e6, fun j h1 h2 h3 h4 => e7 j h1 h2 h3 h4⟩
theorem RU_mkFun {b b' : Tm} {e e' : List Val} {A B A' B' : Ty} {G G' : List Ty} (hb : RP b (A :: G) B b' (A' :: G') B') (he : RE e G e' G') : RU (funV b e) (funY A B) (funV b' e') (funY A' B') := by
  unfold funV
  rw [RU]
  exact .inr ⟨rfl, rfl, A, B, G, A', B', G', rfl, rfl, hb, he.1, he.2.1, he.2.2.1, fun j h1 h2 h3 h4 => he.2.2.2 j h1 h2 h3 h4⟩
theorem RE_cons {v v' : Val} {T T' : Ty} {e e' : List Val} {G G' : List Ty} (hv : RV v T v' T') (h : RE e G e' G') : RE (v :: e) (T :: G) (v' :: e') (T' :: G') := by
  refine ⟨by simp [h.1], by simp [h.2.1], by simp [h.2.2.1], fun j h1 h2 h3 h4 => ?_⟩
  match j with
  | 0 => exact hv
  | j + 1 => exact h.2.2.2 j (by simpa using h1) (by simpa using h2) (by simpa using h3) (by simpa using h4)
theorem RE_one {e e' : List Val} {T T' : Ty} {G G' : List Ty} (h : RE e (T :: G) e' (T' :: G')) : ∃ v r v' r', e = v :: r ∧ e' = v' :: r' ∧ RV v T v' T' ∧ RE r G r' G' := by
  obtain ⟨h1, h2, h3, h4⟩ := h
  match e, e', h1, h2, h3, h4 with
  | [], _, h1, _, _, _ => simp at h1
  | _ :: _, [], _, h2, _, _ => simp at h2
  | v :: r, v' :: r', h1, h2, h3, h4 =>
    refine ⟨v, r, v', r', rfl, rfl, h4 0 (by simp) (by simp) (by simp) (by simp), by simpa using h1, by simpa using h2, by simpa using h3, fun j a b c d => ?_⟩
    exact h4 (j + 1) (by simpa using a) (by simpa using b) (by simpa using c) (by simpa using d)
theorem RE_at {e e' : List Val} {G G' : List Ty} (h : RE e G e' G') {j : Nat} {T T' : Ty} (h1 : G[j]? = some T) (h2 : G'[j]? = some T') : ∃ v v', e[j]? = some v ∧ e'[j]? = some v' ∧ RV v T v' T' := by
  obtain ⟨a1, rfl⟩ := List.getElem?_eq_some_iff.1 h1
  obtain ⟨a2, rfl⟩ := List.getElem?_eq_some_iff.1 h2
  have b1 : j < e.length := by rw [h.1]; exact a1
  have b2 : j < e'.length := by rw [h.2.1]; exact a2
  exact ⟨e[j], e'[j], List.getElem?_eq_getElem b1, List.getElem?_eq_getElem b2, h.2.2.2 j b1 b2 a1 a2⟩
/-- Casts that wait. -/
def chT (p : Option Ca × Ty) : Task := changeT p.1
def tyL : List (Option Ca × Ty) → Ty → Ty → Prop
  | [], T, U => T = U
  | p :: r, T, U => tyC p.1 T p.2 ∧ tyL r p.2 U
def LL : List (Option Ca × Ty) → Ty → Ty → Prop
  | [], _, _ => True
  | p :: r, T, x => LoB p.1 T p.2 x ∧ LL r p.2 x
theorem LL_bot : ∀ (cs : List (Option Ca × Ty)) (T x : Ty), x.k = -1 → LL cs T x
  | [], _, _, _ => trivial
  | p :: r, _, x, h => ⟨LoB_bot h, LL_bot r p.2 x h⟩
theorem tyL_append : ∀ (a b : List (Option Ca × Ty)) (S T U : Ty), tyL a S T → tyL b T U → tyL (a ++ b) S U
  | [], b, S, T, U, h1, h2 => by rw [show S = T from h1]; exact h2
  | p :: r, b, S, T, U, h1, h2 => ⟨h1.1, tyL_append r b p.2 T U h1.2 h2⟩
theorem LL_append : ∀ (a b : List (Option Ca × Ty)) (S T x : Ty), tyL a S T → (LL (a ++ b) S x ↔ LL a S x ∧ LL b T x)
  | [], b, S, T, x, h1 => by rw [show S = T from h1]; simp [LL]
  | p :: r, b, S, T, x, h1 => by
    have := LL_append r b p.2 T x h1.2
    simp only [List.cons_append, LL, this, and_assoc]
theorem LL_le : ∀ (cs : List (Option Ca × Ty)) (T U x : Ty), tyL cs T U → leY x T → LL cs T x → leY x U
  | [], T, U, x, h, hx, _ => by rw [← show T = U from h]; exact hx
  | p :: r, T, U, x, h, _, hl => LL_le r p.2 U x h.2 (hl.1.ends h.1).2 hl.2
/-- What goes on with a value of a type, beside what goes on with the other one's. -/
def RC (R : List Task → List Ty → List Task → List Ty → Prop) (i : Ty) (r : List Task) (q : List Ty) (i' : Ty) (r' : List Task) (q' : List Ty) : Prop :=
  ∃ (cs cs' : List (Option Ca × Ty)) (U U' : Ty) (rest rest' : List Task), tyL cs i U ∧ tyL cs' i' U' ∧ (∀ x, leY x i → LL cs i x → LL cs' i' x) ∧ r = cs.map chT ++ rest ∧ r' = cs'.map chT ++ rest' ∧ R rest (U :: q) rest' (U' :: q')
def exT (p : Tm) (r : List Task) (z : Tm) (rr : List Task) : Prop := (p = z ∧ rr = r) ∨ ∃ c u i, p = ⟨10, c, u, i, [z]⟩ ∧ rr = changeT (newC 100 i u (blameO c)) :: r
/-- What is to be done, beside what is to be done. -/
def RT : Nat → List Task → List Ty → List Task → List Ty → Prop
  | 0, _, _, _, _ => False
  | n + 1, ts, q, ts', q' => (ts = [] ∧ ts' = []) ∨ ∃ t r t' r', ts = t :: r ∧ ts' = t' :: r' ∧
    ((t.d = 1 ∧ t'.d = 1 ∧ ∃ G G' i i' z z' rr rr', RM z G i z' G' i' ∧ RE t.s G t'.s G' ∧ exT t.x r z rr ∧ exT t'.x r' z' rr' ∧ RC (fun a b c d => RT n a b c d) i rr q i' rr' q') ∨
     (t.d = 2 ∧ t'.d = 2 ∧ ∃ p p', q = numY :: numY :: p ∧ q' = numY :: numY :: p' ∧ RC (fun a b c d => RT n a b c d) numY r p numY r' p') ∨
     (t.d = 3 ∧ t'.d = 3 ∧ ∃ p p', q = numY :: numY :: p ∧ q' = numY :: numY :: p' ∧ RC (fun a b c d => RT n a b c d) truthY r p truthY r' p') ∨
     (t.d = 4 ∧ t'.d = 4 ∧ ∃ G G' i i' p p', q = truthY :: p ∧ q' = truthY :: p' ∧ RP (t.x.at 1) G i (t'.x.at 1) G' i' ∧ RP (t.x.at 2) G i (t'.x.at 2) G' i' ∧ RE t.s G t'.s G' ∧ RC (fun a b c d => RT n a b c d) i r p i' r' p') ∨
     ((t.d = 5 ∨ t.d = 7) ∧ (t'.d = 5 ∨ t'.d = 7) ∧ ∃ a b a' b' p p', q = a :: funY a b :: p ∧ q' = a' :: funY a' b' :: p' ∧ RC (fun a b c d => RT n a b c d) b r p b' r' p'))
theorem RC_nil {R : List Task → List Ty → List Task → List Ty → Prop} {i i' : Ty} {r r' : List Task} {q q' : List Ty} (h : R r (i :: q) r' (i' :: q')) : RC R i r q i' r' q' :=
  ⟨[], [], i, i', r, r', rfl, rfl, fun _ _ _ => trivial, rfl, rfl, h⟩
/-- A part that is looked at. -/
theorem RT_look {n : Nat} {p p' : Tm} {G G' : List Ty} {u u' : Ty} {e e' : List Val} {r r' : List Task} {q q' : List Ty} (hp : RP p G u p' G' u') (he : RE e G e' G') (hc : RC (fun a b c d => RT n a b c d) u r q u' r' q') : RT (n + 1) (lookT p e :: r) q (lookT p' e' :: r') q' := by
  obtain ⟨hu, z, c, iz, z', c', iz', h1, h2, hz⟩ := hp
  obtain ⟨cs, cs', U, U', rest, rest', t1, t2, t3, rfl, rfl, t4⟩ := hc
  have hi := RM_leF hz
  have hnew : ∀ (i u : Ty) (c : Int) (x : Ty), relY escFits i u = true → goodY 46 i = true → goodY 46 u = true → (tyC (newC 100 i u (blameO c)) i u ∧ (LoB (newC 100 i u (blameO c)) i u x ↔ leY x i ∧ leY x u)) := fun i u c x f1 g1 g2 =>
    ⟨tyC_new 100 46 i u _ g1 g2 f1 rfl (by split <;> omega), LoB_new 100 46 i u _ x g1 g2 f1 rfl (by split <;> omega)⟩
  refine .inr ⟨_, _, _, _, rfl, rfl, .inl ⟨rfl, rfl, G, G', iz, iz', z, z', ?_⟩⟩
  rcases h1 with ⟨rfl, rfl⟩ | ⟨rfl, f1, g1, g2⟩ <;> rcases h2 with ⟨rfl, rfl⟩ | ⟨rfl, f1', g1', g2'⟩
  · exact ⟨_, _, hz, he, .inl ⟨rfl, rfl⟩, .inl ⟨rfl, rfl⟩, cs, cs', U, U', rest, rest', t1, t2, t3, rfl, rfl, t4⟩
  · refine ⟨_, _, hz, he, .inl ⟨rfl, rfl⟩, .inr ⟨c', u', iz', rfl, rfl⟩, cs, (_, u') :: cs', U, U', rest, rest', t1, ⟨(hnew iz' u' c' iz f1' g1' g2').1, t2⟩, fun x hx hl => ⟨((hnew iz' u' c' x f1' g1' g2').2).2 ⟨hi x hx, hu x hx⟩, t3 x hx hl⟩, rfl, rfl, t4⟩
  · refine ⟨_, _, hz, he, .inr ⟨c, u, iz, rfl, rfl⟩, .inl ⟨rfl, rfl⟩, (_, u) :: cs, cs', U, U', rest, rest', ⟨(hnew iz u c iz f1 g1 g2).1, t1⟩, t2, fun x hx hl => ?_, rfl, rfl, t4⟩
    exact t3 x (((hnew iz u c x f1 g1 g2).2).1 hl.1).2 hl.2
  · refine ⟨_, _, hz, he, .inr ⟨c, u, iz, rfl, rfl⟩, .inr ⟨c', u', iz', rfl, rfl⟩, (_, u) :: cs, (_, u') :: cs', U, U', rest, rest', ⟨(hnew iz u c iz f1 g1 g2).1, t1⟩, ⟨(hnew iz' u' c' iz f1' g1' g2').1, t2⟩, fun x hx hl => ?_, rfl, rfl, t4⟩
    have hxu := (((hnew iz u c x f1 g1 g2).2).1 hl.1).2
    exact ⟨((hnew iz' u' c' x f1' g1' g2').2).2 ⟨hi x hx, hu x hxu⟩, t3 x hxu hl.2⟩
/-- What a function that is called asks of what it is given and makes of what it answers. -/
theorem fun_view {f : Val} {a b D : Ty} (h : tyX f (funY a b) D) : ∃ (A0 B0 : Ty) (pg pa : List (Option Ca × Ty)), D = funY A0 B0 ∧ tyL pg a A0 ∧ tyL pa B0 b ∧
    (∀ x1 x2, LV f (funY a b) D (funY x1 x2) → LL pg a x1 ∧ LL pa B0 x2) ∧ (∀ x1 x2, leY x1 a → leY x2 b → LL pg a x1 → LL pa B0 x2 → LV f (funY a b) D (funY x1 x2)) ∧
    ((f.k = 4 ∧ f.inn = [f.core] ∧ f.core.k = 3 ∧ coreV f = f.core ∧ pg.map chT = [changeT f.given] ∧ pa.map chT = [changeT f.answer]) ∨ (f.k = 3 ∧ coreV f = f ∧ pg = [] ∧ pa = [])) := by
  rcases h with ⟨_, h, _⟩ | h
  · simp [funY, anyY] at h
  have h5 := tyW_k h
  rcases h with ⟨h4, hi, h3, A0, B0, A, B, rfl, hT, hg, ha⟩ | ⟨rfl, hc⟩
  · obtain ⟨rfl, rfl⟩ := funY_inj hT
    have hlv : ∀ x1 x2, LV f (funY a b) (funY A0 B0) (funY x1 x2) ↔ LoB f.given a A0 x1 ∧ LoB f.answer B0 b x2 := fun x1 x2 => by
      rw [LV_else h5, LW_four h4]
      simp only [P0_fun, P1_fun]
      constructor
      · rintro (h | ⟨y1, y2, ey, h1, h2⟩)
        · simp [funY] at h
        · obtain ⟨rfl, rfl⟩ := funY_inj ey
          exact ⟨h1, h2⟩
      · exact fun h => .inr ⟨x1, x2, rfl, h.1, h.2⟩
    refine ⟨A0, B0, [(f.given, A0)], [(f.answer, b)], rfl, ⟨hg, rfl⟩, ⟨ha, rfl⟩, fun x1 x2 hx => ?_, fun x1 x2 _ _ h1 h2 => (hlv x1 x2).2 ⟨h1.1, h2.1⟩, .inl ⟨h4, hi, h3, ?_, rfl, rfl⟩⟩
    · obtain ⟨h1, h2⟩ := (hlv x1 x2).1 hx
      exact ⟨⟨h1, trivial⟩, ⟨h2, trivial⟩⟩
    · unfold coreV stripV
      rw [if_neg h5, if_pos h4, core1_eq hi]
  · have hk : f.k = 3 := by
      rcases hc with ⟨_, h⟩ | ⟨_, h⟩ | ⟨h, _⟩
      · simp [funY, numY] at h
      · simp [funY, truthY] at h
      · exact h
    refine ⟨a, b, [], [], rfl, rfl, rfl, fun _ _ _ => ⟨trivial, trivial⟩, fun x1 x2 h1 h2 _ _ => ?_, .inr ⟨hk, ?_, rfl, rfl⟩⟩
    · rw [LV_else h5, LW_else (by omega)]
      exact le_fun.2 ⟨h1, h2⟩
    · unfold coreV stripV
      rw [if_neg h5, if_neg (by omega)]
end Go.Proofs.YtnddkmccagiclabGreatDoor

/-
  Two machines side by side, the one's term saying more than the other's, in plain mathematics: if nobody is blamed in the one, nobody is in the other; no program in it.
-/
namespace Go.Proofs.YtnddkmccagiclabGreatDoor
/-- What goes on once no cast waits any more. -/
def KK (rest : List Task) (U : Ty) (r : List Val) (rest' : List Task) (U' : Ty) (r' : List Val) : Prop :=
  (∃ n q q', RT n rest (U :: q) rest' (U' :: q') ∧ RE r q r' q') ∨
  ∃ n q q' t t' f f' r0 r0' rr rr' B B', (t.d = 5 ∨ t.d = 7) ∧ (t'.d = 5 ∨ t'.d = 7) ∧ r = f :: r0 ∧ r' = f' :: r0' ∧ rest = t :: rr ∧ rest' = t' :: rr' ∧ f.k = 3 ∧ f'.k = 3 ∧ RU f (funY U B) f' (funY U' B') ∧ RC (fun a b c d => RT n a b c d) B rr q B' rr' q' ∧ RE r0 q r0' q'
/-- A value on which casts wait. -/
def Act (s s' : St) : Prop := ∃ v r v' r' T T' D D' cs cs' U U' rest rest', s.vs = v :: r ∧ s'.vs = v' :: r' ∧ tyX v T D ∧ tyX v' T' D' ∧ RU (coreV v) D (coreV v') D' ∧ tyL cs T U ∧ tyL cs' T' U' ∧
  (∀ x, LV v T D x → LL cs T x → LV v' T' D' x ∧ LL cs' T' x) ∧ s.ts = cs.map chT ++ rest ∧ s'.ts = cs'.map chT ++ rest' ∧ KK rest U r rest' U' r'
def Idle (s s' : St) : Prop := ∃ n q q', RT n s.ts q s'.ts q' ∧ RE s.vs q s'.vs q'
structure SI2 (s s' : St) : Prop where
  e0 : s.ended.k = 0
  e1 : s'.ended.k = 0
  cl : s.calls = s'.calls
  fu : s.fuel = s'.fuel
  how : Act s s' ∨ Idle s s'
theorem runN_one (s : St) : runN 1 s = stepS s := rfl
theorem step_change {c : Option Ca} {ts : List Task} {v : Val} {r : List Val} {calls fuel : Nat} {ended : Out} (h0 : ended.k = 0) : stepS ⟨changeT c :: ts, v :: r, calls, fuel, ended⟩ = changeS ⟨ts, r, calls, fuel, ended⟩ c v := by
  simp only [stepS]
  rw [if_pos h0]
  simp [doS, changeT]
/-- The casts that wait are done: somebody is blamed, or the value has passed them all. -/
theorem drain : ∀ (cs : List (Option Ca × Ty)) (v : Val) (T U D : Ty) (rest : List Task) (r : List Val) (calls fuel : Nat) (ended : Out) (Q : Ty → Prop), ended.k = 0 → tyX v T D → tyL cs T U → (∀ x, LV v T D x → LL cs T x → Q x) →
    (∃ m, (runN m ⟨cs.map chT ++ rest, v :: r, calls, fuel, ended⟩).ended.k = 4) ∨ ∃ m u, runN m ⟨cs.map chT ++ rest, v :: r, calls, fuel, ended⟩ = ⟨rest, u :: r, calls, fuel, ended⟩ ∧ tyX u U D ∧ coreV u = coreV v ∧ ∀ x, LV u U D x → Q x
  | [], v, T, U, D, rest, r, calls, fuel, ended, Q, _, hv, hl, hq => by
    rw [← show T = U from hl]
    exact .inr ⟨0, v, rfl, hv, rfl, fun x hx => hq x hx trivial⟩
  | p :: cs, v, T, U, D, rest, r, calls, fuel, ended, Q, h0, hv, hl, hq => by
    have e1 : stepS ⟨(p :: cs).map chT ++ rest, v :: r, calls, fuel, ended⟩ = changeS ⟨cs.map chT ++ rest, r, calls, fuel, ended⟩ p.1 v := step_change h0
    rcases change_lo (s := ⟨cs.map chT ++ rest, r, calls, fuel, ended⟩) hl.1 hv with ⟨u, e2, hu, hcu, hlu⟩ | ⟨o, e2, ho, _⟩
    · have e3 : stepS ⟨(p :: cs).map chT ++ rest, v :: r, calls, fuel, ended⟩ = ⟨cs.map chT ++ rest, u :: r, calls, fuel, ended⟩ := by rw [e1, e2]; rfl
      rcases drain cs u p.2 U D rest r calls fuel ended Q h0 hu hl.2 (fun x h1 h2 => hq x ((hlu x).1 h1).1 ⟨((hlu x).1 h1).2, h2⟩) with ⟨m, hm⟩ | ⟨m, w, hm, hw, hcw, hlw⟩
      · exact .inl ⟨1 + m, by rw [runN_add, runN_one, e3]; exact hm⟩
      · exact .inr ⟨1 + m, w, by rw [runN_add, runN_one, e3]; exact hm, hw, by rw [hcw, hcu], hlw⟩
    · exact .inl ⟨1, by rw [runN_one, e1, e2]; exact ho⟩
/-- A value is pushed, beside another one. -/
theorem act_push {n : Nat} {v v' : Val} {i i' : Ty} {r r' : List Val} {ts ts' : List Task} {q q' : List Ty} {c f : Nat} {o o' : Out} (h0 : o.k = 0) (h1 : o'.k = 0) (hv : RV v i v' i') (hc : RC (fun a b c d => RT n a b c d) i ts q i' ts' q') (he : RE r q r' q') : SI2 ⟨ts, v :: r, c, f, o⟩ ⟨ts', v' :: r', c, f, o'⟩ := by
  obtain ⟨D, D', x1, x2, x3, x4⟩ := hv
  obtain ⟨cs, cs', U, U', rest, rest', t1, t2, t3, t4, t5, t6⟩ := hc
  refine ⟨h0, h1, rfl, rfl, .inl ⟨v, r, v', r', i, i', D, D', cs, cs', U, U', rest, rest', rfl, rfl, x1, x2, x4, t1, t2, fun x hx hl => ⟨x3 x hx, t3 x (LV_le x1 hx) hl⟩, t4, t5, .inl ⟨n, q, q', t6, he⟩⟩⟩
/-- A function is entered, beside another one. -/
theorem enter_both {n : Nat} {t t' : Task} (hd : t.d = 5 ∨ t.d = 7) (hd' : t'.d = 5 ∨ t'.d = 7) {u v' f f' : Val} {U U' D D' B B' : Ty} {r0 r0' : List Val} {rr rr' : List Task} {q q' : List Ty} {c fu : Nat} {o o' : Out} (h0 : o.k = 0) (h1 : o'.k = 0)
    (hu : tyX u U D) (hv : tyX v' U' D') (hcore : RU (coreV u) D (coreV v') D') (hlv : ∀ x, LV u U D x → LV v' U' D' x) (k3 : f.k = 3) (k3' : f'.k = 3) (hf : RU f (funY U B) f' (funY U' B')) (hc : RC (fun a b c d => RT n a b c d) B rr q B' rr' q') (he : RE r0 q r0' q') :
    SI2 (stepS ⟨t :: rr, u :: f :: r0, c, fu, o⟩) (stepS ⟨t' :: rr', v' :: f' :: r0', c, fu, o'⟩) ∨ (stepS ⟨t' :: rr', v' :: f' :: r0', c, fu, o'⟩).ended.k = 5 := by
  have e : ∀ (t : Task) (rr : List Task) (u f : Val) (r0 : List Val) (o : Out), (t.d = 5 ∨ t.d = 7) → o.k = 0 → f.k = 3 → stepS ⟨t :: rr, u :: f :: r0, c, fu, o⟩ = enterS ⟨rr, r0, c, fu, o⟩ f u := by
    intro t rr u f r0 o hd h0 k3
    simp only [stepS]
    rw [if_pos h0]
    rcases hd with hd | hd <;> simp [doS, callS, k3, hd]
  rw [e t rr u f r0 o hd h0 k3, e t' rr' v' f' r0' o' hd' h1 k3']
  unfold enterS
  by_cases hcf : c = fu
  · right
    simp only
    rw [if_pos hcf]
    rfl
  · left
    simp only
    rw [if_neg hcf, if_neg hcf]
    obtain ⟨_, A, B1, G, A', B1', G', eA, eA', hb, hen⟩ := RU_fun hf k3
    obtain ⟨rfl, rfl⟩ := funY_inj eA
    obtain ⟨rfl, rfl⟩ := funY_inj eA'
    exact ⟨h0, h1, rfl, rfl, .inr ⟨n + 1, q, q', RT_look hb (RE_cons ⟨D, D', hu, hv, hlv, hcore⟩ hen) hc, he⟩⟩
theorem tyX_num {v : Val} {D : Ty} (h : tyX v numY D) : v.k = 1 ∧ coreV v = v ∧ D = numY := by
  rcases h with ⟨_, h, _⟩ | ⟨_, _, _, _, _, _, _, _, h, _⟩ | ⟨rfl, hc⟩
  · simp [numY, anyY] at h
  · simp [numY, funY] at h
  · have hk : v.k = 1 := by
      rcases hc with ⟨h, _⟩ | ⟨_, h⟩ | ⟨_, A, B, h⟩
      · exact h
      · simp [numY, truthY] at h
      · simp [numY, funY] at h
    refine ⟨hk, ?_, rfl⟩
    unfold coreV stripV
    rw [if_neg (by omega), if_neg (by omega)]
theorem tyX_truth {v : Val} {D : Ty} (h : tyX v truthY D) : v.k = 2 ∧ coreV v = v ∧ D = truthY := by
  rcases h with ⟨_, h, _⟩ | ⟨_, _, _, _, _, _, _, _, h, _⟩ | ⟨rfl, hc⟩
  · simp [truthY, anyY] at h
  · simp [truthY, funY] at h
  · have hk : v.k = 2 := by
      rcases hc with ⟨_, h⟩ | ⟨h, _⟩ | ⟨_, A, B, h⟩
      · simp [numY, truthY] at h
      · exact h
      · simp [truthY, funY] at h
    refine ⟨hk, ?_, rfl⟩
    unfold coreV stripV
    rw [if_neg (by omega), if_neg (by omega)]
theorem RV_num {v v' : Val} (h : RV v numY v' numY) : v.k = 1 ∧ v'.k = 1 ∧ v'.n = v.n := by
  obtain ⟨D, D', x1, x2, _, x4⟩ := h
  obtain ⟨a1, a2, _⟩ := tyX_num x1
  obtain ⟨b1, b2, _⟩ := tyX_num x2
  rw [a2, b2] at x4
  exact ⟨a1, b1, (RU_base x4 (by omega)).2⟩
theorem RV_truth {v v' : Val} (h : RV v truthY v' truthY) : v.k = 2 ∧ v'.k = 2 ∧ v'.n = v.n := by
  obtain ⟨D, D', x1, x2, _, x4⟩ := h
  obtain ⟨a1, a2, _⟩ := tyX_truth x1
  obtain ⟨b1, b2, _⟩ := tyX_truth x2
  rw [a2, b2] at x4
  exact ⟨a1, b1, (RU_base x4 (by omega)).2⟩
theorem RV_mkNum (n : Int) : RV (numV n) numY (numV n) numY := by
  refine ⟨numY, numY, .inr (.inr ⟨rfl, .inl ⟨rfl, rfl⟩⟩), .inr (.inr ⟨rfl, .inl ⟨rfl, rfl⟩⟩), fun x h => h, RU_mkBase ?_ rfl rfl⟩
  simp [coreV, stripV, numV]
theorem RV_mkTruth (n : Int) : RV (truthV n) truthY (truthV n) truthY := by
  refine ⟨truthY, truthY, .inr (.inr ⟨rfl, .inr (.inl ⟨rfl, rfl⟩)⟩), .inr (.inr ⟨rfl, .inr (.inl ⟨rfl, rfl⟩)⟩), fun x h => h, RU_mkBase ?_ rfl rfl⟩
  simp [coreV, stripV, truthV]
theorem coreV_fun (b : Tm) (e : List Val) : coreV (funV b e) = funV b e := by simp [coreV, stripV, funV]
theorem RV_mkFun {b b' : Tm} {e e' : List Val} {A B A' B' : Ty} {G G' : List Ty} (hb : RP b (A :: G) B b' (A' :: G') B') (he : RE e G e' G') (hl : leF (funY A B) (funY A' B')) : RV (funV b e) (funY A B) (funV b' e') (funY A' B') := by
  refine ⟨funY A B, funY A' B', .inr (.inr ⟨rfl, .inr (.inr ⟨rfl, A, B, rfl⟩)⟩), .inr (.inr ⟨rfl, .inr (.inr ⟨rfl, A', B', rfl⟩)⟩), fun x h => ?_, ?_⟩
  · rw [LV_else (by simp [funV]), LW_else (by simp [funV])] at h ⊢
    exact hl x h
  · rw [coreV_fun, coreV_fun]
    exact RU_mkFun hb he
/-- A term without a cast at its top is looked at, beside another one. -/
theorem look_both {n : Nat} {z z' : Tm} {e e' : List Val} {G G' : List Ty} {i i' : Ty} {rr rr' : List Task} {vs vs' : List Val} {q q' : List Ty} {c f : Nat} {o o' : Out} (h0 : o.k = 0) (h1 : o'.k = 0) (hz : RM z G i z' G' i') (he : RE e G e' G') (hc : RC (fun a b c d => RT n a b c d) i rr q i' rr' q') (hv : RE vs q vs' q') :
    SI2 (lookS ⟨rr, vs, c, f, o⟩ z e) (lookS ⟨rr', vs', c, f, o'⟩ z' e') := by
  obtain ⟨us, us', el, hk, hn, h10, hr, hr', hl, hp⟩ := RM_parts hz
  have idle : ∀ (m : Nat) (t t' : List Task), RT m t q t' q' → SI2 ⟨t, vs, c, f, o⟩ ⟨t', vs', c, f, o'⟩ := fun m t t' h => ⟨h0, h1, rfl, rfl, .inr ⟨m, q, q', h, hv⟩⟩
  unfold lookS
  rw [hk, hn]
  rcases hr with ⟨k, rfl, hx⟩ | ⟨k, rfl, rfl⟩ | ⟨k, rfl, rfl⟩ | ⟨k, rfl, rfl⟩ | ⟨k, rfl, rfl⟩ | ⟨k, rfl⟩ | ⟨k, b, rfl, rfl⟩ | ⟨k, a, rfl⟩ | ⟨k, rfl, rfl⟩ | ⟨k, _⟩
  all_goals simp only [k] at hp hr' ⊢
  all_goals simp only [ruleT, Int.reduceEq, false_and, false_or, or_false, true_and] at hr'
  · obtain ⟨rfl, hx'⟩ := hr'
    obtain ⟨v, v', e1, e2, hvv⟩ := RE_at he hx hx'
    simp only [e1, e2, if_true]
    exact act_push h0 h1 hvv hc hv
  · obtain ⟨rfl, rfl⟩ := hr'
    exact act_push h0 h1 (RV_mkNum _) hc hv
  · obtain ⟨rfl, rfl⟩ := hr'
    exact act_push h0 h1 (RV_mkTruth _) hc hv
  · obtain ⟨rfl, rfl⟩ := hr'
    exact idle _ _ _ (RT_look (hp 0 (by simp) (by simp)) he (RC_nil (RT_look (n := n + 1) (hp 1 (by simp) (by simp)) he (RC_nil (.inr ⟨_, _, _, _, rfl, rfl, .inr (.inl ⟨rfl, rfl, q, q', rfl, rfl, hc⟩)⟩)))))
  · obtain ⟨rfl, rfl⟩ := hr'
    exact idle _ _ _ (RT_look (hp 0 (by simp) (by simp)) he (RC_nil (RT_look (n := n + 1) (hp 1 (by simp) (by simp)) he (RC_nil (.inr ⟨_, _, _, _, rfl, rfl, .inr (.inr (.inl ⟨rfl, rfl, q, q', rfl, rfl, hc⟩))⟩)))))
  · subst hr'
    exact idle _ _ _ (RT_look (n := n + 1) (hp 0 (by simp) (by simp)) he (RC_nil (.inr ⟨_, _, _, _, rfl, rfl, .inr (.inr (.inr (.inl ⟨rfl, rfl, G, G', i, i', q, q', rfl, rfl, hp 1 (by simp) (by simp), hp 2 (by simp) (by simp), he, hc⟩)))⟩)))
  · obtain ⟨b', rfl, rfl⟩ := hr'
    exact act_push h0 h1 (RV_mkFun (by simpa using hp 0 (by simp) (by simp)) he hl) hc hv
  · obtain ⟨a', rfl⟩ := hr'
    exact idle _ _ _ (RT_look (hp 0 (by simp) (by simp)) he (RC_nil (RT_look (n := n + 1) (hp 1 (by simp) (by simp)) he (RC_nil (.inr ⟨_, _, _, _, rfl, rfl, .inr (.inr (.inr (.inr ⟨.inl rfl, .inl rfl, a, i, a', i', q, q', rfl, rfl, hc⟩)))⟩)))))
  · obtain ⟨rfl, rfl⟩ := hr'
    exact idle _ _ _ (RT_look (hp 0 (by simp) (by simp)) he hc)
  · exact absurd k h10
end Go.Proofs.YtnddkmccagiclabGreatDoor
