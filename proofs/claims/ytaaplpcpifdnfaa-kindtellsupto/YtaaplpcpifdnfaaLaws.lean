/-
  The plain mathematics of good types: what both say each of them says; who is finer fits; what is sure fits only what is coarser; no program in it.
-/
import Derived.Test.YtaaplpcpifdnfaaGrounds
import Derived.Test.YtaaplpcpifdnfaaSure
namespace Go.Proofs.Ytaaplpcpifdnfaa

theorem goodY_cases {n : Nat} {t : Ty} (h : goodY (n + 1) t = true) : (∃ k, t = ⟨k, []⟩ ∧ (k = 0 ∨ k = 1 ∨ k = 2)) ∨ ∃ x y, t = ⟨3, [x, y]⟩ ∧ goodY n x = true ∧ goodY n y = true := by
  match t, h with
  | ⟨k, []⟩, h => exact .inl ⟨k, rfl, by simpa [goodY, or_assoc] using h⟩
  | ⟨k, [x]⟩, h => simp [goodY] at h
  | ⟨k, [x, y]⟩, h =>
    simp [goodY] at h
    obtain ⟨⟨rfl, hx⟩, hy⟩ := h
    exact .inr ⟨x, y, rfl, hx, hy⟩
  | ⟨k, x :: y :: z :: r⟩, h => simp [goodY] at h

theorem any_left (t : Ty) (l : List Ty) : relY escFits ⟨0, l⟩ t = true := by cases t; simp [relY_mk, escFits]
theorem any_right (t : Ty) (l : List Ty) : relY escFits t ⟨0, l⟩ = true := by cases t; simp [relY_mk, escFits]
theorem any_coarser (t : Ty) (l : List Ty) : relY escFiner t ⟨0, l⟩ = true := by cases t; simp [relY_mk, escFiner]

theorem two (esc : Int → Int → Bool) (x y x' y' : Ty) (h : esc 3 3 = false) : relY esc ⟨3, [x, y]⟩ ⟨3, [x', y']⟩ = (relY esc x x' && relY esc y y') := by
  simp [relY_mk, relL, h]

theorem join_two (x y x' y' : Ty) : joinY ⟨3, [x, y]⟩ ⟨3, [x', y']⟩ = ⟨3, [joinY x x', joinY y y']⟩ := by
  simp [joinY_mk, joinL]

theorem join_facts : ∀ (n : Nat) (a b : Ty), goodY n a = true → goodY n b = true →
    goodY n (joinY a b) = true ∧ relY escFiner a (joinY a b) = true ∧ relY escFiner b (joinY a b) = true ∧ joinY b a = joinY a b ∧ joinY a a = a
  | 0, a, b, h, _ => by simp [goodY] at h
  | n + 1, a, b, ha, hb => by
    rcases goodY_cases ha with ⟨k, rfl, hk⟩ | ⟨x, y, rfl, hx, hy⟩
    · rcases goodY_cases hb with ⟨k', rfl, hk'⟩ | ⟨x', y', rfl, hx', hy'⟩
      · by_cases e : k = k'
        · subst e
          rcases hk with rfl | rfl | rfl <;> simp [joinY_mk, joinL, goodY, relY_mk, relL]
        · have e' : k' ≠ k := fun h => e h.symm
          simp [joinY_mk, joinL, e, e', goodY, relY_mk, escFiner]
      · have e : k ≠ 3 := by omega
        have e' : (3 : Int) ≠ k := by omega
        simp [joinY_mk, joinL, e, e', goodY, relY_mk, escFiner]
    · rcases goodY_cases hb with ⟨k', rfl, hk'⟩ | ⟨x', y', rfl, hx', hy'⟩
      · have e : k' ≠ 3 := by omega
        have e' : (3 : Int) ≠ k' := by omega
        obtain ⟨_, _, _, _, ix⟩ := join_facts n x x hx hx
        obtain ⟨_, _, _, _, iy⟩ := join_facts n y y hy hy
        simp [joinY_mk, joinL, e, e', goodY, relY_mk, escFiner, ix, iy]
      · obtain ⟨g1, f1, f2, c1, i1⟩ := join_facts n x x' hx hx'
        obtain ⟨g2, f3, f4, c2, i2⟩ := join_facts n y y' hy hy'
        refine ⟨?_, ?_, ?_, ?_, ?_⟩
        · rw [join_two]; simp [goodY, g1, g2]
        · rw [join_two, two _ _ _ _ _ rfl, f1, f3]; rfl
        · rw [join_two, two _ _ _ _ _ rfl, f2, f4]; rfl
        · rw [join_two, join_two, c1, c2]
        · rw [join_two, i1, i2]

theorem join_least : ∀ (n : Nat) (a b c : Ty), goodY n a = true → goodY n b = true → goodY n c = true → relY escFiner a c = true → relY escFiner b c = true → relY escFiner (joinY a b) c = true
  | 0, a, b, c, h, _, _ => by simp [goodY] at h
  | n + 1, a, b, c, ha, hb, hc => by
    intro h1 h2
    rcases goodY_cases hc with ⟨k, rfl, hk⟩ | ⟨z, u, rfl, hz, hu⟩
    · rcases hk with rfl | hk
      · exact any_coarser _ _
      · have k0 : k ≠ 0 := by omega
        rcases goodY_cases ha with ⟨ka, rfl, _⟩ | ⟨x, y, rfl, hx, hy⟩
        · rcases goodY_cases hb with ⟨kb, rfl, _⟩ | ⟨x', y', rfl, hx', hy'⟩
          · simp [relY_mk, relL, escFiner, k0] at h1 h2
            subst h1
            subst h2
            simp [joinY_mk, joinL, relY_mk, relL]
          · simp [relY_mk, relL, escFiner, k0] at h2
        · simp [relY_mk, relL, escFiner, k0] at h1
    · rcases goodY_cases ha with ⟨ka, rfl, hka⟩ | ⟨x, y, rfl, hx, hy⟩
      · have e : ka ≠ 3 := by omega
        simp [relY_mk, relL, escFiner] at h1
      · rcases goodY_cases hb with ⟨kb, rfl, hkb⟩ | ⟨x', y', rfl, hx', hy'⟩
        · simp [relY_mk, relL, escFiner] at h2
        · rw [two _ _ _ _ _ rfl, Bool.and_eq_true] at h1 h2
          rw [join_two, two _ _ _ _ _ rfl, join_least n x x' z hx hx' hz h1.1 h2.1, join_least n y y' u hy hy' hu h1.2 h2.2]
          rfl

theorem fits_sym : ∀ (n : Nat) (a b : Ty), goodY n a = true → goodY n b = true → relY escFits a b = relY escFits b a
  | 0, a, b, h, _ => by simp [goodY] at h
  | n + 1, a, b, ha, hb => by
    rcases goodY_cases ha with ⟨ka, rfl, _⟩ | ⟨x, y, rfl, hx, hy⟩
    · rcases goodY_cases hb with ⟨kb, rfl, _⟩ | ⟨x', y', rfl, hx', hy'⟩
      · simp [relY_mk, relL, escFits, Bool.or_comm, Bool.beq_comm]
      · simp [relY_mk, relL, escFits]
    · rcases goodY_cases hb with ⟨kb, rfl, _⟩ | ⟨x', y', rfl, hx', hy'⟩
      · simp [relY_mk, relL, escFits]
      · rw [two _ _ _ _ _ rfl, two _ _ _ _ _ rfl, fits_sym n x x' hx hx', fits_sym n y y' hy hy']

theorem fits_refl : ∀ (n : Nat) (a : Ty), goodY n a = true → relY escFits a a = true
  | 0, a, h => by simp [goodY] at h
  | n + 1, a, ha => by
    rcases goodY_cases ha with ⟨ka, rfl, _⟩ | ⟨x, y, rfl, hx, hy⟩
    · simp [relY_mk, relL]
    · rw [two _ _ _ _ _ rfl, fits_refl n x hx, fits_refl n y hy]; rfl

theorem finer_fits : ∀ (n : Nat) (a b : Ty), goodY n a = true → goodY n b = true → relY escFiner a b = true → relY escFits a b = true
  | 0, a, b, h, _ => by simp [goodY] at h
  | n + 1, a, b, ha, hb => by
    intro h
    rcases goodY_cases hb with ⟨kb, rfl, _⟩ | ⟨x', y', rfl, hx', hy'⟩
    · rcases goodY_cases ha with ⟨ka, rfl, _⟩ | ⟨x, y, rfl, hx, hy⟩
      · simp [relY_mk, relL, escFiner] at h
        simp [relY_mk, relL, escFits]
        omega
      · simp [relY_mk, relL, escFiner] at h
        subst h
        exact any_right _ _
    · rcases goodY_cases ha with ⟨ka, rfl, _⟩ | ⟨x, y, rfl, hx, hy⟩
      · simp [relY_mk, relL, escFiner] at h
      · rw [two _ _ _ _ _ rfl, Bool.and_eq_true] at h
        rw [two _ _ _ _ _ rfl, finer_fits n x x' hx hx' h.1, finer_fits n y y' hy hy' h.2]
        rfl

theorem fits_coarser : ∀ (n : Nat) (a b c : Ty), goodY n a = true → goodY n b = true → goodY n c = true → relY escFits a b = true → relY escFiner b c = true → relY escFits a c = true
  | 0, a, b, c, h, _, _ => by simp [goodY] at h
  | n + 1, a, b, c, ha, hb, hc => by
    intro h1 h2
    rcases goodY_cases hc with ⟨k, rfl, hk⟩ | ⟨z, u, rfl, hz, hu⟩
    · by_cases k0 : k = 0
      · subst k0; exact any_right _ _
      · rcases goodY_cases hb with ⟨kb, rfl, hkb⟩ | ⟨x', y', rfl, hx', hy'⟩
        · simp [relY_mk, relL, escFiner, k0] at h2
          subst h2
          exact h1
        · simp [relY_mk, relL, escFiner, k0] at h2
    · rcases goodY_cases hb with ⟨kb, rfl, hkb⟩ | ⟨x', y', rfl, hx', hy'⟩
      · simp [relY_mk, relL, escFiner] at h2
      · rcases goodY_cases ha with ⟨ka, rfl, hka⟩ | ⟨x, y, rfl, hx, hy⟩
        · simp [relY_mk, relL, escFits] at h1
          subst h1
          exact any_left _ _
        · rw [two _ _ _ _ _ rfl, Bool.and_eq_true] at h1 h2
          rw [two _ _ _ _ _ rfl, fits_coarser n x x' z hx hx' hz h1.1 h2.1, fits_coarser n y y' u hy hy' hu h1.2 h2.2]
          rfl

theorem sure_fits : ∀ (n : Nat) (a b : Ty), goodY n a = true → goodY n b = true → sureY a = true → relY escFits a b = relY escFiner a b
  | 0, a, b, h, _ => by simp [goodY] at h
  | n + 1, a, b, ha, hb => by
    intro hs
    rcases goodY_cases ha with ⟨ka, rfl, _⟩ | ⟨x, y, rfl, hx, hy⟩
    · have k0 : ka ≠ 0 := by simpa [sureY_mk] using hs
      have k1 : (ka == 0) = false := by simpa using k0
      rcases goodY_cases hb with ⟨kb, rfl, _⟩ | ⟨x', y', rfl, hx', hy'⟩
      · simp [relY_mk, relL, escFits, escFiner, k1]
      · simp [relY_mk, relL, escFits, escFiner, k0]
    · rcases goodY_cases hb with ⟨kb, rfl, _⟩ | ⟨x', y', rfl, hx', hy'⟩
      · simp [relY_mk, relL, escFits, escFiner]
      · have hs' : sureY x = true ∧ sureY y = true := by simpa [sureY_mk] using hs
        rw [two _ _ _ _ _ rfl, two _ _ _ _ _ rfl, sure_fits n x x' hx hx' hs'.1, sure_fits n y y' hy hy' hs'.2]

theorem finer_trans : ∀ (n : Nat) (a b c : Ty), goodY n a = true → goodY n b = true → goodY n c = true → relY escFiner a b = true → relY escFiner b c = true → relY escFiner a c = true
  | 0, a, b, c, h, _, _ => by simp [goodY] at h
  | n + 1, a, b, c, ha, hb, hc => by
    intro h1 h2
    rcases goodY_cases hc with ⟨k, rfl, hk⟩ | ⟨z, u, rfl, hz, hu⟩
    · by_cases k0 : k = 0
      · subst k0; exact any_coarser _ _
      · rcases goodY_cases hb with ⟨kb, rfl, hkb⟩ | ⟨x', y', rfl, hx', hy'⟩
        · simp [relY_mk, relL, escFiner, k0] at h2
          subst h2
          exact h1
        · simp [relY_mk, relL, escFiner, k0] at h2
    · rcases goodY_cases hb with ⟨kb, rfl, hkb⟩ | ⟨x', y', rfl, hx', hy'⟩
      · simp [relY_mk, relL, escFiner] at h2
      · rcases goodY_cases ha with ⟨ka, rfl, hka⟩ | ⟨x, y, rfl, hx, hy⟩
        · simp [relY_mk, relL, escFiner] at h1
        · rw [two _ _ _ _ _ rfl, Bool.and_eq_true] at h1 h2
          rw [two _ _ _ _ _ rfl, finer_trans n x x' z hx hx' hz h1.1 h2.1, finer_trans n y y' u hy hy' hu h1.2 h2.2]
          rfl

theorem finer_both : ∀ (n : Nat) (a b : Ty), goodY n a = true → goodY n b = true → relY escFiner a b = true → relY escFiner b a = true → relY escSame a b = true
  | 0, a, b, h, _ => by simp [goodY] at h
  | n + 1, a, b, ha, hb => by
    intro h1 h2
    rcases goodY_cases ha with ⟨ka, rfl, hka⟩ | ⟨x, y, rfl, hx, hy⟩
    · rcases goodY_cases hb with ⟨kb, rfl, hkb⟩ | ⟨x', y', rfl, hx', hy'⟩
      · simp [relY_mk, relL, escFiner] at h1 h2
        simp [relY_mk, relL, escSame]
        omega
      · simp [relY_mk, relL, escFiner] at h1
    · rcases goodY_cases hb with ⟨kb, rfl, hkb⟩ | ⟨x', y', rfl, hx', hy'⟩
      · simp [relY_mk, relL, escFiner] at h2
      · rw [two _ _ _ _ _ rfl, Bool.and_eq_true] at h1 h2
        rw [two _ _ _ _ _ rfl, finer_both n x x' hx hx' h1.1 h2.1, finer_both n y y' hy hy' h1.2 h2.2]
        rfl
end Go.Proofs.Ytaaplpcpifdnfaa
