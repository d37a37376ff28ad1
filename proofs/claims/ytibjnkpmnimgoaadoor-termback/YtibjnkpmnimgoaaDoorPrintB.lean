/-
  What the calls of term.typeText and term.termText answer at good types and terms.
-/
import Derived.Test.YtibjnkpmnimgoaaDoorPrint
namespace Go.Proofs.YtibjnkpmnimgoaaDoor
open Go.RowKit

theorem tyText_len : ∀ (n : Nat) (t : Ty), (tyText n t).length + 6 ≤ 6 * 2 ^ n
  | 0, _ => by simp [tyText]
  | n + 1, ⟨k, l⟩ => by
    have e : 2 ^ (n + 1) = 2 * 2 ^ n := by rw [Nat.pow_succ]; omega
    have hp : 1 ≤ 2 ^ n := Nat.one_le_two_pow
    simp only [tyText]
    split
    · have h1 := tyText_len n (l.getD 0 anyY)
      have h2 := tyText_len n (l.getD 1 anyY)
      simp only [List.length_append, List.length_cons, List.length_nil]
      omega
    · have : (typeW k).length ≤ 5 := by unfold typeW; repeat' split
                                        all_goals simp
      omega

/-- term.typeText. -/
theorem typeText_any (n : Nat) : n ≤ 10 → ∀ (t : Tr) (w : World), goodY n t.ty = true → t.In w → Gl w →
    Calls Tryd.prog 53 #[.agg #[.int .i64 t.k, .slice t.a t.l.length t.c]] w fun e w' => e = .returned (.string (bw (tyText n t.ty))) ∧ Below w.heap.size w w' := by
  induction n with
  | zero => intro _ t w h; simp [goodY] at h
  | succ n ih =>
    intro hn ⟨k, a, c, l⟩ w h hin hg
    rw [Tr.ty_mk] at h ⊢
    match l, h, hin with
    | [], h, hin =>
      have hk : k = 0 ∨ k = 1 ∨ k = 2 := by simpa [goodY, or_assoc] using h
      have hk3 : k ≠ 3 := by omega
      have e : tyText (n + 1) ⟨k, List.map Tr.ty []⟩ = typeW k := by simp [tyText, hk3]
      rw [e]
      exact typeText_leaf k hk a c 0 w hg
    | [x], h, hin => simp [goodY] at h
    | x :: y :: z :: r, h, hin => simp [goodY] at h
    | [x, y], h, hin =>
      simp only [List.map_cons, List.map_nil, goodY, Bool.and_eq_true, beq_iff_eq] at h
      obtain ⟨⟨rfl, hx⟩, hy⟩ := h
      obtain ⟨b, o, e0, x0, x1, hxi⟩ := hin.at 0 (by simp)
      obtain ⟨b', o', e1, y0, y1, hyi⟩ := hin.at 1 (by simp)
      rw [e0] at e1
      obtain ⟨rfl, rfl⟩ : b = b' ∧ o = o' := by simpa using e1
      subst e0
      have hp : (2 : Nat) ^ n ≤ 2 ^ 10 := Nat.pow_le_pow_right (by omega) (by omega)
      have lx := tyText_len n x.ty
      have ly := tyText_len n y.ty
      have h10 : (2 : Nat) ^ 10 = 1024 := by decide
      have := typeText_fun b o c x y (fun q => tyText n q.ty) (by show (tyText n x.ty).length ≤ _; omega) (by show (tyText n y.ty).length ≤ _; omega) w (by simpa using x0) (by simpa using x1) (by simpa using y0) (by simpa using y1)
        (fun q W hq hb => by
          rcases hq with rfl | rfl
          · exact ih (by omega) _ W hx (hxi.below hb) (hg.below hb)
          · exact ih (by omega) _ W hy (hyi.below hb) (hg.below hb))
      exact this

/-! ### Terms -/

theorem okNum_bound {ins : Nat} (hi : ins ≤ 1000) {k n : Int} (h : okNum 0 (ins : Int) k n = true) : -1000000 ≤ n ∧ n ≤ 1000000 := by
  unfold okNum at h
  split at h
  · simp only [Bool.and_eq_true, decide_eq_true_eq] at h; omega
  · split at h
    · simp only [Bool.and_eq_true, decide_eq_true_eq] at h; exact h
    · split at h
      · simp only [Bool.or_eq_true, beq_iff_eq] at h; omega
      · simp only [beq_iff_eq] at h; omega

/-- What is known of a good term. -/
theorem goodS_top {ar : Int} {n : Nat} {ins : Int} {x : Tm} {r r' : Nat} (h : goodS ar n ins x r = some r') : ∃ m q, n = m + 1 ∧ r = q + 1 ∧ okTop ar ins x = true ∧ bindL (fun y r' => goodS ar m (insOf x.k ins) y r') x.l q = some r' := by
  match n, r, h with
  | 0, _, h => simp [goodS] at h
  | m + 1, 0, h => simp [goodS] at h
  | m + 1, q + 1, h =>
    simp only [goodS] at h
    split at h
    · exact ⟨m, q, rfl, rfl, by assumption, h⟩
    · cases h

theorem bindL_each {α : Type} {f : α → Nat → Option Nat} : ∀ {l : List α} {r r' : Nat}, bindL f l r = some r' → ∀ (j : Nat) (hj : j < l.length), ∃ q q', f l[j] q = some q'
  | [], _, _, _, j, hj => by simp at hj
  | x :: l, r, r', h, j, hj => by
    simp only [bindL] at h
    cases hq : f x r with
    | none => rw [hq] at h; cases h
    | some q =>
      rw [hq] at h
      cases j with
      | zero => exact ⟨r, q, hq⟩
      | succ j => exact bindL_each h j (by simpa using hj)

/-- Each of them is met with some room, at most that of the beginning. -/
theorem bindL_at {α : Type} {f : α → Nat → Option Nat} (hf : ∀ y q q', f y q = some q' → q' ≤ q) : ∀ {l : List α} {r r' : Nat}, bindL f l r = some r' → ∀ (j : Nat) (hj : j < l.length), ∃ q q', q ≤ r ∧ f l[j] q = some q'
  | [], _, _, _, j, hj => by simp at hj
  | x :: l, r, r', h, j, hj => by
    simp only [bindL] at h
    cases hq : f x r with
    | none => rw [hq] at h; cases h
    | some q =>
      rw [hq] at h
      cases j with
      | zero => exact ⟨r, q, Nat.le_refl _, hq⟩
      | succ j =>
        obtain ⟨a, b, h1, h2⟩ := bindL_at hf h j (by simpa using hj)
        have := hf x r q hq
        exact ⟨a, b, by omega, h2⟩

theorem mem_len {α β : Type} {g : α → List β} : ∀ {l : List α} {y : α}, y ∈ l → (g y).length ≤ (l.flatMap g).length
  | [], y, h => by cases h
  | x :: l, y, h => by
    simp only [List.flatMap_cons, List.length_append]
    rcases List.mem_cons.1 h with rfl | h
    · omega
    · have := mem_len (g := g) h
      omega

theorem okTop_parts {ar ins : Int} {x : Tm} (h : okTop ar ins x = true) : 1 ≤ x.k ∧ x.k ≤ 9 ∧ x.l.length = partsOf x.k ∧ okTypes x.k x.t x.f = true ∧ okNum ar ins x.k x.n = true := by
  simp only [okTop, Bool.and_eq_true, decide_eq_true_eq, beq_iff_eq] at h
  exact ⟨h.1.1.1, h.1.1.2, h.1.2, h.2.1, h.2.2⟩

theorem bindL_sum (f : Tm → Nat → Option Nat) (g : Tm → List UInt8) (hf : ∀ y q q', f y q = some q' → q' ≤ q ∧ (g y).length ≤ 120 * (q - q')) : ∀ (l : List Tm) (r r' : Nat), bindL f l r = some r' → r' ≤ r ∧ (l.flatMap fun y => 32 :: g y).length ≤ 120 * (r - r') + l.length
  | [], r, r', h => by simp [bindL] at h; simp; omega
  | x :: l, r, r', h => by
    simp only [bindL] at h
    cases hq : f x r with
    | none => rw [hq] at h; cases h
    | some q =>
      rw [hq] at h
      have h1 := hf x r q hq
      have h2 := bindL_sum f g hf l q r' h
      simp only [List.flatMap_cons, List.length_append, List.length_cons]
      omega

theorem tmText_len : ∀ (n : Nat) (ins : Nat) (x : Tm) (r r' : Nat), ins + n ≤ 1000 → goodS 0 n (ins : Int) x r = some r' → r' < r ∧ (tmText n x).length ≤ 120 * (r - r')
  | 0, ins, x, r, r', _, h => by simp [goodS] at h
  | n + 1, ins, x, r, r', hi, h => by
    obtain ⟨m, q, hm, rfl, hok, hb⟩ := goodS_top h
    obtain rfl : n = m := by omega
    obtain ⟨h1, h9, hl, _, hnum⟩ := okTop_parts hok
    have hbd := okNum_bound (by omega) hnum
    have hit := itoa_short x.n hbd.1 hbd.2
    have hins : insOf x.k (ins : Int) = ((if x.k = 7 then ins + 1 else ins : Nat) : Int) := by unfold insOf; split <;> simp
    rw [hins] at hb
    have hs := bindL_sum _ (tmText n) (fun y q q' h => by
      have := tmText_len n _ y q q' (by split <;> omega) h
      exact ⟨by omega, this.2⟩) x.l q r' hb
    have hty := tyText_len 4 x.t
    have hp := parts_le x.k
    refine ⟨by omega, ?_⟩
    simp only [tmText]
    have hkw : (kindW x.k).length ≤ 4 := by unfold kindW; repeat' split
                                            all_goals simp
    have htw : (truthW x.n).length ≤ 3 := by unfold truthW; split <;> simp
    split
    · simp only [List.length_cons]; omega
    · split
      · omega
      · split
        · omega
        · simp only [List.length_append, List.length_cons, List.length_nil]
          split
          · simp only [List.length_cons]; omega
          · simp only [List.length_nil]; omega
end Go.Proofs.YtibjnkpmnimgoaaDoor
