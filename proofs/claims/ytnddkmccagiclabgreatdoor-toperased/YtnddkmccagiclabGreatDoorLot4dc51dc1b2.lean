/-
  Plain mathematics of check: where all is told nothing is cast; who says less is not refused; no program in it.
-/
import Derived.Test.YtnddkmccagiclabGreatDoorLotabeb265aa8
import Derived.Test.YtnddkmccagiclabGreatDoorLotabe26c0bfc
namespace Go.Proofs.YtnddkmccagiclabGreatDoor
theorem len2 {α : Type} {l : List α} (h : l.length = 2) : ∃ a b, l = [a, b] := by
  match l, h with
  | [a, b], _ => exact ⟨a, b, rfl⟩
theorem len3 {α : Type} {l : List α} (h : l.length = 3) : ∃ a b c, l = [a, b, c] := by
  match l, h with
  | [a, b, c], _ => exact ⟨a, b, c, rfl⟩
/-! ### All told -/
def sureM : Tm → Bool
  | ⟨k, _, t, _, l⟩ => (!(tells k) || sureY t) && (l.map fun x => sureM x).all id
theorem sureM_mk (k n : Int) (t f : Ty) (l : List Tm) : sureM ⟨k, n, t, f, l⟩ = ((!(tells k) || sureY t) && l.all sureM) := by
  rw [sureM, List.all_map]
  rfl
/-- Two types that are sure fit only if they are one. -/
theorem sure_one : ∀ (n : Nat) (a b : Ty), goodY n a = true → goodY n b = true → sureY a = true → sureY b = true → relY escFits a b = true → a = b
  | 0, a, b, h, _, _, _, _ => by simp [goodY] at h
  | n + 1, a, b, ha, hb, sa, sb, h => by
    rcases goodY_cases ha with ⟨ka, rfl, hka⟩ | ⟨x, y, rfl, hx, hy⟩
    · have k0 : ka ≠ 0 := by simpa [sureY_mk] using sa
      rcases goodY_cases hb with ⟨kb, rfl, hkb⟩ | ⟨x', y', rfl, hx', hy'⟩
      · have k1 : kb ≠ 0 := by simpa [sureY_mk] using sb
        simp [relY_mk, relL, escFits, k0, k1] at h
        rw [h]
      · simp [relY_mk, relL, escFits, k0] at h
    · rcases goodY_cases hb with ⟨kb, rfl, hkb⟩ | ⟨x', y', rfl, hx', hy'⟩
      · have k1 : kb ≠ 0 := by simpa [sureY_mk] using sb
        simp [relY_mk, relL, escFits, k1] at h
      · have sa' : sureY x = true ∧ sureY y = true := by simpa [sureY_mk] using sa
        have sb' : sureY x' = true ∧ sureY y' = true := by simpa [sureY_mk] using sb
        rw [two _ _ _ _ _ rfl, Bool.and_eq_true] at h
        rw [sure_one n x x' hx hx' sa'.1 sb'.1 h.1, sure_one n y y' hy hy' sa'.2 sb'.2 h.2]
theorem sure_num : sureY ⟨1, []⟩ = true := by simp [sureY_mk]
theorem sure_truth : sureY ⟨2, []⟩ = true := by simp [sureY_mk]
theorem rule_sure {k n : Int} {t : Ty} {ps takes : List Ty} {i : Ty} {us : List Ty} (m : Nat) (hm : 4 ≤ m) (h1 : 1 ≤ k) (h9 : k ≤ 9) (hl : ps.length = partsOf k) (hn : k = 1 → n.toNat < takes.length) (ht : goodY 4 t = true) (hp : ∀ u, u ∈ ps → goodY m u = true)
    (st : tells k = true → sureY t = true) (sp : ∀ u, u ∈ ps → sureY u = true) (sT : ∀ u, u ∈ takes → sureY u = true) (h : ruleY k n t ps takes = some (i, us)) (hf : fitL ps us = true) : sureY i = true ∧ us = ps := by
  have hk : k = 1 ∨ k = 2 ∨ k = 3 ∨ k = 4 ∨ k = 5 ∨ k = 6 ∨ k = 7 ∨ k = 8 ∨ k = 9 := by omega
  obtain ⟨m, rfl⟩ : ∃ r, m = r + 1 := ⟨m - 1, by omega⟩
  rcases hk with rfl | rfl | rfl | rfl | rfl | rfl | rfl | rfl | rfl
  · have hl0 : ps = [] := List.length_eq_zero_iff.1 (by rw [hl]; rfl)
    subst hl0
    have hn' := hn rfl
    simp [ruleY, hn'] at h
    obtain ⟨rfl, rfl⟩ := h
    exact ⟨sT _ (List.getElem_mem hn'), rfl⟩
  · have hl0 : ps = [] := List.length_eq_zero_iff.1 (by rw [hl]; rfl)
    subst hl0
    simp [ruleY] at h
    obtain ⟨rfl, rfl⟩ := h
    exact ⟨sure_num, rfl⟩
  · have hl0 : ps = [] := List.length_eq_zero_iff.1 (by rw [hl]; rfl)
    subst hl0
    simp [ruleY] at h
    obtain ⟨rfl, rfl⟩ := h
    exact ⟨sure_truth, rfl⟩
  · obtain ⟨a, b, rfl⟩ : ∃ a b, ps = [a, b] := len2 (by rw [hl]; rfl)
    simp [ruleY] at h
    obtain ⟨rfl, rfl⟩ := h
    simp only [fitL, Bool.and_eq_true, Bool.and_true] at hf
    rw [sure_one (m + 1) a ⟨1, []⟩ (hp a (by simp)) (goodY_num _) (sp a (by simp)) sure_num hf.1, sure_one (m + 1) b ⟨1, []⟩ (hp b (by simp)) (goodY_num _) (sp b (by simp)) sure_num hf.2]
    exact ⟨sure_num, rfl⟩
  · obtain ⟨a, b, rfl⟩ : ∃ a b, ps = [a, b] := len2 (by rw [hl]; rfl)
    simp [ruleY] at h
    obtain ⟨rfl, rfl⟩ := h
    simp only [fitL, Bool.and_eq_true, Bool.and_true] at hf
    rw [sure_one (m + 1) a ⟨1, []⟩ (hp a (by simp)) (goodY_num _) (sp a (by simp)) sure_num hf.1, sure_one (m + 1) b ⟨1, []⟩ (hp b (by simp)) (goodY_num _) (sp b (by simp)) sure_num hf.2]
    exact ⟨sure_truth, rfl⟩
  · obtain ⟨a, b, c, rfl⟩ : ∃ a b c, ps = [a, b, c] := len3 (by rw [hl]; rfl)
    have h' : ifY ⟨2, []⟩ b c = some (i, us) := by simpa [ruleY] using h
    unfold ifY at h'
    split at h'
    · rename_i hbc
      have e := sure_one (m + 1) b c (hp b (by simp)) (hp c (by simp)) (sp b (by simp)) (sp c (by simp)) hbc
      subst e
      rw [(join_facts (m + 1) b b (hp b (by simp)) (hp b (by simp))).2.2.2.2] at h'
      cases h'
      simp only [fitL, Bool.and_eq_true, Bool.and_true] at hf
      rw [sure_one (m + 1) a ⟨2, []⟩ (hp a (by simp)) (goodY_truth _) (sp a (by simp)) sure_truth hf.1]
      exact ⟨sp _ (by simp), rfl⟩
    · cases h'
  · obtain ⟨a, rfl⟩ : ∃ a, ps = [a] := List.length_eq_one_iff.1 (by rw [hl]; rfl)
    have h' : some (Ty.mk 3 [t, a], [a]) = some (i, us) := by simpa [ruleY] using h
    cases h'
    refine ⟨?_, rfl⟩
    simp [sureY_mk, st rfl, sp a (by simp)]
  · obtain ⟨a, b, rfl⟩ : ∃ a b, ps = [a, b] := len2 (by rw [hl]; rfl)
    have h' : callY a = some (i, us) := by simpa [ruleY] using h
    have sa := sp a (by simp)
    rcases goodY_cases (hp a (by simp)) with ⟨k, rfl, hk⟩ | ⟨x, y, rfl, hx, hy⟩
    · rcases hk with rfl | rfl | rfl
      · simp [sureY_mk] at sa
      · simp [callY] at h'
      · simp [callY] at h'
    · simp [callY] at h'
      obtain ⟨rfl, rfl⟩ := h'
      have sa' : sureY x = true ∧ sureY y = true := by simpa [sureY_mk] using sa
      simp only [fitL, Bool.and_eq_true, Bool.and_true] at hf
      rw [sure_one (m + 1) b x (hp b (by simp)) (goodY_more m _ _ (by omega) hx) (sp b (by simp)) sa'.1 hf.2]
      exact ⟨sa'.2, rfl⟩
  · obtain ⟨a, rfl⟩ : ∃ a, ps = [a] := List.length_eq_one_iff.1 (by rw [hl]; rfl)
    have h' : some (t, [t]) = some (i, us) := by simpa [ruleY] using h
    cases h'
    simp only [fitL, Bool.and_true] at hf
    rw [sure_one (m + 1) a t (hp a (by simp)) (goodY_more 4 _ _ (by omega) ht) (sp a (by simp)) (st rfl) hf]
    exact ⟨st rfl, rfl⟩
theorem castL_same : ∀ ps : List (Nat × Tm × Ty), castL ps (ps.map fun p => p.2.2) = ps.map fun p => p.2.1
  | [] => rfl
  | p :: r => by simp [castL, castY, relY_refl, castL_same r]
theorem readL_same {takes : List Ty} : ∀ (l : List Tm) (c : Nat) (ps : List (Nat × Tm × Ty)), readL l takes c = some ps → (∀ x, x ∈ l → ∀ c y i, readS x takes c = some (y, i) → y = x) → ps.map (fun p => p.2.1) = l
  | [], c, ps, h, _ => by rw [readL] at h; cases h; rfl
  | x :: r, c, ps, h, hQ => by
    obtain ⟨y, i, q, h1, h2, rfl⟩ := readL_cons h
    simp [hQ x (by simp) c y i h1, readL_same r _ q h2 fun z hz => hQ z (by simp [hz])]
/-- Where all is told the type is sure, and nothing is cast. -/
theorem read_sure : ∀ (x : Tm) (takes : List Ty) (c : Nat) (y : Tm) (i : Ty), okTm x takes.length → (∀ u, u ∈ takes → goodY 4 u = true) → (∀ u, u ∈ takes → sureY u = true) → sureM x = true → readS x takes c = some (y, i) → sureY i = true ∧ y = x := by
  intro x
  induction x using Tm.ind with
  | h k n t f l ih =>
    intro takes c y i hok hT hS hs h
    obtain ⟨h0, h1⟩ := okTm_mk.1 hok
    obtain ⟨k1, k9, hl, hf0, ht, _, hn⟩ := okTop_all h0
    obtain ⟨ps, us, e1, e2, e3, rfl⟩ := readS_some h
    rw [sureM_mk, Bool.and_eq_true] at hs
    have st : tells k = true → sureY t = true := fun hk => by simpa [hk] using hs.1
    have hlen := readL_length _ _ _ _ e1
    have hTS : ∀ u, u ∈ takesIn k t takes → sureY u = true := by
      intro u hu
      unfold takesIn at hu
      split at hu
      · rename_i hk
        rcases List.mem_cons.1 hu with rfl | hu
        · exact st (by rw [hk]; rfl)
        · exact hS u hu
      · exact hS u hu
    have key : ∀ x, x ∈ l → ∀ c y i, readS x (takesIn k t takes) c = some (y, i) → sureY i = true ∧ y = x := fun x hx c y i hr =>
      ih x hx _ c y i (by rw [takesIn_length]; exact h1 x hx) (takesIn_good ht hT) hTS (List.all_eq_true.1 hs.2 x hx) hr
    have hp : ∀ u, u ∈ ps.map (fun p => p.2.2) → goodY ((l.map Tm.sz).sum + 4) u = true ∧ sureY u = true := by
      intro u hu
      obtain ⟨j, hj, rfl⟩ := List.getElem_of_mem hu
      have hj' : j < ps.length := by simpa using hj
      have := readL_all (Q := fun x _ _ i => goodY (x.sz + 4) i = true ∧ sureY i = true) l _ ps e1 (fun x hx c y i hr => ⟨read_good x _ c y i (by rw [takesIn_length]; exact h1 x hx) (takesIn_good ht hT) hr, (key x hx c y i hr).1⟩) j hj' (by omega)
      have hs := sz_mem l l[j] (List.getElem_mem _)
      simpa using And.intro (goodY_more _ ((l.map Tm.sz).sum + 4) _ (by omega) this.1) this.2
    have hn' : k = 1 → n.toNat < (takesIn k t takes).length := by
      intro hk
      have := hn hk
      rw [takesIn_length, hk]
      simp
      omega
    obtain ⟨si, rfl⟩ := rule_sure ((l.map Tm.sz).sum + 4) (by omega) k1 k9 (by simpa using hlen.trans hl) hn' ht (fun u hu => (hp u hu).1) st (fun u hu => (hp u hu).2) hTS e2 e3
    refine ⟨si, ?_⟩
    rw [castL_same, readL_same l _ ps e1 fun x hx c y i hr => (key x hx c y i hr).2, isAny_eq hf0]
/-! ### Sites -/
def sitesM : Tm → List (Int × Ty × Ty)
  | ⟨k, n, t, f, l⟩ => (if k = 10 then [(n, f, t)] else []) ++ (l.map fun x => sitesM x).flatten
theorem sitesM_mk (k n : Int) (t f : Ty) (l : List Tm) : sitesM ⟨k, n, t, f, l⟩ = (if k = 10 then [(n, f, t)] else []) ++ l.flatMap sitesM := by
  rw [sitesM]
  rfl
theorem sites_ok : ∀ (x : Tm) (ins : Nat), okTm x ins → sitesM x = [] := by
  intro x
  induction x using Tm.ind with
  | h k n t f l ih =>
    intro ins hok
    obtain ⟨h0, h1⟩ := okTm_mk.1 hok
    obtain ⟨k1, k9, _⟩ := okTop_all h0
    rw [sitesM_mk, if_neg (by omega), List.nil_append, List.flatMap_eq_nil_iff]
    exact fun x hx => ih x hx _ (h1 x hx)
/-! ### Less told -/
/-- Two lists, each with each. -/
def both {α β : Type} : (l : List α) → List β → ((x : α) → x ∈ l → β → Prop) → Prop
  | [], [], _ => True
  | x :: r, y :: s, f => f x List.mem_cons_self y ∧ both r s (fun z h y => f z (List.mem_cons_of_mem _ h) y)
  | _, _, _ => False
/-- A term that tells less: some types that were told are Any. -/
def looser : Tm → Tm → Prop
  | ⟨k, n, t, f, l⟩, ⟨k', n', t', f', l'⟩ => k' = k ∧ n' = n ∧ f' = f ∧ (t' = t ∨ tells k = true ∧ t' = anyY) ∧ both l l' fun x _ y => looser x y
def looserL : List Tm → List Tm → Prop
  | [], [] => True
  | x :: r, y :: s => looser x y ∧ looserL r s
  | _, _ => False
theorem both_looser : ∀ l l' : List Tm, (both l l' fun x _ y => looser x y) = looserL l l'
  | [], [] => rfl
  | x :: r, y :: s => by simp only [both, looserL, both_looser r s]
  | [], _ :: _ => rfl
  | _ :: _, [] => rfl
theorem looser_mk {k n k' n' : Int} {t f t' f' : Ty} {l l' : List Tm} : looser ⟨k, n, t, f, l⟩ ⟨k', n', t', f', l'⟩ ↔ k' = k ∧ n' = n ∧ f' = f ∧ (t' = t ∨ tells k = true ∧ t' = anyY) ∧ looserL l l' := by
  rw [looser, both_looser]
theorem looserL_len : ∀ l m : List Tm, looserL l m → m.length = l.length
  | [], [], _ => rfl
  | x :: r, y :: s, h => by simp [looserL_len r s h.2]
  | [], _ :: _, h => by simp [looserL] at h
  | _ :: _, [], h => by simp [looserL] at h
theorem looserL_at : ∀ (l m : List Tm), looserL l m → ∀ j (h : j < l.length) (h' : j < m.length), looser l[j] m[j]
  | [], _, _, j, hj, _ => by simp at hj
  | _ :: _, [], _, j, _, hj => by simp at hj
  | x :: r, y :: s, h, 0, _, _ => h.1
  | x :: r, y :: s, h, j + 1, h1, h2 => looserL_at r s h.2 j (by simpa using h1) (by simpa using h2)
theorem looserL_snoc : ∀ (l m : List Tm) (x y : Tm), looserL l m → looser x y → looserL (l ++ [x]) (m ++ [y])
  | [], [], x, y, _, h => by simp [looserL, h]
  | a :: r, b :: s, x, y, h, h' => by
    simp only [List.cons_append, looserL]
    exact ⟨h.1, looserL_snoc r s x y h.2 h'⟩
  | [], _ :: _, _, _, h, _ => by simp [looserL] at h
  | _ :: _, [], _, _, h, _ => by simp [looserL] at h
theorem looserL_sz : ∀ (l m : List Tm), (∀ x, x ∈ l → ∀ u, looser x u → u.sz = x.sz) → looserL l m → m.map Tm.sz = l.map Tm.sz
  | [], [], _, _ => rfl
  | x :: r, y :: s, h, hl => by
    simp [h x (by simp) y hl.1, looserL_sz r s (fun z hz => h z (by simp [hz])) hl.2]
  | [], _ :: _, _, h => by simp [looserL] at h
  | _ :: _, [], _, h => by simp [looserL] at h
theorem looser_sz : ∀ (x u : Tm), looser x u → u.sz = x.sz := by
  intro x
  induction x using Tm.ind with
  | h k n t f l ih =>
    rintro ⟨k', n', t', f', l'⟩ h
    rw [Tm.sz_mk, Tm.sz_mk, looserL_sz l l' ih (looser_mk.1 h).2.2.2.2]
theorem bindL_looser {f g : Tm → Nat → Option Nat} (hf : ∀ x u, looser x u → ∀ q q', f x q = some q' → g u q = some q') : ∀ (l m : List Tm) (r r' : Nat), looserL l m → bindL f l r = some r' → bindL g m r = some r'
  | [], [], r, r', _, h => h
  | x :: l, y :: m, r, r', hl, h => by
    simp only [bindL] at h ⊢
    cases hq : f x r with
    | none => rw [hq] at h; cases h
    | some q =>
      rw [hq] at h
      rw [hf x y hl.1 r q hq]
      exact bindL_looser hf l m q r' hl.2 h
  | [], _ :: _, _, _, h, _ => by simp [looserL] at h
  | _ :: _, [], _, _, h, _ => by simp [looserL] at h
theorem okTop_looser {k n : Int} {t f t' : Ty} {l l' : List Tm} {ins : Int} (ht : t' = t ∨ tells k = true ∧ t' = anyY) (hl : l'.length = l.length) (h : okTop 0 ins ⟨k, n, t, f, l⟩ = true) : okTop 0 ins ⟨k, n, t', f, l'⟩ = true := by
  rcases ht with rfl | ⟨hk, rfl⟩
  · simpa [okTop, hl] using h
  · simp only [okTop, okTypes, hk, if_true, hl, Bool.and_eq_true] at h ⊢
    exact ⟨h.1, ⟨h.2.1.1, goodY_any 3⟩, h.2.2⟩
theorem good_looser : ∀ (n : Nat) (ins : Int) (x u : Tm) (r r' : Nat), looser x u → goodS 0 n ins x r = some r' → goodS 0 n ins u r = some r'
  | 0, _, _, _, _, _, _, h => by simp [goodS] at h
  | _ + 1, _, _, _, 0, _, _, h => by simp [goodS] at h
  | n + 1, ins, ⟨k, m, t, f, l⟩, ⟨k', m', t', f', l'⟩, r + 1, r', hx, h => by
    obtain ⟨rfl, rfl, rfl, ht, hl⟩ := looser_mk.1 hx
    simp only [goodS] at h ⊢
    split at h
    · rename_i h0
      rw [if_pos (okTop_looser ht (looserL_len _ _ hl) h0)]
      exact bindL_looser (fun x u hu q q' => good_looser n _ x u q q' hu) l l' r r' hl h
    · cases h
theorem goodM_looser {x u : Tm} (h : looser x u) (hx : goodM 0 x = true) : goodM 0 u = true := by
  obtain ⟨r', hr⟩ := Option.isSome_iff_exists.1 hx
  exact Option.isSome_iff_exists.2 ⟨r', good_looser 40 0 x u 40 r' h hr⟩
theorem finerL_at {l m : List Ty} (h : relL escFiner l m = true) (j : Nat) : relY escFiner (l.getD j ⟨0, []⟩) (m.getD j ⟨0, []⟩) = true := by
  induction l generalizing m j with
  | nil =>
    cases m with
    | nil => simp [relY_mk, relL]
    | cons => simp [relL] at h
  | cons x r ih =>
    cases m with
    | nil => simp [relL] at h
    | cons y s =>
      simp only [relL, Bool.and_eq_true] at h
      match j with
      | 0 => simpa using h.1
      | j + 1 => simpa using ih h.2 j
theorem fits_both (n : Nat) {a b a' b' : Ty} (ha : goodY n a = true) (hb : goodY n b = true) (ha' : goodY n a' = true) (hb' : goodY n b' = true) (h : relY escFits a b = true) (h1 : relY escFiner a a' = true) (h2 : relY escFiner b b' = true) : relY escFits a' b' = true := by
  have g1 := fits_coarser n a b b' ha hb hb' h h2
  rw [fits_sym n a b' ha hb'] at g1
  have g2 := fits_coarser n b' a a' hb' ha ha' g1 h1
  rw [fits_sym n b' a' hb' ha'] at g2
  exact g2
theorem join_mono (n : Nat) {a b a' b' : Ty} (ha : goodY n a = true) (hb : goodY n b = true) (ha' : goodY n a' = true) (hb' : goodY n b' = true) (h1 : relY escFiner a a' = true) (h2 : relY escFiner b b' = true) : relY escFiner (joinY a b) (joinY a' b') = true := by
  obtain ⟨gj, f1, f2, _, _⟩ := join_facts n a' b' ha' hb'
  exact join_least n a b _ ha hb gj (finer_trans n a a' _ ha ha' gj h1 f1) (finer_trans n b b' _ hb hb' gj h2 f2)
theorem finer_refl : ∀ (n : Nat) (a : Ty), goodY n a = true → relY escFiner a a = true
  | 0, a, h => by simp [goodY] at h
  | n + 1, a, ha => by
    rcases goodY_cases ha with ⟨ka, rfl, _⟩ | ⟨x, y, rfl, hx, hy⟩
    · simp [relY_mk, relL]
    · rw [two _ _ _ _ _ rfl, finer_refl n x hx, finer_refl n y hy]; rfl
theorem fitL_self (m : Nat) : ∀ ps : List Ty, (∀ u, u ∈ ps → goodY m u = true) → fitL ps ps = true
  | [], _ => rfl
  | x :: r, h => by simp [fitL, fits_refl m x (h x (by simp)), fitL_self m r fun u hu => h u (by simp [hu])]
theorem rule_loose {k n : Int} {t t' : Ty} {ps ps' takes takes' : List Ty} {i : Ty} {us : List Ty} (m : Nat) (hm : 4 ≤ m) (h1 : 1 ≤ k) (h9 : k ≤ 9) (hl : ps.length = partsOf k) (ht : goodY 4 t = true) (ht' : goodY 4 t' = true)
    (hp : ∀ u, u ∈ ps → goodY m u = true) (hp' : ∀ u, u ∈ ps' → goodY m u = true) (ft : relY escFiner t t' = true) (fp : relL escFiner ps ps' = true) (fT : relL escFiner takes takes' = true) (h : ruleY k n t ps takes = some (i, us)) (hf : fitL ps us = true) :
    ∃ i' us', ruleY k n t' ps' takes' = some (i', us') ∧ fitL ps' us' = true ∧ relY escFiner i i' = true := by
  have hk : k = 1 ∨ k = 2 ∨ k = 3 ∨ k = 4 ∨ k = 5 ∨ k = 6 ∨ k = 7 ∨ k = 8 ∨ k = 9 := by omega
  obtain ⟨m, rfl⟩ : ∃ r, m = r + 1 := ⟨m - 1, by omega⟩
  have hlp := relL_len _ _ _ fp
  have num := goodY_num m
  have truth := goodY_truth m
  rcases hk with rfl | rfl | rfl | rfl | rfl | rfl | rfl | rfl | rfl
  · have hl0 : ps' = [] := List.length_eq_zero_iff.1 (by rw [← hlp, hl]; rfl)
    subst hl0
    have h' : some (takes.getD n.toNat ⟨0, []⟩, []) = some (i, us) := by simpa [ruleY] using h
    cases h'
    exact ⟨takes'.getD n.toNat ⟨0, []⟩, [], by simp [ruleY], rfl, finerL_at fT _⟩
  · have hl0 : ps' = [] := List.length_eq_zero_iff.1 (by rw [← hlp, hl]; rfl)
    subst hl0
    simp [ruleY] at h
    obtain ⟨rfl, rfl⟩ := h
    exact ⟨_, _, by simp [ruleY]; exact ⟨rfl, rfl⟩, rfl, by simp [relY_mk, relL]⟩
  · have hl0 : ps' = [] := List.length_eq_zero_iff.1 (by rw [← hlp, hl]; rfl)
    subst hl0
    simp [ruleY] at h
    obtain ⟨rfl, rfl⟩ := h
    exact ⟨_, _, by simp [ruleY]; exact ⟨rfl, rfl⟩, rfl, by simp [relY_mk, relL]⟩
  · obtain ⟨a, b, rfl⟩ : ∃ a b, ps = [a, b] := len2 (by rw [hl]; rfl)
    obtain ⟨a', b', rfl⟩ : ∃ a b, ps' = [a, b] := len2 (by rw [← hlp]; rfl)
    simp only [relL, Bool.and_eq_true, Bool.and_true] at fp
    simp [ruleY] at h
    obtain ⟨rfl, rfl⟩ := h
    simp only [fitL, Bool.and_eq_true, Bool.and_true] at hf
    refine ⟨⟨1, []⟩, [⟨1, []⟩, ⟨1, []⟩], by simp [ruleY], ?_, by simp [relY_mk, relL]⟩
    simp only [fitL, Bool.and_eq_true, Bool.and_true]
    exact ⟨fits_both (m + 1) (hp a (by simp)) num (hp' a' (by simp)) num hf.1 fp.1 (finer_refl _ _ num), fits_both (m + 1) (hp b (by simp)) num (hp' b' (by simp)) num hf.2 fp.2 (finer_refl _ _ num)⟩
  · obtain ⟨a, b, rfl⟩ : ∃ a b, ps = [a, b] := len2 (by rw [hl]; rfl)
    obtain ⟨a', b', rfl⟩ : ∃ a b, ps' = [a, b] := len2 (by rw [← hlp]; rfl)
    simp only [relL, Bool.and_eq_true, Bool.and_true] at fp
    simp [ruleY] at h
    obtain ⟨rfl, rfl⟩ := h
    simp only [fitL, Bool.and_eq_true, Bool.and_true] at hf
    refine ⟨⟨2, []⟩, [⟨1, []⟩, ⟨1, []⟩], by simp [ruleY], ?_, by simp [relY_mk, relL]⟩
    simp only [fitL, Bool.and_eq_true, Bool.and_true]
    exact ⟨fits_both (m + 1) (hp a (by simp)) num (hp' a' (by simp)) num hf.1 fp.1 (finer_refl _ _ num), fits_both (m + 1) (hp b (by simp)) num (hp' b' (by simp)) num hf.2 fp.2 (finer_refl _ _ num)⟩
  · obtain ⟨a, b, c, rfl⟩ : ∃ a b c, ps = [a, b, c] := len3 (by rw [hl]; rfl)
    obtain ⟨a', b', c', rfl⟩ : ∃ a b c, ps' = [a, b, c] := len3 (by rw [← hlp]; rfl)
    simp only [relL, Bool.and_eq_true, Bool.and_true] at fp
    have h' : ifY ⟨2, []⟩ b c = some (i, us) := by simpa [ruleY] using h
    unfold ifY at h'
    split at h'
    · rename_i hbc
      cases h'
      simp only [fitL, Bool.and_eq_true, Bool.and_true] at hf
      have gb := hp b (by simp)
      have gc := hp c (by simp)
      have gb' := hp' b' (by simp)
      have gc' := hp' c' (by simp)
      obtain ⟨gj, f1, f2, _, _⟩ := join_facts (m + 1) b' c' gb' gc'
      have hbc' := fits_both (m + 1) gb gc gb' gc' hbc fp.2.1 fp.2.2
      refine ⟨joinY b' c', [⟨2, []⟩, joinY b' c', joinY b' c'], by simp [ruleY, ifY, hbc'], ?_, join_mono (m + 1) gb gc gb' gc' fp.2.1 fp.2.2⟩
      simp only [fitL, Bool.and_eq_true, Bool.and_true]
      exact ⟨fits_both (m + 1) (hp a (by simp)) truth (hp' a' (by simp)) truth hf.1 fp.1 (finer_refl _ _ truth), finer_fits (m + 1) _ _ gb' gj f1, finer_fits (m + 1) _ _ gc' gj f2⟩
    · cases h'
  · obtain ⟨a, rfl⟩ : ∃ a, ps = [a] := List.length_eq_one_iff.1 (by rw [hl]; rfl)
    obtain ⟨a', rfl⟩ : ∃ a, ps' = [a] := List.length_eq_one_iff.1 (by rw [← hlp]; rfl)
    simp only [relL, Bool.and_true] at fp
    have h' : some (Ty.mk 3 [t, a], [a]) = some (i, us) := by simpa [ruleY] using h
    cases h'
    refine ⟨⟨3, [t', a']⟩, [a'], by simp [ruleY], fitL_self (m + 1) _ hp', ?_⟩
    rw [two _ _ _ _ _ rfl, ft, fp]; rfl
  · obtain ⟨a, b, rfl⟩ : ∃ a b, ps = [a, b] := len2 (by rw [hl]; rfl)
    obtain ⟨a', b', rfl⟩ : ∃ a b, ps' = [a, b] := len2 (by rw [← hlp]; rfl)
    simp only [relL, Bool.and_eq_true, Bool.and_true] at fp
    have h' : callY a = some (i, us) := by simpa [ruleY] using h
    have ga := hp a (by simp)
    have ga' := hp' a' (by simp)
    have anyCase : a' = ⟨0, []⟩ → ∃ i' us', ruleY 8 n t' [a', b'] takes' = some (i', us') ∧ fitL [a', b'] us' = true ∧ relY escFiner i i' = true := by
      rintro rfl
      refine ⟨⟨0, []⟩, [⟨3, [⟨0, []⟩, ⟨0, []⟩]⟩, ⟨0, []⟩], by simp [ruleY, callY], ?_, any_coarser _ _⟩
      simp [fitL, any_left, any_right]
    rcases goodY_cases ga' with ⟨k', rfl, hk'⟩ | ⟨x', y', rfl, hx', hy'⟩
    · rcases goodY_cases ga with ⟨k, rfl, hk⟩ | ⟨x, y, rfl, hx, hy⟩
      · rcases hk with rfl | rfl | rfl
        · have : k' = 0 := by
            have := fp.1
            simp [relY_mk, relL, escFiner] at this
            omega
          subst this
          exact anyCase rfl
        · simp [callY] at h'
        · simp [callY] at h'
      · have : k' = 0 := by
          have := fp.1
          simp [relY_mk, relL, escFiner] at this
          omega
        subst this
        exact anyCase rfl
    · rcases goodY_cases ga with ⟨k, rfl, hk⟩ | ⟨x, y, rfl, hx, hy⟩
      · have := fp.1
        simp [relY_mk, relL, escFiner] at this
      · simp [callY] at h'
        obtain ⟨rfl, rfl⟩ := h'
        simp only [fitL, Bool.and_eq_true, Bool.and_true] at hf
        have f1 := fp.1
        rw [two _ _ _ _ _ rfl, Bool.and_eq_true] at f1
        refine ⟨y', [⟨3, [x', y']⟩, x'], by simp [ruleY, callY], ?_, f1.2⟩
        simp only [fitL, Bool.and_eq_true, Bool.and_true]
        exact ⟨fits_refl (m + 1) _ ga', fits_both (m + 1) (hp b (by simp)) (goodY_more m _ _ (by omega) hx) (hp' b' (by simp)) (goodY_more m _ _ (by omega) hx') hf.2 fp.2 f1.1⟩
  · obtain ⟨a, rfl⟩ : ∃ a, ps = [a] := List.length_eq_one_iff.1 (by rw [hl]; rfl)
    obtain ⟨a', rfl⟩ : ∃ a, ps' = [a] := List.length_eq_one_iff.1 (by rw [← hlp]; rfl)
    simp only [relL, Bool.and_true] at fp
    have h' : some (t, [t]) = some (i, us) := by simpa [ruleY] using h
    cases h'
    simp only [fitL, Bool.and_true] at hf
    refine ⟨t', [t'], by simp [ruleY], ?_, ft⟩
    simp only [fitL, Bool.and_true]
    exact fits_both (m + 1) (hp a (by simp)) (goodY_more 4 _ _ (by omega) ht) (hp' a' (by simp)) (goodY_more 4 _ _ (by omega) ht') hf fp ft
theorem readL_loose {takes takes' : List Ty} : ∀ (l l' : List Tm) (c : Nat) (ps : List (Nat × Tm × Ty)), looserL l l' → readL l takes c = some ps →
    (∀ x, x ∈ l → ∀ u, looser x u → ∀ c y i, readS x takes c = some (y, i) → ∃ y' i', readS u takes' c = some (y', i') ∧ relY escFiner i i' = true) →
    ∃ ps', readL l' takes' c = some ps' ∧ relL escFiner (ps.map fun p => p.2.2) (ps'.map fun p => p.2.2) = true
  | [], [], c, ps, _, h, _ => by rw [readL] at h; cases h; exact ⟨[], by rw [readL], by simp [relL]⟩
  | x :: r, u :: s, c, ps, hl, h, hQ => by
    obtain ⟨y, i, q, h1, h2, rfl⟩ := readL_cons h
    obtain ⟨y', i', g1, g2⟩ := hQ x (by simp) u hl.1 c y i h1
    obtain ⟨q', g3, g4⟩ := readL_loose r s _ q hl.2 h2 fun z hz => hQ z (by simp [hz])
    refine ⟨(c, y', i') :: q', ?_, by simp [relL, g2, g4]⟩
    rw [readL, g1, looser_sz x u hl.1]
    simp [g3]
  | [], _ :: _, _, _, h, _, _ => by simp [looserL] at h
  | _ :: _, [], _, _, h, _, _ => by simp [looserL] at h
theorem looser_ok : ∀ (x u : Tm) (ins : Nat), looser x u → okTm x ins → okTm u ins := by
  intro x
  induction x using Tm.ind with
  | h k n t f l ih =>
    rintro ⟨k', n', t', f', l'⟩ ins h hok
    obtain ⟨rfl, rfl, rfl, ht, hl⟩ := looser_mk.1 h
    obtain ⟨h0, h1⟩ := okTm_mk.1 hok
    have hlen := looserL_len _ _ hl
    refine okTm_mk.2 ⟨okTop_looser ht hlen h0, fun y hy => ?_⟩
    obtain ⟨j, hj, rfl⟩ := List.getElem_of_mem hy
    exact ih l[j] (List.getElem_mem _) _ _ (looserL_at l l' hl j (by omega) hj) (h1 _ (List.getElem_mem _))
/-- Who says less is not refused for it, and its type says less. -/
theorem read_loose : ∀ (x u : Tm) (takes takes' : List Ty) (c : Nat) (y : Tm) (i : Ty), looser x u → okTm x takes.length → (∀ u, u ∈ takes → goodY 4 u = true) → (∀ u, u ∈ takes' → goodY 4 u = true) → relL escFiner takes takes' = true → readS x takes c = some (y, i) →
    ∃ y' i', readS u takes' c = some (y', i') ∧ relY escFiner i i' = true := by
  intro x
  induction x using Tm.ind with
  | h k n t f l ih =>
    rintro ⟨k', n', t', f', l'⟩ takes takes' c y i hu hok hT hT' fT h
    have hok' := looser_ok _ _ _ hu hok
    obtain ⟨rfl, rfl, rfl, htt, hl⟩ := looser_mk.1 hu
    obtain ⟨h0, h1⟩ := okTm_mk.1 hok
    obtain ⟨h0', h1'⟩ := okTm_mk.1 hok'
    obtain ⟨k1, k9, hlp, _, ht, _, _⟩ := okTop_all h0
    obtain ⟨_, _, hlp', _, ht', _, _⟩ := okTop_all h0'
    obtain ⟨ps, us, e1, e2, e3, rfl⟩ := readS_some h
    have ft : relY escFiner t t' = true := by
      rcases htt with rfl | ⟨_, rfl⟩
      · exact finer_refl 4 _ ht
      · exact any_coarser _ _
    have fT2 : relL escFiner (takesIn k' t takes) (takesIn k' t' takes') = true := by
      unfold takesIn
      split
      · simp [relL, ft, fT]
      · exact fT
    have hTl := relL_len _ _ _ fT
    obtain ⟨ps', g1, g2⟩ := readL_loose (takes' := takesIn k' t' takes') l l' (c + 1) ps hl e1 fun z hz u hzu c y i hr =>
      ih z hz u _ _ c y i hzu (by rw [takesIn_length]; exact h1 z hz) (takesIn_good ht hT) (takesIn_good ht' hT') fT2 hr
    have hlen := readL_length _ _ _ _ e1
    have hlen' := readL_length _ _ _ _ g1
    have hp : ∀ u, u ∈ ps.map (fun p => p.2.2) → goodY ((l.map Tm.sz).sum + 4) u = true := by
      intro u hu
      obtain ⟨j, hj, rfl⟩ := List.getElem_of_mem hu
      have hj' : j < ps.length := by simpa using hj
      have := readL_all (Q := fun x _ _ i => goodY (x.sz + 4) i = true) l _ ps e1 (fun x hx c y i hr => read_good x _ c y i (by rw [takesIn_length]; exact h1 x hx) (takesIn_good ht hT) hr) j hj' (by omega)
      have hs := sz_mem l l[j] (List.getElem_mem _)
      simpa using goodY_more _ ((l.map Tm.sz).sum + 4) _ (by omega) this
    have hsz : (l'.map Tm.sz).sum = (l.map Tm.sz).sum := by
      rw [looserL_sz l l' (fun x _ u => looser_sz x u) hl]
    have hp' : ∀ u, u ∈ ps'.map (fun p => p.2.2) → goodY ((l.map Tm.sz).sum + 4) u = true := by
      intro u hu
      obtain ⟨j, hj, rfl⟩ := List.getElem_of_mem hu
      have hj' : j < ps'.length := by simpa using hj
      have := readL_all (Q := fun x _ _ i => goodY (x.sz + 4) i = true) l' _ ps' g1 (fun x hx c y i hr => read_good x _ c y i (by rw [takesIn_length, ← hTl]; exact h1' x hx) (takesIn_good ht' hT') hr) j hj' (by omega)
      have hs := sz_mem l' l'[j] (List.getElem_mem _)
      simpa using goodY_more _ ((l.map Tm.sz).sum + 4) _ (by omega) this
    obtain ⟨i', us', r1, r2, r3⟩ := rule_loose ((l.map Tm.sz).sum + 4) (by omega) k1 k9 (by simpa using hlen.trans hlp) ht ht' hp hp' ft g2 fT2 e2 e3
    refine ⟨⟨k', n', t', anyY, castL ps' us'⟩, i', ?_, r3⟩
    rw [readS_mk, g1]
    simp [r1, r2]
end Go.Proofs.YtnddkmccagiclabGreatDoor

/-
  Plain mathematics of check: each term is cast once at most, between types that fit and are not alike; without casts it is the term; no program in it.
-/
namespace Go.Proofs.YtnddkmccagiclabGreatDoor
/-- A term without casts, As and types. -/
def eraseM : Tm → Tm
  | ⟨k, n, _, _, l⟩ => match l.map fun x => eraseM x with
    | [x] => if k = 9 ∨ k = 10 then x else ⟨k, n, anyY, anyY, [x]⟩
    | m => ⟨k, n, anyY, anyY, m⟩
/-- Of a term whose parts are erased. -/
def eraseT (k n : Int) : List Tm → Tm
  | [x] => if k = 9 ∨ k = 10 then x else ⟨k, n, anyY, anyY, [x]⟩
  | m => ⟨k, n, anyY, anyY, m⟩
theorem eraseM_mk (k n : Int) (t f : Ty) (l : List Tm) : eraseM ⟨k, n, t, f, l⟩ = eraseT k n (l.map eraseM) := by
  rw [eraseM]
  rfl
theorem erase_cast (n : Int) (x : Tm) (i u : Ty) : eraseM (castY n x i u) = eraseM x := by
  unfold castY
  split
  · rfl
  · rw [eraseM_mk]; simp [eraseT]
/-- A cast, as it should be. -/
def siteOk (m : Nat) (s : Int × Ty × Ty) : Prop := goodY m s.2.1 = true ∧ goodY m s.2.2 = true ∧ relY escFits s.2.1 s.2.2 = true ∧ relY escSame s.2.1 s.2.2 = false
theorem siteOk.more {m m' : Nat} {s : Int × Ty × Ty} (h : siteOk m s) (hm : m ≤ m') : siteOk m' s := ⟨goodY_more _ _ _ hm h.1, goodY_more _ _ _ hm h.2.1, h.2.2⟩
/-- The casts of what came of a term: between its number and the number behind it; growing; as they should be; how many nodes; what is left without them. -/
structure SitesOk (m : Nat) (x y : Tm) (lo hi : Nat) : Prop where
  inn : ∀ s, s ∈ sitesM y → (lo : Int) ≤ s.1 ∧ s.1 < (hi : Int) ∧ siteOk m s
  grow : ((sitesM y).map fun s => s.1).Pairwise (· < ·)
  sz : y.sz = x.sz + (sitesM y).length
  er : eraseM y = eraseM x
theorem castY_sites (m : Nat) {x y : Tm} {n : Nat} {i u : Ty} (h : SitesOk m x y (n + 1) (n + x.sz)) (hi : goodY m i = true) (hu : goodY m u = true) (hf : relY escFits i u = true) : SitesOk m x (castY (n : Int) y i u) n (n + x.sz) := by
  have hp := x.sz_pos
  by_cases hs : relY escSame i u = true
  · have e : castY (n : Int) y i u = y := by simp [castY, hs]
    rw [e]
    exact ⟨fun s hsm => ⟨by have := (h.inn s hsm).1; omega, (h.inn s hsm).2⟩, h.grow, h.sz, h.er⟩
  · have hs' : relY escSame i u = false := by simpa using hs
    have e : castY (n : Int) y i u = ⟨10, n, u, i, [y]⟩ := by simp [castY, hs']
    have e2 : sitesM (castY (n : Int) y i u) = ((n : Int), i, u) :: sitesM y := by rw [e, sitesM_mk]; simp
    refine ⟨fun s hsm => ?_, ?_, ?_, by rw [erase_cast, h.er]⟩
    · rw [e2] at hsm
      rcases List.mem_cons.1 hsm with rfl | hsm
      · exact ⟨Int.le_refl _, by simp; omega, hi, hu, hf, hs'⟩
      · exact ⟨by have := (h.inn s hsm).1; omega, (h.inn s hsm).2⟩
    · rw [e2, List.map_cons, List.pairwise_cons]
      refine ⟨fun a ha => ?_, h.grow⟩
      obtain ⟨s, hsm, rfl⟩ := List.mem_map.1 ha
      have := (h.inn s hsm).1
      simp only
      omega
    · rw [e2, e, Tm.sz_mk]
      simp [h.sz]
      omega
theorem castL_sites (m : Nat) {takes : List Ty} : ∀ (l : List Tm) (c : Nat) (ps : List (Nat × Tm × Ty)) (us : List Ty), readL l takes c = some ps → us.length = ps.length → fitL (ps.map fun p => p.2.2) us = true → (∀ u, u ∈ us → goodY m u = true) →
    (∀ x, x ∈ l → ∀ c y i, readS x takes c = some (y, i) → goodY m i = true ∧ SitesOk m x y (c + 1) (c + x.sz)) →
    (∀ s, s ∈ (castL ps us).flatMap sitesM → (c : Int) ≤ s.1 ∧ s.1 < ((c + (l.map Tm.sz).sum : Nat) : Int) ∧ siteOk m s) ∧ (((castL ps us).flatMap sitesM).map fun s => s.1).Pairwise (· < ·) ∧
      ((castL ps us).map Tm.sz).sum = (l.map Tm.sz).sum + ((castL ps us).flatMap sitesM).length ∧ (castL ps us).map eraseM = l.map eraseM
  | [], c, ps, us, h, _, _, _, _ => by rw [readL] at h; cases h; simp [castL]
  | x :: r, c, ps, us, h, hl, hf, hu, hQ => by
    obtain ⟨y, i, q, h1, h2, rfl⟩ := readL_cons h
    match us, hl, hf, hu with
    | [], hl, _, _ => simp at hl
    | u :: vs, hl, hf, hu =>
      simp only [List.map_cons, fitL, Bool.and_eq_true] at hf
      obtain ⟨gi, so⟩ := hQ x (by simp) c y i h1
      have S := castY_sites m so gi (hu u (by simp)) hf.1
      obtain ⟨r1, r2, r3, r4⟩ := castL_sites m r (c + x.sz) q vs h2 (by simpa using hl) hf.2 (fun v hv => hu v (by simp [hv])) fun z hz => hQ z (by simp [hz])
      have e : castL ((c, y, i) :: q) (u :: vs) = castY (c : Int) y i u :: castL q vs := rfl
      rw [e]
      refine ⟨fun s hs => ?_, ?_, ?_, ?_⟩
      · rw [List.flatMap_cons, List.mem_append] at hs
        rcases hs with hs | hs
        · obtain ⟨a, b, d⟩ := S.inn s hs
          refine ⟨a, ?_, d⟩
          simp only [List.map_cons, List.sum_cons]
          omega
        · obtain ⟨a, b, d⟩ := r1 s hs
          refine ⟨by omega, ?_, d⟩
          simp only [List.map_cons, List.sum_cons]
          omega
      · rw [List.flatMap_cons, List.map_append, List.pairwise_append]
        refine ⟨S.grow, r2, fun a ha b hb => ?_⟩
        obtain ⟨s, hs, rfl⟩ := List.mem_map.1 ha
        obtain ⟨s', hs', rfl⟩ := List.mem_map.1 hb
        have := (S.inn s hs).2.1
        have := (r1 s' hs').1
        omega
      · rw [List.flatMap_cons, List.length_append, List.map_cons, List.sum_cons, List.map_cons, List.sum_cons, S.sz, r3]
        omega
      · rw [List.map_cons, List.map_cons, S.er, r4]
theorem read_sites : ∀ (x : Tm) (takes : List Ty) (c : Nat) (y : Tm) (i : Ty), okTm x takes.length → (∀ u, u ∈ takes → goodY 4 u = true) → readS x takes c = some (y, i) → SitesOk (x.sz + 4) x y (c + 1) (c + x.sz) := by
  intro x
  induction x using Tm.ind with
  | h k n t f l ih =>
    intro takes c y i hok hT h
    obtain ⟨h0, h1⟩ := okTm_mk.1 hok
    obtain ⟨k1, k9, hl, _, ht, _, _⟩ := okTop_all h0
    obtain ⟨ps, us, e1, e2, e3, rfl⟩ := readS_some h
    have hlen := readL_length _ _ _ _ e1
    have hp : ∀ x, x ∈ l → ∀ c y i, readS x (takesIn k t takes) c = some (y, i) → goodY ((l.map Tm.sz).sum + 4) i = true ∧ SitesOk ((l.map Tm.sz).sum + 4) x y (c + 1) (c + x.sz) := by
      intro x hx c y i hr
      have hs := sz_mem l x hx
      have ho : okTm x (takesIn k t takes).length := by rw [takesIn_length]; exact h1 x hx
      have S := ih x hx _ c y i ho (takesIn_good ht hT) hr
      exact ⟨goodY_more _ _ _ (by omega) (read_good x _ c y i ho (takesIn_good ht hT) hr), fun s hsm => ⟨(S.inn s hsm).1, (S.inn s hsm).2.1, (S.inn s hsm).2.2.more (by omega)⟩, S.grow, S.sz, S.er⟩
    have hg : ∀ u, u ∈ ps.map (fun p => p.2.2) → goodY ((l.map Tm.sz).sum + 4) u = true := by
      intro u hu
      obtain ⟨j, hj, rfl⟩ := List.getElem_of_mem hu
      have hj' : j < ps.length := by simpa using hj
      have := readL_all (Q := fun _ _ _ i => goodY ((l.map Tm.sz).sum + 4) i = true) l _ ps e1 (fun x hx c y i hr => (hp x hx c y i hr).1) j hj' (by omega)
      simpa using this
    obtain ⟨r1, _, r3⟩ := rule_good ((l.map Tm.sz).sum + 4) (by omega) k1 k9 (by simpa using hlen.trans hl) ht (takesIn_good ht hT) hg e2
    have up : ∀ x, x ∈ l → ∀ c y i, readS x (takesIn k t takes) c = some (y, i) → goodY ((l.map Tm.sz).sum + 4 + 1) i = true ∧ SitesOk ((l.map Tm.sz).sum + 4 + 1) x y (c + 1) (c + x.sz) := by
      intro x hx c y i hr
      obtain ⟨g, S⟩ := hp x hx c y i hr
      exact ⟨goodY_more _ _ _ (by omega) g, fun s hsm => ⟨(S.inn s hsm).1, (S.inn s hsm).2.1, (S.inn s hsm).2.2.more (by omega)⟩, S.grow, S.sz, S.er⟩
    obtain ⟨s1, s2, s3, s4⟩ := castL_sites ((l.map Tm.sz).sum + 4 + 1) l (c + 1) ps us e1 (by simpa using r1) e3 r3 up
    have e : sitesM ⟨k, n, t, anyY, castL ps us⟩ = (castL ps us).flatMap sitesM := by rw [sitesM_mk, if_neg (by omega), List.nil_append]
    refine ⟨fun s hs => ?_, by rw [e]; exact s2, ?_, ?_⟩
    · rw [e] at hs
      obtain ⟨a, b, d⟩ := s1 s hs
      rw [Tm.sz_mk]
      exact ⟨a, by omega, d.more (by omega)⟩
    · rw [e, Tm.sz_mk, Tm.sz_mk, s3]
      omega
    · rw [eraseM_mk, eraseM_mk, s4]
end Go.Proofs.YtnddkmccagiclabGreatDoor

/-
  As long as nobody is blamed types change nothing of what a run comes to: plain mathematics; no program in it.
-/
namespace Go.Proofs.YtnddkmccagiclabGreatDoor
theorem tsz_sz : ∀ x : Tm, x.tsz = x.sz := by
  intro x
  induction x using Tm.ind with
  | h k n t f l ih =>
    rw [Tm.tsz_mk, Tm.sz_mk]
    congr 2
    exact List.map_congr_left ih
theorem eraseM_out {x : Tm} (h : ¬ (x.k = 9 ∨ x.k = 10)) : eraseM x = ⟨x.k, x.n, anyY, anyY, x.l.map eraseM⟩ := by
  obtain ⟨k, n, t, f, l⟩ := x
  rw [eraseM_mk]
  simp only at h ⊢
  unfold eraseT
  split
  · rename_i e; rw [if_neg h, e]
  · rfl
theorem eraseM_in {x : Tm} (h : x.k = 9 ∨ x.k = 10) (hl : x.l.length = 1) : eraseM x = eraseM (x.at 0) := by
  obtain ⟨k, n, t, f, l⟩ := x
  match l, hl with
  | [y], _ =>
    rw [eraseM_mk]
    simp only [List.map_cons, List.map_nil, eraseT]
    rw [if_pos h]
    rfl
theorem eraseM_at {x : Tm} (h : ¬ (x.k = 9 ∨ x.k = 10)) {j : Nat} (hj : j < x.l.length) : (eraseM x).at j = eraseM (x.at j) := by
  rw [eraseM_out h, Tm.at_eq hj, Tm.at_eq (x := ⟨x.k, x.n, anyY, anyY, x.l.map eraseM⟩) (by simpa using hj)]
  simp
theorem eraseM_shp : ∀ x : Tm, shp x → shp (eraseM x) ∧ (eraseM x).tsz ≤ x.tsz := by
  intro x
  induction x using Tm.ind with
  | h k n t f l ih =>
    intro h
    obtain ⟨⟨k1, k10, hl, n1, n2, hn, _⟩, hp⟩ := shp_mk.1 h
    by_cases hk : k = 9 ∨ k = 10
    · have hl1 : l.length = 1 := by
        rw [hl]
        rcases hk with rfl | rfl <;> rfl
      have e := eraseM_in (x := ⟨k, n, t, f, l⟩) hk hl1
      rw [e]
      have hm := Tm.at_mem (x := ⟨k, n, t, f, l⟩) (j := 0) (by simp only; omega)
      obtain ⟨h1, h2⟩ := ih _ hm (hp _ hm)
      have := part_tsz (x := ⟨k, n, t, f, l⟩) (j := 0) (by simp only; omega)
      exact ⟨h1, by omega⟩
    · rw [eraseM_out (x := ⟨k, n, t, f, l⟩) hk]
      refine ⟨shp_mk.2 ⟨⟨k1, k10, by simpa using hl, n1, n2, hn, fun h => absurd (.inr h) hk⟩, fun y hy => ?_⟩, ?_⟩
      · obtain ⟨z, hz, rfl⟩ := List.mem_map.1 hy
        exact (ih z hz (hp z hz)).1
      · rw [Tm.tsz_mk, Tm.tsz_mk]
        have : ∀ l : List Tm, (∀ x, x ∈ l → (eraseM x).tsz ≤ x.tsz) → ((l.map eraseM).map Tm.tsz).sum ≤ (l.map Tm.tsz).sum := by
          intro l
          induction l with
          | nil => intro _; simp
          | cons y r ihr =>
            intro hh
            have a := hh y (by simp)
            have b := ihr fun x hx => hh x (by simp [hx])
            simp only [List.map_cons, List.sum_cons]
            omega
        have := this l fun x hx => (ih x hx (hp x hx)).2
        simp only
        omega
/-- A value without casts. -/
def eraseV : Val → Val
  | ⟨k, n, b, e, i, _, _, _⟩ => if k = 4 ∨ k = 5 then ((i.map fun v => eraseV v).headD (numV 0)) else ⟨k, n, if k = 3 then eraseM b else tm0, e.map fun v => eraseV v, [], none, none, 0⟩
theorem eraseV_mk (k n : Int) (b : Tm) (e i : List Val) (g a : Option Ca) (s : Int) : eraseV ⟨k, n, b, e, i, g, a, s⟩ = if k = 4 ∨ k = 5 then ((i.map eraseV).headD (numV 0)) else ⟨k, n, if k = 3 then eraseM b else tm0, e.map eraseV, [], none, none, 0⟩ := by
  rw [eraseV]
theorem eraseV_in {v u : Val} (h : v.k = 4 ∨ v.k = 5) (hi : v.inn = [u]) : eraseV v = eraseV u := by
  cases v
  rw [eraseV_mk, if_pos h]
  simp only at hi
  rw [hi]; rfl
theorem eraseV_out {v : Val} (h : ¬ (v.k = 4 ∨ v.k = 5)) : eraseV v = ⟨v.k, v.n, if v.k = 3 then eraseM v.body else tm0, v.env.map eraseV, [], none, none, 0⟩ := by
  cases v
  rw [eraseV_mk, if_neg h]
theorem eraseV_num (n : Int) : eraseV (numV n) = numV n := by
  rw [eraseV_out (by simp [numV])]; rfl
theorem eraseV_truth (n : Int) : eraseV (truthV n) = truthV n := by
  rw [eraseV_out (by simp [truthV])]; rfl
theorem eraseV_fun (b : Tm) (e : List Val) : eraseV (funV b e) = funV (eraseM b) (e.map eraseV) := by
  rw [eraseV_out (by simp [funV])]; rfl
theorem eraseV_chap (v : Val) (g a : Option Ca) : eraseV (chapV v g a) = eraseV v := eraseV_in (.inl rfl) rfl
theorem eraseV_known (v : Val) (k : Int) : eraseV (knownV v k) = eraseV v := eraseV_in (.inr rfl) rfl
def eraseT1 (t : Task) : List Task := if t.d = 6 then [] else if t.d = 1 then [lookT (eraseM t.x) (t.s.map eraseV)] else if t.d = 4 then [chooseT (eraseM t.x) (t.s.map eraseV)] else if t.d = 7 then [doT 5] else [doT t.d]
def eraseTs (ts : List Task) : List Task := ts.flatMap eraseT1
def eraseS (s : St) : St := ⟨eraseTs s.ts, s.vs.map eraseV, s.calls, s.fuel, s.ended⟩
theorem eraseTs_cons (t : Task) (ts : List Task) : eraseTs (t :: ts) = eraseT1 t ++ eraseTs ts := by simp [eraseTs]
theorem eraseTs_look (x : Tm) (e : List Val) (ts : List Task) : eraseTs (lookT x e :: ts) = lookT (eraseM x) (e.map eraseV) :: eraseTs ts := by simp [eraseTs, eraseT1, lookT]
theorem eraseTs_choose (x : Tm) (e : List Val) (ts : List Task) : eraseTs (chooseT x e :: ts) = chooseT (eraseM x) (e.map eraseV) :: eraseTs ts := by simp [eraseTs, eraseT1, chooseT]
theorem eraseTs_change (c : Option Ca) (ts : List Task) : eraseTs (changeT c :: ts) = eraseTs ts := by simp [eraseTs, eraseT1, changeT]
theorem eraseTs_do (d : Int) (h : d = 2 ∨ d = 3 ∨ d = 5) (ts : List Task) : eraseTs (doT d :: ts) = doT d :: eraseTs ts := by
  rcases h with rfl | rfl | rfl <;> simp [eraseTs, eraseT1, doT]
theorem eraseTs_seven (ts : List Task) : eraseTs (doT 7 :: ts) = doT 5 :: eraseTs ts := by simp [eraseTs, eraseT1, doT]
theorem eraseV_accomp {f : Val} {c : Ca} (h : f.k = 4 → f.inn = [f.core]) : eraseV (accompV f c) = eraseV f := by
  unfold accompV
  split
  · rename_i hk
    rw [eraseV_chap, eraseV_in (.inl hk) (h hk)]
  · rw [eraseV_chap]
theorem eraseV_of {c : Ca} {v : Val} (hv : okV v) (ho : c.opens = true → v.k = 5) : eraseV (ofC c v) = eraseV v := by
  have h1 : eraseV (if c.opens = true then v.core else v) = eraseV v ∧ okV (if c.opens = true then v.core else v) := by
    split
    · rename_i hc
      obtain ⟨a, b⟩ := hv.core5 (ho hc)
      exact ⟨(eraseV_in (.inr (ho hc)) a).symm, b⟩
    · exact ⟨rfl, hv⟩
  unfold ofC
  simp only
  generalize (if c.opens = true then v.core else v) = u at h1
  have h2 : eraseV (if c.given.isSome = true ∨ c.answer.isSome = true then accompV u c else u) = eraseV v := by
    split
    · rw [eraseV_accomp fun hk => (h1.2.core4 hk).1]; exact h1.1
    · exact h1.1
  split
  · rw [eraseV_known]; exact h2
  · exact h2
/-- The machine without casts does as much, or nothing yet. -/
def Sim (s s' : St) : Prop := s'.ended.k = 4 ∨ eraseS s' = eraseS s ∨ eraseS s' = stepS (eraseS s)
theorem step_is {t : Task} {ts : List Task} {vs : List Val} {calls fuel : Nat} {ended : Out} (h0 : ended.k = 0) : stepS ⟨t :: ts, vs, calls, fuel, ended⟩ = doS ⟨ts, vs, calls, fuel, ended⟩ t := by
  simp only [stepS]; rw [if_pos h0]
theorem look_sim {s : St} {x : Tm} {e : List Val} (h0 : s.ended.k = 0) (hx : shp x) : Sim ⟨lookT x e :: s.ts, s.vs, s.calls, s.fuel, s.ended⟩ (lookS s x e) := by
  obtain ⟨k1, k10, hl, n1, n2, hn, hg⟩ := hx.top
  have hk : x.k = 1 ∨ x.k = 2 ∨ x.k = 3 ∨ x.k = 4 ∨ x.k = 5 ∨ x.k = 6 ∨ x.k = 7 ∨ x.k = 8 ∨ x.k = 9 ∨ x.k = 10 := by omega
  have eB : eraseS ⟨lookT x e :: s.ts, s.vs, s.calls, s.fuel, s.ended⟩ = ⟨lookT (eraseM x) (e.map eraseV) :: eraseTs s.ts, s.vs.map eraseV, s.calls, s.fuel, s.ended⟩ := by
    simp only [eraseS, eraseTs_look]
  have eC : stepS (eraseS ⟨lookT x e :: s.ts, s.vs, s.calls, s.fuel, s.ended⟩) = lookS (eraseS s) (eraseM x) (e.map eraseV) := by
    rw [eB, step_is h0]; simp only [doS, lookT, if_true]; rfl
  by_cases h9 : x.k = 9 ∨ x.k = 10
  · have hl1 : x.l.length = 1 := by
      rw [hl]
      rcases h9 with e | e <;> rw [e] <;> rfl
    right; left
    rw [eB, eraseM_in h9 hl1]
    rcases h9 with h | h
    · simp only [lookS, h]
      show eraseS (s.plan _) = _
      simp only [St.plan, eraseS, eraseTs_look]
    · simp only [lookS, h]
      show eraseS ((s.plan _).plan _) = _
      simp only [St.plan, eraseS, eraseTs_look, eraseTs_change]
  · right; right
    rw [eC]
    have ek : (eraseM x).k = x.k := by rw [eraseM_out h9]
    have en : (eraseM x).n = x.n := by rw [eraseM_out h9]
    have ea : ∀ j, j < x.l.length → (eraseM x).at j = eraseM (x.at j) := fun j hj => eraseM_at h9 hj
    have both : ∀ d, (d = 2 ∨ d = 3 ∨ d = 5) → x.l.length = 2 → eraseS (bothS s x e d) = bothS (eraseS s) (eraseM x) (e.map eraseV) d := fun d hd h2 => by
      simp only [bothS, St.plan, eraseS, eraseTs_look, eraseTs_do d hd, ea 0 (by omega), ea 1 (by omega)]
    rcases hk with hk | hk | hk | hk | hk | hk | hk | hk | hk | hk
    · simp only [lookS, ek, en, hk, if_true, List.getElem?_map]
      cases e[x.n.toNat]? with
      | none => rfl
      | some v => rfl
    · simp only [lookS, ek, en, hk]
      show eraseS (s.push _) = (eraseS s).push _
      simp only [St.push, eraseS, List.map_cons, eraseV_num]
    · simp only [lookS, ek, en, hk]
      show eraseS (s.push _) = (eraseS s).push _
      simp only [St.push, eraseS, List.map_cons, eraseV_truth]
    · simp only [lookS, ek, hk]
      exact both 2 (.inl rfl) (by rw [hl, hk]; rfl)
    · simp only [lookS, ek, hk]
      exact both 3 (.inr (.inl rfl)) (by rw [hl, hk]; rfl)
    · have h3 : x.l.length = 3 := by rw [hl, hk]; rfl
      simp only [lookS, ek, hk]
      show eraseS ((s.plan _).plan _) = ((eraseS s).plan _).plan _
      simp only [St.plan, eraseS, eraseTs_look, eraseTs_choose, ea 0 (by omega)]
    · have h3 : x.l.length = 1 := by rw [hl, hk]; rfl
      simp only [lookS, ek, hk]
      show eraseS (s.push _) = (eraseS s).push _
      simp only [St.push, eraseS, List.map_cons, eraseV_fun, ea 0 (by omega)]
    · simp only [lookS, ek, hk]
      exact both 5 (.inr (.inr rfl)) (by rw [hl, hk]; rfl)
    · exact absurd (.inl hk) h9
    · exact absurd (.inr hk) h9
theorem call_sim {d : Int} (hd : d = 5 ∨ d = 7) {ts : List Task} {u v : Val} {vs : List Val} {calls fuel : Nat} {ended : Out} (h0 : ended.k = 0) (hu : okV u) (hk : u.k = 3 ∨ u.k = 4) (h7 : d = 7 → u.k = 3) {t : Task} (ht : t.d = d) :
    Sim ⟨t :: ts, v :: u :: vs, calls, fuel, ended⟩ (callS ⟨ts, vs, calls, fuel, ended⟩ u v) := by
  have e5 : eraseT1 t = [doT 5] := by
    rcases hd with rfl | rfl
    · simp [eraseT1, ht, doT]
    · simp [eraseT1, ht]
  have eB : eraseS ⟨t :: ts, v :: u :: vs, calls, fuel, ended⟩ = ⟨doT 5 :: eraseTs ts, eraseV v :: eraseV u :: vs.map eraseV, calls, fuel, ended⟩ := by
    simp only [eraseS, eraseTs_cons, e5]; rfl
  unfold Sim
  rw [eB]
  unfold callS
  rcases hk with hk | hk
  · right; right
    rw [step_is h0, if_pos hk]
    have e1 := eraseV_out (v := u) (by omega)
    have e2 : (eraseV u).k = 3 := by rw [e1]; exact hk
    have e3 : (eraseV u).body = eraseM u.body := by rw [e1]; simp only; rw [if_pos hk]
    have e4 : (eraseV u).env = u.env.map eraseV := by rw [e1]
    simp only [doS, doT]
    show _ = callS ⟨eraseTs ts, vs.map eraseV, calls, fuel, ended⟩ (eraseV u) (eraseV v)
    unfold callS
    rw [if_pos e2]
    unfold enterS
    simp only
    split
    · rfl
    · simp only [eraseS, eraseTs_look, e3, e4, List.map_cons]
  · right; left
    have h5 : d = 5 := by
      rcases hd with h | h
      · exact h
      · have := h7 h; omega
    rw [if_neg (by omega), if_pos hk]
    obtain ⟨hi, _, _⟩ := hu.core4 hk
    simp only [accompS, eraseS, eraseTs_change, eraseTs_seven, List.map_cons, eraseV_in (.inl hk) hi]
theorem step_sim {s : St} {F : Ty} (ho : okS s) (h0 : s.ended.k = 0) (h : tyS s F) : Sim s (stepS s) := by
  rcases h with ⟨_, q, ht, hv⟩ | h | h
  · obtain ⟨⟨b, hw, hfl⟩, hvs, hts, _, _⟩ := ho
    obtain ⟨ts, vs, calls, fuel, ended⟩ := s
    match ts with
    | [] => rw [done_step (.inr rfl)]; exact .inr (.inl rfl)
    | t :: ts =>
      simp only at ht hv h0 hvs hts hw hfl
      rw [step_is h0]
      have htt := hts t (by simp)
      rcases ht with ⟨hd, G, i, h1, h2, h3⟩ | ⟨hd, r, rfl, h3⟩ | ⟨hd, r, rfl, h3⟩ | ⟨hd, G, i, r, rfl, h1, h2, h4, h3⟩ | ⟨hd, a, b, r, rfl, h3⟩ | ⟨hd, S, T, r, rfl, h1, h3⟩
      · obtain ⟨hx, hz, he⟩ := htt.1 (.inl hd)
        have := look_sim (s := ⟨ts, vs, calls, fuel, ended⟩) (x := t.x) (e := t.s) h0 hx
        have e1 : eraseT1 t = eraseT1 (lookT t.x t.s) := by simp [eraseT1, hd, lookT]
        have e2 : eraseS ⟨t :: ts, vs, calls, fuel, ended⟩ = eraseS ⟨lookT t.x t.s :: ts, vs, calls, fuel, ended⟩ := by
          simp only [eraseS, eraseTs_cons, e1]
        simp only [doS, hd, if_true]
        unfold Sim at this ⊢
        rw [e2]; exact this
      · obtain ⟨v, vs1, rfl, v1, hv1⟩ := tyE_one hv
        obtain ⟨u, vs2, rfl, u1, hv2⟩ := tyE_one hv1
        right; right
        have hvk := tyV_num v1
        have huk := tyV_num u1
        have e5 : eraseT1 t = [doT 2] := by simp [eraseT1, hd]
        have eB : eraseS ⟨t :: ts, v :: u :: vs2, calls, fuel, ended⟩ = ⟨doT 2 :: eraseTs ts, eraseV v :: eraseV u :: vs2.map eraseV, calls, fuel, ended⟩ := by
          simp only [eraseS, eraseTs_cons, e5]; rfl
        rw [eB, step_is h0]
        have a1 := eraseV_out (v := v) (by omega)
        have a2 := eraseV_out (v := u) (by omega)
        have b1 : (eraseV v).k = v.k ∧ (eraseV v).n = v.n := by rw [a1]; exact ⟨rfl, rfl⟩
        have b2 : (eraseV u).k = u.k ∧ (eraseV u).n = u.n := by rw [a2]; exact ⟨rfl, rfl⟩
        simp only [doS, hd, doT, b1, b2, hvk, huk]
        show eraseS ⟨ts, numV (clampI (u.n + v.n)) :: vs2, calls, fuel, _⟩ = ⟨eraseTs ts, numV (clampI (u.n + v.n)) :: vs2.map eraseV, calls, fuel, _⟩
        simp only [eraseS, List.map_cons, eraseV_num]
      · obtain ⟨v, vs1, rfl, v1, hv1⟩ := tyE_one hv
        obtain ⟨u, vs2, rfl, u1, hv2⟩ := tyE_one hv1
        right; right
        have hvk := tyV_num v1
        have huk := tyV_num u1
        have e5 : eraseT1 t = [doT 3] := by simp [eraseT1, hd]
        have eB : eraseS ⟨t :: ts, v :: u :: vs2, calls, fuel, ended⟩ = ⟨doT 3 :: eraseTs ts, eraseV v :: eraseV u :: vs2.map eraseV, calls, fuel, ended⟩ := by
          simp only [eraseS, eraseTs_cons, e5]; rfl
        rw [eB, step_is h0]
        have a1 := eraseV_out (v := v) (by omega)
        have a2 := eraseV_out (v := u) (by omega)
        have b1 : (eraseV v).k = v.k ∧ (eraseV v).n = v.n := by rw [a1]; exact ⟨rfl, rfl⟩
        have b2 : (eraseV u).k = u.k ∧ (eraseV u).n = u.n := by rw [a2]; exact ⟨rfl, rfl⟩
        simp only [doS, hd, doT, b1, b2, hvk, huk]
        show eraseS ⟨ts, truthV (if u.n < v.n then 1 else 0) :: vs2, calls, fuel, _⟩ = ⟨eraseTs ts, truthV (if u.n < v.n then 1 else 0) :: vs2.map eraseV, calls, fuel, _⟩
        simp only [eraseS, List.map_cons, eraseV_truth]
      · obtain ⟨v, vs1, rfl, v1, hv1⟩ := tyE_one hv
        obtain ⟨hx, hz, he⟩ := htt.1 (.inr hd)
        have hk6 := htt.2.1 hd
        have hl3 : t.x.l.length = 3 := by rw [hx.top.2.2.1, hk6]; rfl
        right; right
        have hvk := tyV_truth v1
        have e5 : eraseT1 t = [chooseT (eraseM t.x) (t.s.map eraseV)] := by simp [eraseT1, hd]
        have eB : eraseS ⟨t :: ts, v :: vs1, calls, fuel, ended⟩ = ⟨chooseT (eraseM t.x) (t.s.map eraseV) :: eraseTs ts, eraseV v :: vs1.map eraseV, calls, fuel, ended⟩ := by
          simp only [eraseS, eraseTs_cons, e5]; rfl
        rw [eB, step_is h0]
        have a1 := eraseV_out (v := v) (by omega)
        have b1 : (eraseV v).k = v.k ∧ (eraseV v).n = v.n := by rw [a1]; exact ⟨rfl, rfl⟩
        simp only [doS, hd, chooseT, b1, hvk]
        show eraseS (St.plan _ _) = St.plan _ _
        have : (eraseM t.x).at (if v.n = 1 then 1 else 2) = eraseM (t.x.at (if v.n = 1 then 1 else 2)) := eraseM_at (by omega) (by split <;> omega)
        simp only [St.plan, eraseS, eraseTs_look, this]
      · obtain ⟨v, vs1, rfl, v1, hv1⟩ := tyE_one hv
        obtain ⟨u, vs2, rfl, u1, hv2⟩ := tyE_one hv1
        have huo := hvs u (by simp)
        have hk : u.k = 3 ∨ u.k = 4 := by
          rcases tyV_fun u1 with ⟨h, _⟩ | ⟨h, _⟩
          · exact .inl h
          · exact .inr h
        have hn4 : t.d = 7 → u.k ≠ 4 := by
          intro h7
          rcases hw with ⟨hd', _⟩ | ⟨hd', _⟩ | ⟨hd', _⟩ | ⟨_, a', r', e', _⟩
          · omega
          · omega
          · omega
          · rw [e'] at hfl
            exact hfl.2.1 rfl
        have := call_sim hd (ts := ts) (v := v) (vs := vs2) (calls := calls) (fuel := fuel) (ended := ended) h0 huo hk (fun h => by have := hn4 h; omega) (t := t) rfl
        rcases hd with hd | hd
        all_goals
          simp only [doS, hd]
          exact this
      · obtain ⟨v, vs1, rfl, v1, hv1⟩ := tyE_one hv
        have hvo := hvs v (by simp)
        have e5 : eraseT1 t = [] := by simp [eraseT1, hd]
        have eB : eraseS ⟨t :: ts, v :: vs1, calls, fuel, ended⟩ = ⟨eraseTs ts, eraseV v :: vs1.map eraseV, calls, fuel, ended⟩ := by
          simp only [eraseS, eraseTs_cons, e5]; rfl
        have hdo : doS ⟨ts, v :: vs1, calls, fuel, ended⟩ t = changeS ⟨ts, vs1, calls, fuel, ended⟩ t.c v := by simp only [doS, hd]; rfl
        unfold Sim
        rw [eB, hdo]
        rcases change_ty (s := ⟨ts, vs1, calls, fuel, ended⟩) h1 v1 with ⟨u, e, hu⟩ | ⟨o, e, ho⟩
        · right; left
          have hu : eraseV u = eraseV v := by
            cases hc : t.c with
            | none =>
              rw [hc] at e
              have : v :: vs1 = u :: vs1 := congrArg St.vs e
              cases this; rfl
            | some c =>
              rw [hc] at e
              simp only [changeS] at e
              split at e
              · exfalso; have := congrArg (fun s => s.ended.k) e; simp [St.stop, St.push, stuckO, h0] at this
              rename_i n1
              split at e
              · exfalso
                have := congrArg St.vs e
                have := congrArg List.length this
                simp [St.stop, St.push] at this
              split at e
              · exfalso
                have := congrArg St.vs e
                have := congrArg List.length this
                simp [St.stop, St.push] at this
              · have : ofC c v :: vs1 = u :: vs1 := congrArg St.vs e
                cases this
                exact eraseV_of hvo fun ho => Classical.byContradiction fun h => n1 ⟨ho, h⟩
          rw [e]
          simp only [St.push, eraseS, List.map_cons, hu]
        · left
          rw [e]; exact ho
  · omega
  · omega
theorem told_erase {v : Val} {T : Ty} (ho : okV v) (h : tyV v T) : toldV (eraseV v) = toldV v := by
  have h4 : ∀ (u : Val) (T : Ty), okV u → tyV u T → u.k ≠ 5 → (eraseV u).k ≠ 5 ∧ toldV (eraseV u) = toldV u := by
    intro u T hu ht h5
    by_cases hk : u.k = 4
    · obtain ⟨hi, _, hco⟩ := hu.core4 hk
      have h3 : u.core.k = 3 := by
        cases u
        rcases tyV_mk.1 ht with ⟨h, _⟩ | ⟨h, _⟩ | ⟨h, _⟩ | ⟨_, v, A0, B0, A, B, _, h3, ⟨rfl, _⟩, _⟩ | ⟨h, _⟩
        · simp only at hk; omega
        · simp only at hk; omega
        · simp only at hk; omega
        · exact h3
        · simp only at hk; omega
      rw [eraseV_in (.inl hk) hi, eraseV_out (v := u.core) (by omega)]
      simp [toldV, h3, hk]
    · rw [eraseV_out (v := u) (by omega)]
      refine ⟨h5, ?_⟩
      simp [toldV, h5]
  by_cases h5 : v.k = 5
  · obtain ⟨hi, hco⟩ := ho.core5 h5
    have hT : ∃ s, tyV v.core (gr s) ∧ v.core.k ≠ 5 := by
      cases v
      rcases tyV_mk.1 h with ⟨h, _⟩ | ⟨h, _⟩ | ⟨h, _⟩ | ⟨h, _⟩ | ⟨_, _, hs, v, rfl, hv⟩
      · simp only at h5; omega
      · simp only at h5; omega
      · simp only at h5; omega
      · simp only at h5; omega
      · refine ⟨_, hv, ?_⟩
        show v.k ≠ 5
        rcases hs with rfl | rfl | rfl
        · rw [tyV_num hv]; omega
        · rw [tyV_truth hv]; omega
        · rcases tyV_fun (A := anyY) (B := anyY) hv with ⟨h, _⟩ | ⟨h, _⟩ <;> omega
    obtain ⟨s, ht, hn⟩ := hT
    obtain ⟨a, b⟩ := h4 v.core _ hco ht hn
    rw [eraseV_in (.inr h5) hi, b]
    simp only [toldV, h5, if_true]
    rw [if_neg hn]
  · exact (h4 v T ho h h5).2
theorem run_sim {s : St} {F : Ty} (ho : okS s) (h : tyS s F) : ∀ n, (runN n s).ended.k = 4 ∨ ∃ m, eraseS (runN n s) = runN m (eraseS s)
  | 0 => .inr ⟨0, rfl⟩
  | n + 1 => by
    rw [runN_succ]
    rcases run_sim ho h n with h4 | ⟨m, hm⟩
    · left; rw [done_step (.inl (by omega))]; exact h4
    · by_cases he : (runN n s).ended.k = 0
      · rcases step_sim (run_ok ho n he).1 he (run_ty h n) with h4 | e | e
        · exact .inl h4
        · exact .inr ⟨m, by rw [e, hm]⟩
        · exact .inr ⟨m + 1, by rw [e, hm, runN_succ]⟩
      · rw [done_step (.inl he)]; exact .inr ⟨m, hm⟩
theorem erase_fin {s : St} {F : Ty} (hd : s.done) (hty : tyS s F) (hok : s.ended.k = 0 → okS s) : (eraseS s).done ∧ finO (eraseS s) = finO s := by
  refine ⟨?_, ?_⟩
  · rcases hd with hd | hd
    · exact .inl hd
    · exact .inr (by simp only [eraseS, hd]; rfl)
  · unfold finO
    by_cases h0 : s.ended.k = 0
    · have : (eraseS s).ended.k = 0 := h0
      rw [if_pos h0, if_pos this]
      rcases hd with hd | hd
      · exact absurd h0 hd
      · rcases hty with ⟨_, q, h3, h4⟩ | h3 | h3
        · rw [hd] at h3
          rw [show q = [F] from h3] at h4
          obtain ⟨v, r, e, hv, _⟩ := tyE_one h4
          have hvo := (hok h0).vs v (by rw [e]; simp)
          have : (eraseS s).vs = eraseV v :: r.map eraseV := by simp only [eraseS, e, List.map_cons]
          rw [this, e]
          exact told_erase hvo hv
        · omega
        · omega
    · have : ¬ (eraseS s).ended.k = 0 := h0
      rw [if_neg h0, if_neg this]
      rfl
theorem finO_blamed {s : St} (h : s.ended.k = 4) : (finO s).k = 4 := by
  unfold finO
  rw [if_neg (by omega)]; exact h
theorem st0_erase (y : Tm) (fuel : Nat) : eraseS (st0 y fuel) = st0 (eraseM y) fuel := by simp only [eraseS, st0, eraseTs_look]; rfl
/-- As long as nobody is blamed types change nothing. -/
theorem runM_erase {y : Tm} {i : Ty} {fuel : Nat} (h : shp y) (hz : y.tsz ≤ 100) (hf : fuel ≤ 100) (ht : tyM y [] i) : (runM y fuel).k = 4 ∨ runM (eraseM y) fuel = runM y fuel := by
  obtain ⟨e1, e2⟩ := eraseM_shp y h
  have ho := (st0_ok h hz hf).1
  have hz2 : (eraseM y).tsz ≤ 100 := Nat.le_trans e2 hz
  have he := erase_fin (runM_done h hz hf) (run_ty (st0_ty ht fuel) bigN) (fun h0 => (run_ok ho bigN h0).1)
  rcases run_sim ho (st0_ty ht fuel) bigN with h4 | ⟨m, hm⟩
  · left
    rw [runM_eq]; exact finO_blamed h4
  · right
    rw [st0_erase] at hm
    rw [hm] at he
    rw [runM_of e1 hz2 hf he.1, runM_eq y fuel]
    exact he.2
end Go.Proofs.YtnddkmccagiclabGreatDoor
