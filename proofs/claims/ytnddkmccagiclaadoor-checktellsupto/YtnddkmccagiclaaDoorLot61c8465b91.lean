/-
  Plain mathematics of check: where all is told nothing is cast; who says less is not refused; no program in it.
-/
import Derived.Test.YtnddkmccagiclaaDoorLote9a8627915
import Derived.Test.YtnddkmccagiclaaDoorLota7a9f45d5a
import Derived.Deep.DeepCutAuto
namespace Go.Proofs.YtnddkmccagiclaaDoor

theorem len2 {α : Type} {l : List α} (h : l.length = 2) : ∃ a b, l = [a, b] := by
  match l, h with
  | [a, b], _ => exact ⟨a, b, rfl⟩
theorem len3 {α : Type} {l : List α} (h : l.length = 3) : ∃ a b c, l = [a, b, c] := by
  match l, h with
  | [a, b, c], _ => exact ⟨a, b, c, rfl⟩

/-! ### All told -/

def sureM : Tm → Bool
  | ⟨k, _, t, _, l⟩ => (!(tells k) || sureY t) && (l.map fun x => sureM x).all id
theorem sureM_mk (k n : Int) (t f : Ty) (l : List Tm) : sureM ⟨k, n, t, f, l⟩ = ((!(tells k) || sureY t) && l.all sureM) := by
  rw [sureM, List.all_map]
  rfl

/-- Two types that are sure fit only if they are one. -/
theorem sure_one : ∀ (n : Nat) (a b : Ty), goodY n a = true → goodY n b = true → sureY a = true → sureY b = true → relY escFits a b = true → a = b
  | 0, a, b, h, _, _, _, _ => by simp [goodY] at h
  | n + 1, a, b, ha, hb, sa, sb, h => by
    rcases goodY_cases ha with ⟨ka, rfl, hka⟩ | ⟨x, y, rfl, hx, hy⟩
    · have k0 : ka ≠ 0 := by simpa [sureY_mk] using sa
      rcases goodY_cases hb with ⟨kb, rfl, hkb⟩ | ⟨x', y', rfl, hx', hy'⟩
      · have k1 : kb ≠ 0 := by simpa [sureY_mk] using sb
        simp [relY_mk, relL, escFits, k0, k1] at h
        rw [h]
      · simp [relY_mk, relL, escFits, k0] at h
    · rcases goodY_cases hb with ⟨kb, rfl, hkb⟩ | ⟨x', y', rfl, hx', hy'⟩
      · have k1 : kb ≠ 0 := by simpa [sureY_mk] using sb
        simp [relY_mk, relL, escFits, k1] at h
      · have sa' : sureY x = true ∧ sureY y = true := by simpa [sureY_mk] using sa
        have sb' : sureY x' = true ∧ sureY y' = true := by simpa [sureY_mk] using sb
        rw [two _ _ _ _ _ rfl, Bool.and_eq_true] at h
        rw [sure_one n x x' hx hx' sa'.1 sb'.1 h.1, sure_one n y y' hy hy' sa'.2 sb'.2 h.2]

theorem sure_num : sureY ⟨1, []⟩ = true := by simp [sureY_mk]
theorem sure_truth : sureY ⟨2, []⟩ = true := by simp [sureY_mk]

theorem rule_sure {k n : Int} {t : Ty} {ps takes : List Ty} {i : Ty} {us : List Ty} (m : Nat) (hm : 4 ≤ m) (h1 : 1 ≤ k) (h9 : k ≤ 9) (hl : ps.length = partsOf k) (hn : k = 1 → n.toNat < takes.length) (ht : goodY 4 t = true) (hp : ∀ u, u ∈ ps → goodY m u = true)
    (st : tells k = true → sureY t = true) (sp : ∀ u, u ∈ ps → sureY u = true) (sT : ∀ u, u ∈ takes → sureY u = true) (h : ruleY k n t ps takes = some (i, us)) (hf : fitL ps us = true) : sureY i = true ∧ us = ps := by
  have hk : k = 1 ∨ k = 2 ∨ k = 3 ∨ k = 4 ∨ k = 5 ∨ k = 6 ∨ k = 7 ∨ k = 8 ∨ k = 9 := by omega
  obtain ⟨m, rfl⟩ : ∃ r, m = r + 1 := ⟨m - 1, by omega⟩
  rcases hk with rfl | rfl | rfl | rfl | rfl | rfl | rfl | rfl | rfl
  · have hl0 : ps = [] := List.length_eq_zero_iff.1 (by rw [hl]; rfl)
    subst hl0
    have hn' := hn rfl
    simp [ruleY, hn'] at h
    obtain ⟨rfl, rfl⟩ := h
    exact ⟨sT _ (List.getElem_mem hn'), rfl⟩
  · have hl0 : ps = [] := List.length_eq_zero_iff.1 (by rw [hl]; rfl)
    subst hl0
    simp [ruleY] at h
    obtain ⟨rfl, rfl⟩ := h
    exact ⟨sure_num, rfl⟩
  · have hl0 : ps = [] := List.length_eq_zero_iff.1 (by rw [hl]; rfl)
    subst hl0
    simp [ruleY] at h
    obtain ⟨rfl, rfl⟩ := h
    exact ⟨sure_truth, rfl⟩
  · obtain ⟨a, b, rfl⟩ : ∃ a b, ps = [a, b] := len2 (by rw [hl]; rfl)
    simp [ruleY] at h
    obtain ⟨rfl, rfl⟩ := h
    simp only [fitL, Bool.and_eq_true, Bool.and_true] at hf
    rw [sure_one (m + 1) a ⟨1, []⟩ (hp a (by simp)) (goodY_num _) (sp a (by simp)) sure_num hf.1, sure_one (m + 1) b ⟨1, []⟩ (hp b (by simp)) (goodY_num _) (sp b (by simp)) sure_num hf.2]
    exact ⟨sure_num, rfl⟩
  · obtain ⟨a, b, rfl⟩ : ∃ a b, ps = [a, b] := len2 (by rw [hl]; rfl)
    simp [ruleY] at h
    obtain ⟨rfl, rfl⟩ := h
    simp only [fitL, Bool.and_eq_true, Bool.and_true] at hf
    rw [sure_one (m + 1) a ⟨1, []⟩ (hp a (by simp)) (goodY_num _) (sp a (by simp)) sure_num hf.1, sure_one (m + 1) b ⟨1, []⟩ (hp b (by simp)) (goodY_num _) (sp b (by simp)) sure_num hf.2]
    exact ⟨sure_truth, rfl⟩
  · obtain ⟨a, b, c, rfl⟩ : ∃ a b c, ps = [a, b, c] := len3 (by rw [hl]; rfl)
    have h' : ifY ⟨2, []⟩ b c = some (i, us) := by simpa [ruleY] using h
    unfold ifY at h'
    split at h'
    · rename_i hbc
      have e := sure_one (m + 1) b c (hp b (by simp)) (hp c (by simp)) (sp b (by simp)) (sp c (by simp)) hbc
      subst e
      rw [(join_facts (m + 1) b b (hp b (by simp)) (hp b (by simp))).2.2.2.2] at h'
      cases h'
      simp only [fitL, Bool.and_eq_true, Bool.and_true] at hf
      rw [sure_one (m + 1) a ⟨2, []⟩ (hp a (by simp)) (goodY_truth _) (sp a (by simp)) sure_truth hf.1]
      exact ⟨sp _ (by simp), rfl⟩
    · cases h'
  · obtain ⟨a, rfl⟩ : ∃ a, ps = [a] := List.length_eq_one_iff.1 (by rw [hl]; rfl)
    have h' : some (Ty.mk 3 [t, a], [a]) = some (i, us) := by simpa [ruleY] using h
    cases h'
    refine ⟨?_, rfl⟩
    simp [sureY_mk, st rfl, sp a (by simp)]
  · obtain ⟨a, b, rfl⟩ : ∃ a b, ps = [a, b] := len2 (by rw [hl]; rfl)
    have h' : callY a = some (i, us) := by simpa [ruleY] using h
    have sa := sp a (by simp)
    rcases goodY_cases (hp a (by simp)) with ⟨k, rfl, hk⟩ | ⟨x, y, rfl, hx, hy⟩
    · rcases hk with rfl | rfl | rfl
      · simp [sureY_mk] at sa
      · simp [callY] at h'
      · simp [callY] at h'
    · simp [callY] at h'
      obtain ⟨rfl, rfl⟩ := h'
      have sa' : sureY x = true ∧ sureY y = true := by simpa [sureY_mk] using sa
      simp only [fitL, Bool.and_eq_true, Bool.and_true] at hf
      rw [sure_one (m + 1) b x (hp b (by simp)) (goodY_more m _ _ (by omega) hx) (sp b (by simp)) sa'.1 hf.2]
      exact ⟨sa'.2, rfl⟩
  · obtain ⟨a, rfl⟩ : ∃ a, ps = [a] := List.length_eq_one_iff.1 (by rw [hl]; rfl)
    have h' : some (t, [t]) = some (i, us) := by simpa [ruleY] using h
    cases h'
    simp only [fitL, Bool.and_true] at hf
    rw [sure_one (m + 1) a t (hp a (by simp)) (goodY_more 4 _ _ (by omega) ht) (sp a (by simp)) (st rfl) hf]
    exact ⟨st rfl, rfl⟩

theorem castL_same : ∀ ps : List (Nat × Tm × Ty), castL ps (ps.map fun p => p.2.2) = ps.map fun p => p.2.1
  | [] => rfl
  | p :: r => by simp [castL, castY, relY_refl, castL_same r]

theorem readL_same {takes : List Ty} : ∀ (l : List Tm) (c : Nat) (ps : List (Nat × Tm × Ty)), readL l takes c = some ps → (∀ x, x ∈ l → ∀ c y i, readS x takes c = some (y, i) → y = x) → ps.map (fun p => p.2.1) = l
  | [], c, ps, h, _ => by rw [readL] at h; cases h; rfl
  | x :: r, c, ps, h, hQ => by
    obtain ⟨y, i, q, h1, h2, rfl⟩ := readL_cons h
    simp [hQ x (by simp) c y i h1, readL_same r _ q h2 fun z hz => hQ z (by simp [hz])]

/-- Where all is told the type is sure, and nothing is cast. -/
theorem read_sure : ∀ (x : Tm) (takes : List Ty) (c : Nat) (y : Tm) (i : Ty), okTm x takes.length → (∀ u, u ∈ takes → goodY 4 u = true) → (∀ u, u ∈ takes → sureY u = true) → sureM x = true → readS x takes c = some (y, i) → sureY i = true ∧ y = x := by
  intro x
  induction x using Tm.ind with
  | h k n t f l ih =>
    intro takes c y i hok hT hS hs h
    obtain ⟨h0, h1⟩ := okTm_mk.1 hok
    obtain ⟨k1, k9, hl, hf0, ht, _, hn⟩ := okTop_all h0
    obtain ⟨ps, us, e1, e2, e3, rfl⟩ := readS_some h
    rw [sureM_mk, Bool.and_eq_true] at hs
    have st : tells k = true → sureY t = true := fun hk => by simpa [hk] using hs.1
    have hlen := readL_length _ _ _ _ e1
    have hTS : ∀ u, u ∈ takesIn k t takes → sureY u = true := by
      intro u hu
      unfold takesIn at hu
      split at hu
      · rename_i hk
        rcases List.mem_cons.1 hu with rfl | hu
        · exact st (by rw [hk]; rfl)
        · exact hS u hu
      · exact hS u hu
    have key : ∀ x, x ∈ l → ∀ c y i, readS x (takesIn k t takes) c = some (y, i) → sureY i = true ∧ y = x := fun x hx c y i hr =>
      ih x hx _ c y i (by rw [takesIn_length]; exact h1 x hx) (takesIn_good ht hT) hTS (List.all_eq_true.1 hs.2 x hx) hr
    have hp : ∀ u, u ∈ ps.map (fun p => p.2.2) → goodY ((l.map Tm.sz).sum + 4) u = true ∧ sureY u = true := by
      intro u hu
      obtain ⟨j, hj, rfl⟩ := List.getElem_of_mem hu
      have hj' : j < ps.length := by simpa using hj
      have := readL_all (Q := fun x _ _ i => goodY (x.sz + 4) i = true ∧ sureY i = true) l _ ps e1 (fun x hx c y i hr => ⟨read_good x _ c y i (by rw [takesIn_length]; exact h1 x hx) (takesIn_good ht hT) hr, (key x hx c y i hr).1⟩) j hj' (by omega)
      have hs := sz_mem l l[j] (List.getElem_mem _)
      simpa using And.intro (goodY_more _ ((l.map Tm.sz).sum + 4) _ (by omega) this.1) this.2
    have hn' : k = 1 → n.toNat < (takesIn k t takes).length := by
      intro hk
      have := hn hk
      rw [takesIn_length, hk]
      simp
      omega
    obtain ⟨si, rfl⟩ := rule_sure ((l.map Tm.sz).sum + 4) (by omega) k1 k9 (by simpa using hlen.trans hl) hn' ht (fun u hu => (hp u hu).1) st (fun u hu => (hp u hu).2) hTS e2 e3
    refine ⟨si, ?_⟩
    rw [castL_same, readL_same l _ ps e1 fun x hx c y i hr => (key x hx c y i hr).2, isAny_eq hf0]

/-! ### Sites -/

def sitesM : Tm → List (Int × Ty × Ty)
  | ⟨k, n, t, f, l⟩ => (if k = 10 then [(n, f, t)] else []) ++ (l.map fun x => sitesM x).flatten
theorem sitesM_mk (k n : Int) (t f : Ty) (l : List Tm) : sitesM ⟨k, n, t, f, l⟩ = (if k = 10 then [(n, f, t)] else []) ++ l.flatMap sitesM := by
  rw [sitesM]
  rfl

theorem sites_ok : ∀ (x : Tm) (ins : Nat), okTm x ins → sitesM x = [] := by
  intro x
  induction x using Tm.ind with
  | h k n t f l ih =>
    intro ins hok
    obtain ⟨h0, h1⟩ := okTm_mk.1 hok
    obtain ⟨k1, k9, _⟩ := okTop_all h0
    rw [sitesM_mk, if_neg (by omega), List.nil_append, List.flatMap_eq_nil_iff]
    exact fun x hx => ih x hx _ (h1 x hx)

/-! ### Less told -/

/-- Two lists, each with each. -/
def both {α β : Type} : (l : List α) → List β → ((x : α) → x ∈ l → β → Prop) → Prop
  | [], [], _ => True
  | x :: r, y :: s, f => f x List.mem_cons_self y ∧ both r s (fun z h y => f z (List.mem_cons_of_mem _ h) y)
  | _, _, _ => False

/-- A term that tells less: some types that were told are Any. -/
def looser : Tm → Tm → Prop
  | ⟨k, n, t, f, l⟩, ⟨k', n', t', f', l'⟩ => k' = k ∧ n' = n ∧ f' = f ∧ (t' = t ∨ tells k = true ∧ t' = anyY) ∧ both l l' fun x _ y => looser x y

def looserL : List Tm → List Tm → Prop
  | [], [] => True
  | x :: r, y :: s => looser x y ∧ looserL r s
  | _, _ => False

theorem both_looser : ∀ l l' : List Tm, (both l l' fun x _ y => looser x y) = looserL l l'
  | [], [] => rfl
  | x :: r, y :: s => by simp only [both, looserL, both_looser r s]
  | [], _ :: _ => rfl
  | _ :: _, [] => rfl

theorem looser_mk {k n k' n' : Int} {t f t' f' : Ty} {l l' : List Tm} : looser ⟨k, n, t, f, l⟩ ⟨k', n', t', f', l'⟩ ↔ k' = k ∧ n' = n ∧ f' = f ∧ (t' = t ∨ tells k = true ∧ t' = anyY) ∧ looserL l l' := by
  rw [looser, both_looser]

theorem looserL_len : ∀ l m : List Tm, looserL l m → m.length = l.length
  | [], [], _ => rfl
  | x :: r, y :: s, h => by simp [looserL_len r s h.2]
  | [], _ :: _, h => by simp [looserL] at h
  | _ :: _, [], h => by simp [looserL] at h

theorem looserL_at : ∀ (l m : List Tm), looserL l m → ∀ j (h : j < l.length) (h' : j < m.length), looser l[j] m[j]
  | [], _, _, j, hj, _ => by simp at hj
  | _ :: _, [], _, j, _, hj => by simp at hj
  | x :: r, y :: s, h, 0, _, _ => h.1
  | x :: r, y :: s, h, j + 1, h1, h2 => looserL_at r s h.2 j (by simpa using h1) (by simpa using h2)

theorem looserL_snoc : ∀ (l m : List Tm) (x y : Tm), looserL l m → looser x y → looserL (l ++ [x]) (m ++ [y])
  | [], [], x, y, _, h => by simp [looserL, h]
  | a :: r, b :: s, x, y, h, h' => by
    simp only [List.cons_append, looserL]
    exact ⟨h.1, looserL_snoc r s x y h.2 h'⟩
  | [], _ :: _, _, _, h, _ => by simp [looserL] at h
  | _ :: _, [], _, _, h, _ => by simp [looserL] at h

theorem looserL_sz : ∀ (l m : List Tm), (∀ x, x ∈ l → ∀ u, looser x u → u.sz = x.sz) → looserL l m → m.map Tm.sz = l.map Tm.sz
  | [], [], _, _ => rfl
  | x :: r, y :: s, h, hl => by
    simp [h x (by simp) y hl.1, looserL_sz r s (fun z hz => h z (by simp [hz])) hl.2]
  | [], _ :: _, _, h => by simp [looserL] at h
  | _ :: _, [], _, h => by simp [looserL] at h

theorem looser_sz : ∀ (x u : Tm), looser x u → u.sz = x.sz := by
  intro x
  induction x using Tm.ind with
  | h k n t f l ih =>
    rintro ⟨k', n', t', f', l'⟩ h
    rw [Tm.sz_mk, Tm.sz_mk, looserL_sz l l' ih (looser_mk.1 h).2.2.2.2]

theorem bindL_looser {f g : Tm → Nat → Option Nat} (hf : ∀ x u, looser x u → ∀ q q', f x q = some q' → g u q = some q') : ∀ (l m : List Tm) (r r' : Nat), looserL l m → bindL f l r = some r' → bindL g m r = some r'
  | [], [], r, r', _, h => h
  | x :: l, y :: m, r, r', hl, h => by
    simp only [bindL] at h ⊢
    cases hq : f x r with
    | none => rw [hq] at h; cases h
    | some q =>
      rw [hq] at h
      rw [hf x y hl.1 r q hq]
      exact bindL_looser hf l m q r' hl.2 h
  | [], _ :: _, _, _, h, _ => by simp [looserL] at h
  | _ :: _, [], _, _, h, _ => by simp [looserL] at h

theorem okTop_looser {k n : Int} {t f t' : Ty} {l l' : List Tm} {ins : Int} (ht : t' = t ∨ tells k = true ∧ t' = anyY) (hl : l'.length = l.length) (h : okTop 0 ins ⟨k, n, t, f, l⟩ = true) : okTop 0 ins ⟨k, n, t', f, l'⟩ = true := by
  rcases ht with rfl | ⟨hk, rfl⟩
  · simpa [okTop, hl] using h
  · simp only [okTop, okTypes, hk, if_true, hl, Bool.and_eq_true] at h ⊢
    exact ⟨h.1, ⟨h.2.1.1, goodY_any 3⟩, h.2.2⟩

theorem good_looser : ∀ (n : Nat) (ins : Int) (x u : Tm) (r r' : Nat), looser x u → goodS 0 n ins x r = some r' → goodS 0 n ins u r = some r'
  | 0, _, _, _, _, _, _, h => by simp [goodS] at h
  | _ + 1, _, _, _, 0, _, _, h => by simp [goodS] at h
  | n + 1, ins, ⟨k, m, t, f, l⟩, ⟨k', m', t', f', l'⟩, r + 1, r', hx, h => by
    obtain ⟨rfl, rfl, rfl, ht, hl⟩ := looser_mk.1 hx
    simp only [goodS] at h ⊢
    split at h
    · rename_i h0
      rw [if_pos (okTop_looser ht (looserL_len _ _ hl) h0)]
      exact bindL_looser (fun x u hu q q' => good_looser n _ x u q q' hu) l l' r r' hl h
    · cases h

theorem goodM_looser {x u : Tm} (h : looser x u) (hx : goodM 0 x = true) : goodM 0 u = true := by
  obtain ⟨r', hr⟩ := Option.isSome_iff_exists.1 hx
  exact Option.isSome_iff_exists.2 ⟨r', good_looser 40 0 x u 40 r' h hr⟩

theorem finerL_at {l m : List Ty} (h : relL escFiner l m = true) (j : Nat) : relY escFiner (l.getD j ⟨0, []⟩) (m.getD j ⟨0, []⟩) = true := by
  induction l generalizing m j with
  | nil =>
    cases m with
    | nil => simp [relY_mk, relL]
    | cons => simp [relL] at h
  | cons x r ih =>
    cases m with
    | nil => simp [relL] at h
    | cons y s =>
      simp only [relL, Bool.and_eq_true] at h
      match j with
      | 0 => simpa using h.1
      | j + 1 => simpa using ih h.2 j

theorem fits_both (n : Nat) {a b a' b' : Ty} (ha : goodY n a = true) (hb : goodY n b = true) (ha' : goodY n a' = true) (hb' : goodY n b' = true) (h : relY escFits a b = true) (h1 : relY escFiner a a' = true) (h2 : relY escFiner b b' = true) : relY escFits a' b' = true := by
  have g1 := fits_coarser n a b b' ha hb hb' h h2
  rw [fits_sym n a b' ha hb'] at g1
  have g2 := fits_coarser n b' a a' hb' ha ha' g1 h1
  rw [fits_sym n b' a' hb' ha'] at g2
  exact g2

theorem join_mono (n : Nat) {a b a' b' : Ty} (ha : goodY n a = true) (hb : goodY n b = true) (ha' : goodY n a' = true) (hb' : goodY n b' = true) (h1 : relY escFiner a a' = true) (h2 : relY escFiner b b' = true) : relY escFiner (joinY a b) (joinY a' b') = true := by
  obtain ⟨gj, f1, f2, _, _⟩ := join_facts n a' b' ha' hb'
  exact join_least n a b _ ha hb gj (finer_trans n a a' _ ha ha' gj h1 f1) (finer_trans n b b' _ hb hb' gj h2 f2)

theorem finer_refl : ∀ (n : Nat) (a : Ty), goodY n a = true → relY escFiner a a = true
  | 0, a, h => by simp [goodY] at h
  | n + 1, a, ha => by
    rcases goodY_cases ha with ⟨ka, rfl, _⟩ | ⟨x, y, rfl, hx, hy⟩
    · simp [relY_mk, relL]
    · rw [two _ _ _ _ _ rfl, finer_refl n x hx, finer_refl n y hy]; rfl

theorem fitL_self (m : Nat) : ∀ ps : List Ty, (∀ u, u ∈ ps → goodY m u = true) → fitL ps ps = true
  | [], _ => rfl
  | x :: r, h => by simp [fitL, fits_refl m x (h x (by simp)), fitL_self m r fun u hu => h u (by simp [hu])]

theorem rule_loose {k n : Int} {t t' : Ty} {ps ps' takes takes' : List Ty} {i : Ty} {us : List Ty} (m : Nat) (hm : 4 ≤ m) (h1 : 1 ≤ k) (h9 : k ≤ 9) (hl : ps.length = partsOf k) (ht : goodY 4 t = true) (ht' : goodY 4 t' = true)
    (hp : ∀ u, u ∈ ps → goodY m u = true) (hp' : ∀ u, u ∈ ps' → goodY m u = true) (ft : relY escFiner t t' = true) (fp : relL escFiner ps ps' = true) (fT : relL escFiner takes takes' = true) (h : ruleY k n t ps takes = some (i, us)) (hf : fitL ps us = true) :
    ∃ i' us', ruleY k n t' ps' takes' = some (i', us') ∧ fitL ps' us' = true ∧ relY escFiner i i' = true := by
  have hk : k = 1 ∨ k = 2 ∨ k = 3 ∨ k = 4 ∨ k = 5 ∨ k = 6 ∨ k = 7 ∨ k = 8 ∨ k = 9 := by omega
  obtain ⟨m, rfl⟩ : ∃ r, m = r + 1 := ⟨m - 1, by omega⟩
  have hlp := relL_len _ _ _ fp
  have num := goodY_num m
  have truth := goodY_truth m
  rcases hk with rfl | rfl | rfl | rfl | rfl | rfl | rfl | rfl | rfl
  · have hl0 : ps' = [] := List.length_eq_zero_iff.1 (by rw [← hlp, hl]; rfl)
    subst hl0
    have h' : some (takes.getD n.toNat ⟨0, []⟩, []) = some (i, us) := by simpa [ruleY] using h
    cases h'
    exact ⟨takes'.getD n.toNat ⟨0, []⟩, [], by simp [ruleY], rfl, finerL_at fT _⟩
  · have hl0 : ps' = [] := List.length_eq_zero_iff.1 (by rw [← hlp, hl]; rfl)
    subst hl0
    simp [ruleY] at h
    obtain ⟨rfl, rfl⟩ := h
    exact ⟨_, _, by simp [ruleY]; exact ⟨rfl, rfl⟩, rfl, by simp [relY_mk, relL]⟩
  · have hl0 : ps' = [] := List.length_eq_zero_iff.1 (by rw [← hlp, hl]; rfl)
    subst hl0
    simp [ruleY] at h
    obtain ⟨rfl, rfl⟩ := h
    exact ⟨_, _, by simp [ruleY]; exact ⟨rfl, rfl⟩, rfl, by simp [relY_mk, relL]⟩
  · obtain ⟨a, b, rfl⟩ : ∃ a b, ps = [a, b] := len2 (by rw [hl]; rfl)
    obtain ⟨a', b', rfl⟩ : ∃ a b, ps' = [a, b] := len2 (by rw [← hlp]; rfl)
    simp only [relL, Bool.and_eq_true, Bool.and_true] at fp
    simp [ruleY] at h
    obtain ⟨rfl, rfl⟩ := h
    simp only [fitL, Bool.and_eq_true, Bool.and_true] at hf
    refine ⟨⟨1, []⟩, [⟨1, []⟩, ⟨1, []⟩], by simp [ruleY], ?_, by simp [relY_mk, relL]⟩
    simp only [fitL, Bool.and_eq_true, Bool.and_true]
    exact ⟨fits_both (m + 1) (hp a (by simp)) num (hp' a' (by simp)) num hf.1 fp.1 (finer_refl _ _ num), fits_both (m + 1) (hp b (by simp)) num (hp' b' (by simp)) num hf.2 fp.2 (finer_refl _ _ num)⟩
  · obtain ⟨a, b, rfl⟩ : ∃ a b, ps = [a, b] := len2 (by rw [hl]; rfl)
    obtain ⟨a', b', rfl⟩ : ∃ a b, ps' = [a, b] := len2 (by rw [← hlp]; rfl)
    simp only [relL, Bool.and_eq_true, Bool.and_true] at fp
    simp [ruleY] at h
    obtain ⟨rfl, rfl⟩ := h
    simp only [fitL, Bool.and_eq_true, Bool.and_true] at hf
    refine ⟨⟨2, []⟩, [⟨1, []⟩, ⟨1, []⟩], by simp [ruleY], ?_, by simp [relY_mk, relL]⟩
    simp only [fitL, Bool.and_eq_true, Bool.and_true]
    exact ⟨fits_both (m + 1) (hp a (by simp)) num (hp' a' (by simp)) num hf.1 fp.1 (finer_refl _ _ num), fits_both (m + 1) (hp b (by simp)) num (hp' b' (by simp)) num hf.2 fp.2 (finer_refl _ _ num)⟩
  · obtain ⟨a, b, c, rfl⟩ : ∃ a b c, ps = [a, b, c] := len3 (by rw [hl]; rfl)
    obtain ⟨a', b', c', rfl⟩ : ∃ a b c, ps' = [a, b, c] := len3 (by rw [← hlp]; rfl)
    simp only [relL, Bool.and_eq_true, Bool.and_true] at fp
    have h' : ifY ⟨2, []⟩ b c = some (i, us) := by simpa [ruleY] using h
    unfold ifY at h'
    split at h'
    · rename_i hbc
      cases h'
      simp only [fitL, Bool.and_eq_true, Bool.and_true] at hf
      have gb := hp b (by simp)
      have gc := hp c (by simp)
      have gb' := hp' b' (by simp)
      have gc' := hp' c' (by simp)
      obtain ⟨gj, f1, f2, _, _⟩ := join_facts (m + 1) b' c' gb' gc'
      have hbc' := fits_both (m + 1) gb gc gb' gc' hbc fp.2.1 fp.2.2
      refine ⟨joinY b' c', [⟨2, []⟩, joinY b' c', joinY b' c'], by simp [ruleY, ifY, hbc'], ?_, join_mono (m + 1) gb gc gb' gc' fp.2.1 fp.2.2⟩
      simp only [fitL, Bool.and_eq_true, Bool.and_true]
      exact ⟨fits_both (m + 1) (hp a (by simp)) truth (hp' a' (by simp)) truth hf.1 fp.1 (finer_refl _ _ truth), finer_fits (m + 1) _ _ gb' gj f1, finer_fits (m + 1) _ _ gc' gj f2⟩
    · cases h'
  · obtain ⟨a, rfl⟩ : ∃ a, ps = [a] := List.length_eq_one_iff.1 (by rw [hl]; rfl)
    obtain ⟨a', rfl⟩ : ∃ a, ps' = [a] := List.length_eq_one_iff.1 (by rw [← hlp]; rfl)
    simp only [relL, Bool.and_true] at fp
    have h' : some (Ty.mk 3 [t, a], [a]) = some (i, us) := by simpa [ruleY] using h
    cases h'
    refine ⟨⟨3, [t', a']⟩, [a'], by simp [ruleY], fitL_self (m + 1) _ hp', ?_⟩
    rw [two _ _ _ _ _ rfl, ft, fp]; rfl
  · obtain ⟨a, b, rfl⟩ : ∃ a b, ps = [a, b] := len2 (by rw [hl]; rfl)
    obtain ⟨a', b', rfl⟩ : ∃ a b, ps' = [a, b] := len2 (by rw [← hlp]; rfl)
    simp only [relL, Bool.and_eq_true, Bool.and_true] at fp
    have h' : callY a = some (i, us) := by simpa [ruleY] using h
    have ga := hp a (by simp)
    have ga' := hp' a' (by simp)
    have anyCase : a' = ⟨0, []⟩ → ∃ i' us', ruleY 8 n t' [a', b'] takes' = some (i', us') ∧ fitL [a', b'] us' = true ∧ relY escFiner i i' = true := by
      rintro rfl
      refine ⟨⟨0, []⟩, [⟨3, [⟨0, []⟩, ⟨0, []⟩]⟩, ⟨0, []⟩], by simp [ruleY, callY], ?_, any_coarser _ _⟩
      simp [fitL, any_left, any_right]
    rcases goodY_cases ga' with ⟨k', rfl, hk'⟩ | ⟨x', y', rfl, hx', hy'⟩
    · rcases goodY_cases ga with ⟨k, rfl, hk⟩ | ⟨x, y, rfl, hx, hy⟩
      · rcases hk with rfl | rfl | rfl
        · have : k' = 0 := by
            have := fp.1
            simp [relY_mk, relL, escFiner] at this
            omega
          subst this
          exact anyCase rfl
        · simp [callY] at h'
        · simp [callY] at h'
      · have : k' = 0 := by
          have := fp.1
          simp [relY_mk, relL, escFiner] at this
          omega
        subst this
        exact anyCase rfl
    · rcases goodY_cases ga with ⟨k, rfl, hk⟩ | ⟨x, y, rfl, hx, hy⟩
      · have := fp.1
        simp [relY_mk, relL, escFiner] at this
      · simp [callY] at h'
        obtain ⟨rfl, rfl⟩ := h'
        simp only [fitL, Bool.and_eq_true, Bool.and_true] at hf
        have f1 := fp.1
        rw [two _ _ _ _ _ rfl, Bool.and_eq_true] at f1
        refine ⟨y', [⟨3, [x', y']⟩, x'], by simp [ruleY, callY], ?_, f1.2⟩
        simp only [fitL, Bool.and_eq_true, Bool.and_true]
        exact ⟨fits_refl (m + 1) _ ga', fits_both (m + 1) (hp b (by simp)) (goodY_more m _ _ (by omega) hx) (hp' b' (by simp)) (goodY_more m _ _ (by omega) hx') hf.2 fp.2 f1.1⟩
  · obtain ⟨a, rfl⟩ : ∃ a, ps = [a] := List.length_eq_one_iff.1 (by rw [hl]; rfl)
    obtain ⟨a', rfl⟩ : ∃ a, ps' = [a] := List.length_eq_one_iff.1 (by rw [← hlp]; rfl)
    simp only [relL, Bool.and_true] at fp
    have h' : some (t, [t]) = some (i, us) := by simpa [ruleY] using h
    cases h'
    simp only [fitL, Bool.and_true] at hf
    refine ⟨t', [t'], by simp [ruleY], ?_, ft⟩
    simp only [fitL, Bool.and_true]
    exact fits_both (m + 1) (hp a (by simp)) (goodY_more 4 _ _ (by omega) ht) (hp' a' (by simp)) (goodY_more 4 _ _ (by omega) ht') hf fp ft

theorem readL_loose {takes takes' : List Ty} : ∀ (l l' : List Tm) (c : Nat) (ps : List (Nat × Tm × Ty)), looserL l l' → readL l takes c = some ps →
    (∀ x, x ∈ l → ∀ u, looser x u → ∀ c y i, readS x takes c = some (y, i) → ∃ y' i', readS u takes' c = some (y', i') ∧ relY escFiner i i' = true) →
    ∃ ps', readL l' takes' c = some ps' ∧ relL escFiner (ps.map fun p => p.2.2) (ps'.map fun p => p.2.2) = true
  | [], [], c, ps, _, h, _ => by rw [readL] at h; cases h; exact ⟨[], by rw [readL], by simp [relL]⟩
  | x :: r, u :: s, c, ps, hl, h, hQ => by
    obtain ⟨y, i, q, h1, h2, rfl⟩ := readL_cons h
    obtain ⟨y', i', g1, g2⟩ := hQ x (by simp) u hl.1 c y i h1
    obtain ⟨q', g3, g4⟩ := readL_loose r s _ q hl.2 h2 fun z hz => hQ z (by simp [hz])
    refine ⟨(c, y', i') :: q', ?_, by simp [relL, g2, g4]⟩
    rw [readL, g1, looser_sz x u hl.1]
    simp [g3]
  | [], _ :: _, _, _, h, _, _ => by simp [looserL] at h
  | _ :: _, [], _, _, h, _, _ => by simp [looserL] at h

theorem looser_ok : ∀ (x u : Tm) (ins : Nat), looser x u → okTm x ins → okTm u ins := by
  intro x
  induction x using Tm.ind with
  | h k n t f l ih =>
    rintro ⟨k', n', t', f', l'⟩ ins h hok
    obtain ⟨rfl, rfl, rfl, ht, hl⟩ := looser_mk.1 h
    obtain ⟨h0, h1⟩ := okTm_mk.1 hok
    have hlen := looserL_len _ _ hl
    refine okTm_mk.2 ⟨okTop_looser ht hlen h0, fun y hy => ?_⟩
    obtain ⟨j, hj, rfl⟩ := List.getElem_of_mem hy
    exact ih l[j] (List.getElem_mem _) _ _ (looserL_at l l' hl j (by omega) hj) (h1 _ (List.getElem_mem _))

theorem relL_refl_good (m : Nat) : ∀ l : List Ty, (∀ u, u ∈ l → goodY m u = true) → relL escFiner l l = true
  | [], _ => by simp [relL]
  | x :: r, h => by simp [relL, finer_refl m x (h x (by simp)), relL_refl_good m r fun u hu => h u (by simp [hu])]

/-- Who says less is not refused for it, and its type says less. -/
theorem read_loose : ∀ (x u : Tm) (takes takes' : List Ty) (c : Nat) (y : Tm) (i : Ty), looser x u → okTm x takes.length → (∀ u, u ∈ takes → goodY 4 u = true) → (∀ u, u ∈ takes' → goodY 4 u = true) → relL escFiner takes takes' = true → readS x takes c = some (y, i) →
    ∃ y' i', readS u takes' c = some (y', i') ∧ relY escFiner i i' = true := by
  intro x
  induction x using Tm.ind with
  | h k n t f l ih =>
    rintro ⟨k', n', t', f', l'⟩ takes takes' c y i hu hok hT hT' fT h
    have hok' := looser_ok _ _ _ hu hok
    obtain ⟨rfl, rfl, rfl, htt, hl⟩ := looser_mk.1 hu
    obtain ⟨h0, h1⟩ := okTm_mk.1 hok
    obtain ⟨h0', h1'⟩ := okTm_mk.1 hok'
    obtain ⟨k1, k9, hlp, _, ht, _, _⟩ := okTop_all h0
    obtain ⟨_, _, hlp', _, ht', _, _⟩ := okTop_all h0'
    obtain ⟨ps, us, e1, e2, e3, rfl⟩ := readS_some h
    have ft : relY escFiner t t' = true := by
      rcases htt with rfl | ⟨_, rfl⟩
      · exact finer_refl 4 _ ht
      · exact any_coarser _ _
    have fT2 : relL escFiner (takesIn k' t takes) (takesIn k' t' takes') = true := by
      unfold takesIn
      split
      · simp [relL, ft, fT]
      · exact fT
    have hTl := relL_len _ _ _ fT
    obtain ⟨ps', g1, g2⟩ := readL_loose (takes' := takesIn k' t' takes') l l' (c + 1) ps hl e1 fun z hz u hzu c y i hr =>
      ih z hz u _ _ c y i hzu (by rw [takesIn_length]; exact h1 z hz) (takesIn_good ht hT) (takesIn_good ht' hT') fT2 hr
    have hlen := readL_length _ _ _ _ e1
    have hlen' := readL_length _ _ _ _ g1
    have hp : ∀ u, u ∈ ps.map (fun p => p.2.2) → goodY ((l.map Tm.sz).sum + 4) u = true := by
      intro u hu
      obtain ⟨j, hj, rfl⟩ := List.getElem_of_mem hu
      have hj' : j < ps.length := by simpa using hj
      have := readL_all (Q := fun x _ _ i => goodY (x.sz + 4) i = true) l _ ps e1 (fun x hx c y i hr => read_good x _ c y i (by rw [takesIn_length]; exact h1 x hx) (takesIn_good ht hT) hr) j hj' (by omega)
      have hs := sz_mem l l[j] (List.getElem_mem _)
      simpa using goodY_more _ ((l.map Tm.sz).sum + 4) _ (by omega) this
    have hsz : (l'.map Tm.sz).sum = (l.map Tm.sz).sum := by
      rw [looserL_sz l l' (fun x _ u => looser_sz x u) hl]
    have hp' : ∀ u, u ∈ ps'.map (fun p => p.2.2) → goodY ((l.map Tm.sz).sum + 4) u = true := by
      intro u hu
      obtain ⟨j, hj, rfl⟩ := List.getElem_of_mem hu
      have hj' : j < ps'.length := by simpa using hj
      have := readL_all (Q := fun x _ _ i => goodY (x.sz + 4) i = true) l' _ ps' g1 (fun x hx c y i hr => read_good x _ c y i (by rw [takesIn_length, ← hTl]; exact h1' x hx) (takesIn_good ht' hT') hr) j hj' (by omega)
      have hs := sz_mem l' l'[j] (List.getElem_mem _)
      simpa using goodY_more _ ((l.map Tm.sz).sum + 4) _ (by omega) this
    obtain ⟨i', us', r1, r2, r3⟩ := rule_loose ((l.map Tm.sz).sum + 4) (by omega) k1 k9 (by simpa using hlen.trans hlp) ht ht' hp hp' ft g2 fT2 e2 e3
    refine ⟨⟨k', n', t', anyY, castL ps' us'⟩, i', ?_, r3⟩
    rw [readS_mk, g1]
    simp [r1, r2]
end Go.Proofs.YtnddkmccagiclaaDoor

/-
  Rows of terms that a call makes longer, in blocks of a kind; the frame of chaperonekeep.loose; no program's run in it.
-/
namespace Go.Proofs.YtnddkmccagiclaaDoor
open Go.RowKit

structure RowT (Q : Nat → Prop) (base : Nat) (v : Value) (cs : List TT) (w : World) : Prop where
  own : w.ownsRow base 27 7 v cs.length (cells7 cs)
  ins : ∀ c, c ∈ cs → c.In w ∧ c.Bl (fun b => Q b ∧ some b ≠ v.ownBlock)

theorem RowT.nil (Q : Nat → Prop) (base : Nat) (w : World) : RowT Q base (.slice none 0 0) [] w := ⟨World.ownsRow_nil _ _ _ _, fun c h => by cases h⟩

theorem RowT.below {Q : Nat → Prop} {base : Nat} {v : Value} {cs : List TT} {w w' : World} (h : RowT Q base v cs w) (hb : Below w.heap.size w w') : RowT Q base v cs w' := by
  refine ⟨⟨h.own.1, ?_⟩, fun c hc => ⟨(h.ins c hc).1.below hb, (h.ins c hc).2⟩⟩
  rcases h.own.2 with hn | ⟨g, cap, cur, hv, hb', hg, rest⟩
  · exact .inl hn
  · exact .inr ⟨g, cap, cur, hv, hb', (hb.block g (Array.getElem?_eq_some_iff.1 hg).1).trans hg, rest⟩

theorem RowT.lt {Q : Nat → Prop} {base : Nat} {v : Value} {cs : List TT} {w : World} (h : RowT Q base v cs w) (k : Nat) (hk : v.ownBlock = some k) : base ≤ k ∧ k < w.heap.size := h.own.lt k hk

/-- One more. -/
theorem RowT.step {Q : Nat → Prop} {base : Nat} {v : Value} {cs : List TT} {w2 w3 : World} {c : TT} {gg cap1 : Nat} {X : Obj} (h : RowT Q base v cs w2) (hi : c.In w2) (hb : c.Bl (fun b => Q b ∧ some b ≠ v.ownBlock))
    (hown : w3.ownsRow base 27 7 (.slice (some ⟨gg, 0, none⟩) (cs.length + 1) cap1) (cs.length + 1) (cells7 cs ++ cells7 [c])) (hgrow : (w2.alloc X).grownBy w3 v.ownBlock) (hat : v.ownBlock = some gg ∨ gg = w2.heap.size + 1) :
    RowT Q base (.slice (some ⟨gg, 0, none⟩) (cs.length + 1) cap1) (cs ++ [c]) w3 ∧ ∀ k, k < w2.heap.size → some k ≠ v.ownBlock → w3.heap[k]? = w2.heap[k]? := by
  have hblk : ∀ k, k < w2.heap.size → some k ≠ v.ownBlock → w3.heap[k]? = w2.heap[k]? := fun k hk hn => by
    rw [hgrow.block k (by simp; omega) hn]
    exact ((Below.refl _ w2).alloc (Nat.le_refl _) X).block k hk
  refine ⟨⟨by rw [cells7_append, List.length_append, List.length_singleton]; exact hown, fun d hd => ?_⟩, hblk⟩
  have key : d.In w2 ∧ d.Bl (fun b => Q b ∧ some b ≠ v.ownBlock) := by
    rcases List.mem_append.1 hd with hd | hd
    · exact h.ins d hd
    · rcases List.mem_singleton.1 hd with rfl
      exact ⟨hi, hb⟩
  have hne : ∀ b, b < w2.heap.size ∧ (Q b ∧ some b ≠ v.ownBlock) → Q b ∧ some b ≠ (Value.slice (some ⟨gg, 0, none⟩) (cs.length + 1) cap1).ownBlock := by
    intro b hb
    refine ⟨hb.2.1, ?_⟩
    show some b ≠ some gg
    rcases hat with e | e
    · rw [← e]; exact hb.2.2
    · simp only [ne_eq, Option.some.injEq]; omega
  have hsame : ∀ b, b < w2.heap.size ∧ (Q b ∧ some b ≠ v.ownBlock) → ∀ i, w3.cell? ⟨b, i, none⟩ = w2.cell? ⟨b, i, none⟩ := fun b hb i =>
    World.cell?_of_block (a := ⟨b, i, none⟩) (hblk b hb.1 hb.2.2)
  have y3 := key.1.bl.and key.2
  exact ⟨key.1.congr (P := fun b => b < w2.heap.size ∧ (Q b ∧ some b ≠ v.ownBlock)) hsame y3, y3.mono hne⟩

/-- A row that the call owns is a term's list. -/
theorem RowT.list {Q : Nat → Prop} {base : Nat} {v : Value} {cs : List TT} {w : World} (h : RowT Q base v cs w) : ∃ a c, v = .slice a cs.length c ∧ (∀ j (hj : j < cs.length), ∃ b o, a = some ⟨b, o, none⟩ ∧ At7 w b (o + j * 7) cs[j]) ∧ (∀ y, cs ≠ [] → a = some y → base ≤ y.block) := by
  rcases h.own.2 with ⟨rfl, h0⟩ | ⟨g, cap, cur, rfl, hg, _⟩
  · have : cs = [] := List.length_eq_zero_iff.1 h0
    subst this
    exact ⟨none, 0, rfl, fun j hj => absurd hj (by simp), fun y h => absurd rfl h⟩
  · refine ⟨_, _, rfl, fun j hj => ⟨g, 0, rfl, ?_⟩, fun y _ hy => by cases hy; exact hg⟩
    have hc : ∀ i, i < 7 → w.cell? ⟨g, 0 + j * 7 + i, none⟩ = _ := fun i hi => by rw [Nat.zero_add, h.own.cellAt (j * 7 + i) (by omega), cells7_at cs j hj i hi]
    exact ⟨hc 0 (by omega), hc 1 (by omega), hc 2 (by omega), hc 3 (by omega), hc 4 (by omega), hc 5 (by omega), hc 6 (by omega)⟩

/-- The frame of loose: the term's box, the place of the answer. -/
structure LF (H : Nat) (x : TT) (W : World) : Prop where
  b : Box7 W H x
  z : ZB7 W (H + 1)

theorem LF.lt {H : Nat} {x : TT} {W : World} (h : LF H x W) : H + 1 < W.heap.size := h.z.lt
theorem LF.below {H : Nat} {x : TT} {W W' : World} (h : LF H x W) (hb : Below W.heap.size W W') : LF H x W' := ⟨h.b.below hb, h.z.later hb⟩
theorem LF.far {H : Nat} {x : TT} {W W' : World} (h : LF H x W) (h1 : W'.heap[H]? = W.heap[H]?) (h2 : W'.heap[H + 1]? = W.heap[H + 1]?) : LF H x W' := by
  have c1 : ∀ i, W'.cell? ⟨H, i, none⟩ = W.cell? ⟨H, i, none⟩ := fun i => World.cell?_of_block (a := ⟨H, i, none⟩) h1
  have c2 : ∀ i, W'.cell? ⟨H + 1, i, none⟩ = W.cell? ⟨H + 1, i, none⟩ := fun i => World.cell?_of_block (a := ⟨H + 1, i, none⟩) h2
  have f1 : ∀ i, W'.frozen? ⟨H, i, none⟩ = W.frozen? ⟨H, i, none⟩ := fun i => World.frozen?_of_block (a := ⟨H, i, none⟩) h1
  have f2 : ∀ i, W'.frozen? ⟨H + 1, i, none⟩ = W.frozen? ⟨H + 1, i, none⟩ := fun i => World.frozen?_of_block (a := ⟨H + 1, i, none⟩) h2
  obtain ⟨⟨y0, y1, y2, y3, y4, y5, y6⟩, g0, g1, g2, g3, g4, g5, g6⟩ := h.z
  exact ⟨⟨h.b.at7.of c1, fun i hi => (f1 i).trans (h.b.fz i hi)⟩, ⟨(c2 0).trans y0, (c2 1).trans y1, (c2 2).trans y2, (c2 3).trans y3, (c2 4).trans y4, (c2 5).trans y5, (c2 6).trans y6⟩, (f2 0).trans g0, (f2 1).trans g1, (f2 2).trans g2, (f2 3).trans g3, (f2 4).trans g4, (f2 5).trans g5, (f2 6).trans g6⟩

theorem LF.start (x : TT) (w : World) : LF w.heap.size x ((w.alloc (.cells #[.int .i64 x.k, .int .i64 x.n, .int .i64 x.t.k, .slice x.t.a x.t.l.length x.t.c, .int .i64 x.f.k, .slice x.f.a x.f.l.length x.f.c, .slice x.a x.l.length x.c] 27)).alloc (.cells #[.int .i64 0, .int .i64 0, .int .i64 0, .slice none 0 0, .int .i64 0, .slice none 0 0, .slice none 0 0] 27)) := by
  refine ⟨⟨⟨?_, ?_, ?_, ?_, ?_, ?_, ?_⟩, fun i _ => ?_⟩, ⟨?_, ?_, ?_, ?_, ?_, ?_, ?_⟩, ?_, ?_, ?_, ?_, ?_, ?_, ?_⟩ <;> simp [go_sem]

/-- What loose answers. -/
def LoPost (Q : Nat → Prop) (x : TT) (w : World) (e : Ending) (w' : World) : Prop :=
  ∃ (u : TT) (m : Int), e = .returned (.tuple #[.agg #[.int .i64 u.k, .int .i64 u.n, .int .i64 u.t.k, .slice u.t.a u.t.l.length u.t.c, .int .i64 u.f.k, .slice u.f.a u.f.l.length u.f.c, .slice u.a u.l.length u.c], .int .i64 m]) ∧ looser x.tm u.tm ∧ u.In w' ∧ u.Bl Q ∧ u.nb ∧ Below w.heap.size w w'
end Go.Proofs.YtnddkmccagiclaaDoor

/-
  What the call of chaperonekeep.loose answers: a term that tells less, or as much.
-/
namespace Go.Proofs.YtnddkmccagiclaaDoor
open Go.RowKit

/-- No list is longer than what memory holds. -/
def TT.lw : TT → Prop
  | ⟨_, _, _, _, _, _, l⟩ => l.length ≤ 1353245080300 ∧ ∀ y, y ∈ l → y.lw
theorem TT.lw_mk {k n : Int} {t f : Tr} {a : Option Addr} {c : Nat} {l : List TT} : (TT.mk k n t f a c l).lw ↔ l.length ≤ 1353245080300 ∧ ∀ y, y ∈ l → y.lw := by
  rw [TT.lw]
theorem TT.lw.len {x : TT} (h : x.lw) : x.l.length ≤ 1353245080300 := by cases x; exact (TT.lw_mk.1 h).1
theorem TT.lw.mem {x y : TT} (h : x.lw) (hy : y ∈ x.l) : y.lw := by
  obtain ⟨k, n, t, f, a, c, l⟩ := x
  exact (TT.lw_mk.1 h).2 y hy

def withT (x : TT) (t : Tr) : TT := ⟨x.k, x.n, t, x.f, x.a, x.c, x.l⟩
theorem withT_self (x : TT) : withT x x.t = x := by cases x; rfl
def toldT (x : TT) (t : Tr) : Prop := t = x.t ∨ tells x.k = true ∧ t = leaf 0

theorem ZB7.kept {R b : Nat} {w w' : World} (h : ZB7 w b) (hk : Kept R none w w') (hb : b ≠ R) : ZB7 w' b := by
  have hl := h.lt
  obtain ⟨⟨h0, h1, h2, h3, h4, h5, h6⟩, f0, f1, f2, f3, f4, f5, f6⟩ := h
  exact ⟨⟨hk.cell h0 hb, hk.cell h1 hb, hk.cell h2 hb, hk.cell h3 hb, hk.cell h4 hb, hk.cell h5 hb, hk.cell h6 hb⟩, hk.fz f0 hl hb, hk.fz f1 hl hb, hk.fz f2 hl hb, hk.fz f3 hl hb, hk.fz f4 hl hb, hk.fz f5 hl hb, hk.fz f6 hl hb⟩

set_option maxRecDepth 20000 in
set_option maxHeartbeats 8000000 in
theorem loose_step (Q : Nat → Prop) (x : TT) (k : Int) (w : World) (hx : x.In w) (hnb : x.nb) (hlw : x.lw) (xb : x.Bl Q) (nw : ∀ b, w.heap.size ≤ b → Q b) (ih : ∀ y, y ∈ x.l → ∀ (Q' : Nat → Prop) (k' : Int) (W : World), y.In W → y.Bl Q' → (∀ b, W.heap.size ≤ b → Q' b) → Calls Tryd.prog 30 #[.agg #[.int .i64 y.k, .int .i64 y.n, .int .i64 y.t.k, .slice y.t.a y.t.l.length y.t.c, .int .i64 y.f.k, .slice y.f.a y.f.l.length y.f.c, .slice y.a y.l.length y.c], .int .i64 k'] W (LoPost Q' y W)) :
    Calls Tryd.prog 30 #[.agg #[.int .i64 x.k, .int .i64 x.n, .int .i64 x.t.k, .slice x.t.a x.t.l.length x.t.c, .int .i64 x.f.k, .slice x.f.a x.f.l.length x.f.c, .slice x.a x.l.length x.c], .int .i64 k] w (LoPost Q x w) := by
  obtain ⟨i0, hi0, hz0, hz1, hz2⟩ := info_parts Tryd.info27c
  have hxl : x.l.length ≤ 1353245080300 := hlw.len
  obtain ⟨W1, hW1⟩ : ∃ W1, W1 = ((w.alloc (.cells #[.int .i64 x.k, .int .i64 x.n, .int .i64 x.t.k, .slice x.t.a x.t.l.length x.t.c, .int .i64 x.f.k, .slice x.f.a x.f.l.length x.f.c, .slice x.a x.l.length x.c] 27)).alloc (.cells #[.int .i64 0, .int .i64 0, .int .i64 0, .slice none 0 0, .int .i64 0, .slice none 0 0, .slice none 0 0] 27)) := ⟨_, rfl⟩
  have hb1 : Below w.heap.size w W1 := by rw [hW1]; exact ((Below.refl _ _).alloc (Nat.le_refl _) _).alloc (by simp) _
  have hlf : LF w.heap.size x W1 := by rw [hW1]; exact LF.start x w
  have HX : Hid (x.In w ∧ x.nb ∧ x.Bl Q ∧ (∀ b, w.heap.size ≤ b → Q b) ∧ Below w.heap.size w W1 ∧ LF w.heap.size x W1) := ⟨hx, hnb, xb, nw, hb1, hlf⟩
  have HIH : Hid (∀ y, y ∈ x.l → ∀ (Q' : Nat → Prop) (k' : Int) (W : World), y.In W → y.Bl Q' → (∀ b, W.heap.size ≤ b → Q' b) → Calls Tryd.prog 30 #[.agg #[.int .i64 y.k, .int .i64 y.n, .int .i64 y.t.k, .slice y.t.a y.t.l.length y.t.c, .int .i64 y.f.k, .slice y.f.a y.f.l.length y.f.c, .slice y.a y.l.length y.c], .int .i64 k'] W (LoPost Q' y W)) := ih
  obtain ⟨⟨p0, p1, p2, p3, p4, p5, p6⟩, fz⟩ := hlf.b
  simp only [Nat.zero_add] at p0 p1 p2 p3 p4 p5 p6
  have g2 := fz 2 (by omega)
  have g3 := fz 3 (by omega)
  clear hx hnb hlw xb nw ih hb1 hlf fz
  go_enter Tryd.func30, Tryd.ntmps30
  go_upto_region 2 with fail
  rw [← hW1]
  clear hW1
  go_cut [19] (fun s19 wx => s19 = .bool (tells x.k) ∧ wx = W1)
  case first =>
    by_cases k7 : x.k = 7
    · have e7 : (x.k == 7) = true := by simpa using k7
      have HT : Hid (tells x.k = true) := by simp [Hid, tells, k7]
      clear k7
      go_wp2_with fail
      go_meet
      case rel => exact ⟨by rw [HT.out], rfl⟩
    · have e7 : (x.k == 7) = false := by simpa using k7
      by_cases k9 : x.k = 9
      · have e9 : (x.k == 9) = true := by simpa using k9
        have HT : Hid (tells x.k = true) := by simp [Hid, tells, k9]
        clear k7 k9
        go_wp2_with fail
        go_meet
        case rel => exact ⟨by rw [HT.out], rfl⟩
      · have e9 : (x.k == 9) = false := by simpa using k9
        have HT : Hid (tells x.k = false) := by simp [Hid, tells, k7, k9]
        clear k7 k9
        go_wp2_with fail
        go_meet
        case rel => exact ⟨by rw [HT.out], rfl⟩
  case rest =>
  obtain ⟨rfl, rfl⟩ := hcut
  obtain ⟨tb, htb⟩ : ∃ tb, tells x.k = tb := ⟨_, rfl⟩
  have HTB : Hid (tells x.k = tb) := htb
  rw [htb]
  clear htb
  go_upto_if 19 with fail
  go_cut [6] (fun s6 wx => ∃ (m : Int) (t' : Tr), s6 = .int .i64 m ∧ Hid (LF w.heap.size (withT x t') wx ∧ Below w.heap.size w wx ∧ toldT x t'))
  case first =>
    cases tb
    · have HN : Hid (LF w.heap.size (withT x x.t) wc ∧ Below w.heap.size w wc ∧ toldT x x.t) := ⟨by rw [withT_self]; exact HX.out.2.2.2.2.2, HX.out.2.2.2.2.1, .inl rfl⟩
      go_wp2_with fail
      go_meet
      case rel => exact ⟨0, x.t, rfl, HN⟩
    · by_cases hk0 : k = 0
      · have hk' : (k == 0) = true := by simpa using hk0
        have HN : Hid (LF w.heap.size (withT x (leaf 0)) ((wc.setCell ⟨w.heap.size, 2, none⟩ (.int .i64 0)).setCell ⟨w.heap.size, 3, none⟩ (.slice none 0 0)) ∧ Below w.heap.size w ((wc.setCell ⟨w.heap.size, 2, none⟩ (.int .i64 0)).setCell ⟨w.heap.size, 3, none⟩ (.slice none 0 0)) ∧ toldT x (leaf 0)) := by
          obtain ⟨_, _, _, _, h5, h6⟩ := HX.out
          refine ⟨⟨h6.b.set23 (t := leaf 0), ?_⟩, (h5.setCell (Nat.le_refl _) _).setCell (Nat.le_refl _) _, .inr ⟨HTB.out, rfl⟩⟩
          exact h6.z.kept (set23_kept (u := .int .i64 0) (v := .slice none 0 0)) (by omega)
        clear hk0
        go_wp2_with fail
        go_meet
        case rel => exact ⟨1, leaf 0, rfl, HN⟩
      · have hk' : (k == 0) = false := by simpa using hk0
        have HN : Hid (LF w.heap.size (withT x x.t) wc ∧ Below w.heap.size w wc ∧ toldT x x.t) := ⟨by rw [withT_self]; exact HX.out.2.2.2.2.2, HX.out.2.2.2.2.1, .inl rfl⟩
        clear hk0
        go_wp2_with fail
        go_meet
        case rel => exact ⟨1, x.t, rfl, HN⟩
  case rest =>
  obtain ⟨m0, t', rfl, HT0⟩ := hcut
  have q6 := HT0.out.1.b.at7.c6
  simp only [Nat.zero_add, withT] at q6
  have hxk : x.l.length ≤ 1353245080300 := hxl
  have HL0 : Hid (Below w.heap.size w wc ∧ LF w.heap.size (withT x t') wc ∧ RowT (fun b => Q b ∧ b ≠ w.heap.size ∧ b ≠ w.heap.size + 1) (w.heap.size + 1 + 1) (Value.slice none 0 0) ([] : List TT) wc ∧ ([] : List TT).length = 0 ∧ looserL ((x.l.take 0).map TT.tm) (([] : List TT).map TT.tm) ∧ (∀ c, c ∈ ([] : List TT) → c.nb)) := ⟨HT0.out.2.1, HT0.out.1, RowT.nil _ _ _, rfl, by simp [looserL], fun c h => by cases h⟩
  have HTT : Hid (toldT x t') := HT0.out.2.2
  clear HT0 p0 p1 p2 p3 p4 p5 p6 g2 g3 HTB
  go_wp2_with fail
  clear q6
  go_loopg [6, 7, 27] x.l.length (fun g s6 s7 s27 wr => ∃ (j : Nat) (m : Int) (v : Value) (cs : List TT), g + j = x.l.length ∧ s6 = .int .i64 m ∧ v = s7 ∧ s27 = .int .i64 (j : Int) ∧ Hid (Below w.heap.size w wr ∧ LF w.heap.size (withT x t') wr ∧ RowT (fun b => Q b ∧ b ≠ w.heap.size ∧ b ≠ w.heap.size + 1) (w.heap.size + 1 + 1) v cs wr ∧ cs.length = j ∧ looserL ((x.l.take j).map TT.tm) (cs.map TT.tm) ∧ (∀ c, c ∈ cs → c.nb)))
  case atStart => exact ⟨0, m0, _, [], by omega, rfl, rfl, rfl, HL0⟩
  case round =>
    obtain ⟨j, m, v, cs, hj, rfl, hv, rfl, HQ⟩ := hrel
    subst hv
    clear HL0
    by_cases hlt : j < x.l.length
    · obtain ⟨b, o, ea, hX, hyi⟩ := HX.out.1.part j hlt
      have hym : x.l[j] ∈ x.l := List.getElem_mem hlt
      obtain ⟨y, hye⟩ : ∃ y, x.l[j] = y := ⟨_, rfl⟩
      have hyb := HX.out.2.2.1.mem hym
      rw [hye] at hX hyi hym hyb
      obtain ⟨d0, d1, d2, d3, d4, d5, d6⟩ := hX.below HQ.out.1
      have i1 : (j : Int) < (x.l.length : Int) := by omega
      have i0' : (0 : Int) ≤ (j : Int) := by omega
      have HEA : Hid (x.a = some ⟨b, o, none⟩) := ea
      rw [ea]
      obtain ⟨OX, hOX⟩ : ∃ O, O = Obj.cells #[.int .i64 y.k, .int .i64 y.n, .int .i64 y.t.k, .slice y.t.a y.t.l.length y.t.c, .int .i64 y.f.k, .slice y.f.a y.f.l.length y.f.c, .slice y.a y.l.length y.c] 27 := ⟨_, rfl⟩
      have hbA : Below wr.heap.size wr (wr.alloc OX) := (Below.refl _ _).alloc (Nat.le_refl _) _
      have hbE := HQ.out.1.trans (hbA.mono HQ.out.1.size)
      have hrow := HQ.out.2.2.1
      have hlfr := HQ.out.2.1
      have hltw := hlfr.lt
      have HC : Hid (∀ k' : Int, Calls Tryd.prog 30 #[.agg #[.int .i64 y.k, .int .i64 y.n, .int .i64 y.t.k, .slice y.t.a y.t.l.length y.t.c, .int .i64 y.f.k, .slice y.f.a y.f.l.length y.f.c, .slice y.a y.l.length y.c], .int .i64 k'] (wr.alloc OX) (LoPost (fun b => (Q b ∧ b ≠ w.heap.size ∧ b ≠ w.heap.size + 1) ∧ some b ≠ v.ownBlock) y (wr.alloc OX))) := by
        intro k'
        refine HIH.out y hym _ k' _ (hyi.below hbE) ((hyb.and hyi.bl).mono fun b hb => ⟨⟨hb.1, by omega, by omega⟩, fun e => by have := (hrow.lt b e.symm).1; omega⟩) fun b hb => ?_
        simp only [World.size_alloc] at hb
        exact ⟨⟨HX.out.2.2.2.1 b (by omega), by omega, by omega⟩, fun e => by have := (hrow.lt b e.symm).2; omega⟩
      have HE : Hid (Below w.heap.size w (wr.alloc OX) ∧ LF w.heap.size (withT x t') (wr.alloc OX) ∧ RowT (fun b => Q b ∧ b ≠ w.heap.size ∧ b ≠ w.heap.size + 1) (w.heap.size + 1 + 1) v cs (wr.alloc OX) ∧ cs.length = j ∧ looserL ((x.l.take j).map TT.tm) (cs.map TT.tm) ∧ (∀ c, c ∈ cs → c.nb) ∧ x.l[j] = y) := ⟨hbE, hlfr.below hbA, hrow.below hbA, HQ.out.2.2.2.1, HQ.out.2.2.2.2.1, HQ.out.2.2.2.2.2, hye⟩
      have hcl : cs.length + 1 ≤ 1353245080300 := by have := HQ.out.2.2.2.1; omega
      clear ea hX hyi hym hyb hye hbA hbE hrow hlfr hltw HQ
      subst hOX
      go_wp2_with fail
      refine (HC.out _).mono ?_
      rintro e w2 ⟨u, m2, rfl, hlo, hui, hub, hunb, hb2⟩
      clear d0 d1 d2 d3 d4 d5 d6
      obtain ⟨OU, hOU⟩ : ∃ O, O = Obj.cells #[.int .i64 u.k, .int .i64 u.n, .int .i64 u.t.k, .slice u.t.a u.t.l.length u.t.c, .int .i64 u.f.k, .slice u.f.a u.f.l.length u.f.c, .slice u.a u.l.length u.c] 27 := ⟨_, rfl⟩
      have hbR : Below w2.heap.size w2 (w2.alloc OU) := (Below.refl _ _).alloc (Nat.le_refl _) _
      have hb3 := hb2.trans (hbR.mono hb2.size)
      have hrow2 := HE.out.2.2.1.below hb3
      obtain ⟨N, hN⟩ : ∃ N, cs.length = N := ⟨_, rfl⟩
      obtain ⟨xs, hxs⟩ : ∃ xs, cells7 cs = xs := ⟨_, rfl⟩
      have uo : (w2.alloc OU).ownsRow (w.heap.size + 1 + 1) 27 7 v N xs := by rw [← hN, ← hxs]; exact hrow2.own
      have hnew := heap_alloc_new (w2.alloc OU) OU
      simp only [World.size_alloc] at hnew
      have HW : Hid (Below w.heap.size w (w2.alloc OU) ∧ LF w.heap.size (withT x t') (w2.alloc OU) ∧ RowT (fun b => Q b ∧ b ≠ w.heap.size ∧ b ≠ w.heap.size + 1) (w.heap.size + 1 + 1) v cs (w2.alloc OU) ∧ u.In (w2.alloc OU) ∧ u.Bl (fun b => (Q b ∧ b ≠ w.heap.size ∧ b ≠ w.heap.size + 1) ∧ some b ≠ v.ownBlock) ∧ u.nb ∧ looser y.tm u.tm) := ⟨HE.out.1.trans (hb3.mono HE.out.1.size), HE.out.2.1.below hb3, hrow2, hui.below hbR, hub, hunb, hlo⟩
      have HNX : Hid (cs.length = N ∧ cells7 cs = xs) := ⟨hN, hxs⟩
      have hNb : N + 1 ≤ 1353245080300 := by omega
      have hw2 : w.heap.size + 1 + 1 ≤ w2.heap.size := by have h1 := HE.out.2.1.lt; have h2 := hb2.size; omega
      clear hlo hui hub hunb hb2 HC hbR hb3 hrow2 hN hxs
      subst hOU
      go_wp2_with (at_builtin; refine wpList_append_lies _ rfl _ _ _ rfl (w.heap.size + 1 + 1) 27 i0 _ 7 104 Tryd.underlying25 hi0 hz0 hz1 hz2 rfl (by omega) v N xs rfl (uo.alloc _) ⟨w2.heap.size + 1, 0, none⟩ 1 1 [.int .i64 u.k, .int .i64 u.n, .int .i64 u.t.k, .slice u.t.a u.t.l.length u.t.c, .int .i64 u.f.k, .slice u.f.a u.f.l.length u.f.c, .slice u.a u.l.length u.c] rfl rfl (World.news_of_block (cs := #[.int .i64 u.k, .int .i64 u.n, .int .i64 u.t.k, .slice u.t.a u.t.l.length u.t.c, .int .i64 u.f.k, .slice u.f.a u.f.l.length u.f.c, .slice u.a u.l.length u.c]) (t := 27) (fr := (0, 0)) hnew) (by simp [Value.oneCell']) (by omega) (by unfold maxLen; omega) (by omega) (by simp; omega) (w2.heap.size + 1 + 1) (by simp) ?_; intro gg cap1 w3 hown1 hgrow hat hlt3)
      obtain ⟨OU, hOU⟩ : ∃ O, O = Obj.cells #[.int .i64 u.k, .int .i64 u.n, .int .i64 u.t.k, .slice u.t.a u.t.l.length u.t.c, .int .i64 u.f.k, .slice u.f.a u.f.l.length u.f.c, .slice u.a u.l.length u.c] 27 := ⟨_, rfl⟩
      rw [← hOU] at hgrow HW
      have HN : Hid (Below w.heap.size w w3 ∧ LF w.heap.size (withT x t') w3 ∧ RowT (fun b => Q b ∧ b ≠ w.heap.size ∧ b ≠ w.heap.size + 1) (w.heap.size + 1 + 1) (Value.slice (some ⟨gg, 0, none⟩) (N + 1) cap1) (cs ++ [u]) w3 ∧ (cs ++ [u]).length = (j + 1) ∧ looserL ((x.l.take (j + 1)).map TT.tm) ((cs ++ [u]).map TT.tm) ∧ (∀ c, c ∈ (cs ++ [u]) → c.nb)) := by
        obtain ⟨hbw, hlfw, hrw, huw, hub, hunb, hlo⟩ := HW.out
        obtain ⟨eN, exs⟩ := HNX.out
        have hst := hrw.step (gg := gg) (cap1 := cap1) (w3 := w3) (X := OU) huw hub (by rw [eN, exs]; exact hown1) hgrow (by simpa using hat)
        have hs := hgrow.size
        simp only [World.size_alloc] at hs
        have hov : ∀ q, v.ownBlock = some q → w.heap.size + 1 + 1 ≤ q := fun q hq => (hrw.lt q hq).1
        have hst1 := hst.1
        rw [eN] at hst1
        have hll := hlfw.lt
        simp only [World.size_alloc] at hll
        refine ⟨?_, hlfw.far (hst.2 _ (by simp; omega) fun e => by have := hov _ e.symm; omega) (hst.2 _ (by simp; omega) fun e => by have := hov _ e.symm; omega), hst1, by rw [List.length_append, HE.out.2.2.2.1]; rfl, ?_, fun c hc => ?_⟩
        · refine ⟨(hgrow.os.trans rfl).trans hbw.os, (hgrow.tape.trans rfl).trans hbw.tape, (hgrow.output.trans rfl).trans hbw.output, by have := hbw.size; simp at this; omega, fun q hq => ?_⟩
          exact (hst.2 q (by simp; omega) fun e => by have := hov q e.symm; omega).trans (hbw.block q hq)
        · rw [take_snoc _ _ hlt, HE.out.2.2.2.2.2.2, List.map_append, List.map_append]
          exact looserL_snoc _ _ _ _ HE.out.2.2.2.2.1 hlo
        · rcases List.mem_append.1 hc with hc | hc
          · exact HE.out.2.2.2.2.2.1 c hc
          · rcases List.mem_singleton.1 hc with rfl
            exact hunb
      clear hown1 hgrow hat hlt3 HW uo hnew hOU HE HNX
      go_wp2_with fail
      rw [← HEA.out]
      go_roundg (x.l.length - (j + 1))
      case measure => omega
      case rel => exact ⟨j + 1, _, _, cs ++ [u], by omega, rfl, rfl, by go_num, HN⟩
    · have hje : j = x.l.length := by omega
      obtain ⟨a, cap, hv, hlist, hla⟩ := HQ.out.2.2.1.list
      have HF : Hid (Below w.heap.size w wr ∧ LF w.heap.size (withT x t') wr ∧ RowT (fun b => Q b ∧ b ≠ w.heap.size ∧ b ≠ w.heap.size + 1) (w.heap.size + 1 + 1) v cs wr ∧ cs.length = j ∧ looserL ((x.l.take j).map TT.tm) (cs.map TT.tm) ∧ (∀ c, c ∈ cs → c.nb)) := HQ
      have HVL : Hid (v = .slice a cs.length cap ∧ (∀ q (hq : q < cs.length), ∃ b o, a = some ⟨b, o, none⟩ ∧ At7 wr b (o + q * 7) cs[q]) ∧ (∀ y, cs ≠ [] → a = some y → w.heap.size + 1 + 1 ≤ y.block)) := ⟨hv, hlist, hla⟩
      have HJ : Hid (j = x.l.length) := hje
      clear HQ hlist hla hje
      subst hv
      have HN : Hid (LoPost Q x w (.returned (.tuple #[.agg #[.int .i64 x.k, .int .i64 x.n, .int .i64 t'.k, .slice t'.a t'.l.length t'.c, .int .i64 x.f.k, .slice x.f.a x.f.l.length x.f.c, .slice a cs.length cap], .int .i64 m])) (put7 (wr.setCell ⟨w.heap.size, 6, none⟩ (.slice a cs.length cap)) (w.heap.size + 1) (TT.mk x.k x.n t' x.f a cap cs))) := by
        obtain ⟨hbw, hlf, hrow, hlen, hlo, hcnb⟩ := HF.out
        obtain ⟨_, hlist, hla⟩ := HVL.out
        obtain ⟨hxi, hxn, hxb, hnw, _, _⟩ := HX.out
        have hk1 : Kept w.heap.size none wr (wr.setCell ⟨w.heap.size, 6, none⟩ (.slice a cs.length cap)) := setR_kept
        have hk2 : Kept (w.heap.size + 1) none (wr.setCell ⟨w.heap.size, 6, none⟩ (.slice a cs.length cap)) (put7 (wr.setCell ⟨w.heap.size, 6, none⟩ (.slice a cs.length cap)) (w.heap.size + 1) (TT.mk x.k x.n t' x.f a cap cs)) := put7_kept
        have hll := hlf.lt
        have ht' : t'.In wr ∧ t'.Bl (· < w.heap.size) ∧ t'.Bl Q := by
          rcases HTT.out with rfl | ⟨_, rfl⟩
          · exact ⟨hxi.t.below hbw, hxi.t.bl, hxb.t⟩
          · exact ⟨leaf_in _ _, leaf_bl _ _, leaf_bl _ _⟩
        have htm : looser x.tm (TT.mk x.k x.n t' x.f a cap cs).tm := by
          rw [TT.tm_mk]
          obtain ⟨kk, nn, tt, ff, aa, cc, ll⟩ := x
          rw [TT.tm_mk]
          refine looser_mk.2 ⟨rfl, rfl, rfl, ?_, ?_⟩
          · rcases HTT.out with rfl | ⟨h1, rfl⟩
            · exact .inl rfl
            · exact .inr ⟨h1, leaf_ty 0⟩
          · have := hlo
            rw [HJ.out, List.take_of_length_le (Nat.le_refl _)] at this
            exact this
        refine ⟨(TT.mk x.k x.n t' x.f a cap cs), m, rfl, htm, TT.In_mk.2 ⟨?_, ?_, fun q hq => ?_, fun c hc => ?_⟩, TT.Bl_mk.2 ⟨ht'.2.2, hxb.f, fun hne z hz => hnw _ (by have := hla z hne hz; omega), fun c hc => (hrow.ins c hc).2.mono fun b hb => hb.1.1⟩, TT.nb_mk.2 ⟨hxn.n, hcnb⟩, ?_⟩
        · exact (ht'.1.keptR hk1 (ht'.2.1.mono fun b hb => by omega)).keptR hk2 (ht'.2.1.mono fun b hb => by omega)
        · exact ((hxi.f.below hbw).keptR hk1 (hxi.f.bl.mono fun b hb => by omega)).keptR hk2 (hxi.f.bl.mono fun b hb => by omega)
        · obtain ⟨b, o, e, h7⟩ := hlist q hq
          have hb2 := hla _ (fun e => by rw [e] at hq; simp at hq) e
          simp only at hb2
          exact ⟨b, o, e, (h7.keptR hk1 (by omega)).keptR hk2 (by omega)⟩
        · obtain ⟨h1, h2⟩ := hrow.ins c hc
          exact (h1.keptR hk1 (h2.mono fun b hb => hb.1.2.1)).keptR hk2 (h2.mono fun b hb => hb.1.2.2)
        · refine (hbw.setCell (Nat.le_refl _) _).trans ((hk2.below (by simp) ?_).mono (by omega))
          have : (wr.setCell ⟨w.heap.size, 6, none⟩ (.slice a cs.length cap)).heap.size = wr.heap.size := by simp [World.setCell]
          omega
      have hbx := HF.out.2.1.b
      have hz7 := HF.out.2.1.z
      obtain ⟨e0, e1, e2, e3, e4, e5, e6⟩ := (put7_box (x := (TT.mk x.k x.n t' x.f a cap cs)) (hz7.kept (setR_kept (v := .slice a cs.length cap) (i := 6) (R := w.heap.size)) (by omega)).box).at7
      simp only [Nat.zero_add] at e0 e1 e2 e3 e4 e5 e6
      obtain ⟨⟨q0, q1, q2, q3, q4, q5, q6⟩, qf⟩ := hbx
      simp only [Nat.zero_add, withT] at q0 q1 q2 q3 q4 q5 q6
      have qf6 := qf 6 (by omega)
      obtain ⟨⟨y0, y1, y2, y3, y4, y5, y6⟩, f0, f1, f2, f3, f4, f5, f6⟩ := hz7
      clear qf HF HVL HTT HX HIH
      go_wp2_with fail
      refine bodyPost_ret (v := .tuple #[.agg #[.int .i64 x.k, .int .i64 x.n, .int .i64 t'.k, .slice t'.a t'.l.length t'.c, .int .i64 x.f.k, .slice x.f.a x.f.l.length x.f.c, .slice a cs.length cap], .int .i64 m]) ?_ rfl HN.out
      unfold put7 at e0 e1 e2 e3 e4 e5 e6
      simp [results, Tryd.results30, go_sem, e0, e1, e2, e3, e4, e5, e6]

theorem loose_any : ∀ (n : Nat) (Q : Nat → Prop) (x : TT) (k : Int) (w : World), x.sz ≤ n → x.In w → x.nb → x.lw → x.Bl Q → (∀ b, w.heap.size ≤ b → Q b) → Calls Tryd.prog 30 #[.agg #[.int .i64 x.k, .int .i64 x.n, .int .i64 x.t.k, .slice x.t.a x.t.l.length x.t.c, .int .i64 x.f.k, .slice x.f.a x.f.l.length x.f.c, .slice x.a x.l.length x.c], .int .i64 k] w (LoPost Q x w) := by
  intro n
  induction n with
  | zero => intro Q x k w h _ _ _ _ _; have := x.sz_pos; omega
  | succ n ih =>
    intro Q x k w h hx hnb hlw xb nw
    refine loose_step Q x k w hx hnb hlw xb nw fun y hy Q' k' W hyi hyb hnw => ih Q' y k' W ?_ hyi (hnb.mem hy) (hlw.mem hy) hyb hnw
    have h1 := x.sz_eq
    have h2 : y.sz ≤ (x.l.map TT.sz).sum := by
      have := sz_mem (x.l.map TT.tm) y.tm (List.mem_map.2 ⟨y, hy, rfl⟩)
      rw [sz_map, ← y.sz_tm] at this
      exact this
    omega
end Go.Proofs.YtnddkmccagiclaaDoor
