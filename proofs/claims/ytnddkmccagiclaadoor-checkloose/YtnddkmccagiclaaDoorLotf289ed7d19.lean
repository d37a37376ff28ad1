/-
  Plain mathematics of check: where all is told nothing is cast; who says less is not refused; no program in it.
-/
import Derived.Test.YtnddkmccagiclaaDoorLotb16148a8bf
import Derived.Test.YtnddkmccagiclaaDoorLot4a836e76ff
namespace Go.Proofs.YtnddkmccagiclaaDoor

theorem len2 {α : Type} {l : List α} (h : l.length = 2) : ∃ a b, l = [a, b] := by
  match l, h with
  | [a, b], _ => exact ⟨a, b, rfl⟩
theorem len3 {α : Type} {l : List α} (h : l.length = 3) : ∃ a b c, l = [a, b, c] := by
  match l, h with
  | [a, b, c], _ => exact ⟨a, b, c, rfl⟩

/-! ### All told -/

def sureM : Tm → Bool
  | ⟨k, _, t, _, l⟩ => (!(tells k) || sureY t) && (l.map fun x => sureM x).all id
theorem sureM_mk (k n : Int) (t f : Ty) (l : List Tm) : sureM ⟨k, n, t, f, l⟩ = ((!(tells k) || sureY t) && l.all sureM) := by
  rw [sureM, List.all_map]
  rfl

/-- Two types that are sure fit only if they are one. -/
theorem sure_one : ∀ (n : Nat) (a b : Ty), goodY n a = true → goodY n b = true → sureY a = true → sureY b = true → relY escFits a b = true → a = b
  | 0, a, b, h, _, _, _, _ => by simp [goodY] at h
  | n + 1, a, b, ha, hb, sa, sb, h => by
    rcases goodY_cases ha with ⟨ka, rfl, hka⟩ | ⟨x, y, rfl, hx, hy⟩
    · have k0 : ka ≠ 0 := by simpa [sureY_mk] using sa
      rcases goodY_cases hb with ⟨kb, rfl, hkb⟩ | ⟨x', y', rfl, hx', hy'⟩
      · have k1 : kb ≠ 0 := by simpa [sureY_mk] using sb
        simp [relY_mk, relL, escFits, k0, k1] at h
        rw [h]
      · simp [relY_mk, relL, escFits, k0] at h
    · rcases goodY_cases hb with ⟨kb, rfl, hkb⟩ | ⟨x', y', rfl, hx', hy'⟩
      · have k1 : kb ≠ 0 := by simpa [sureY_mk] using sb
        simp [relY_mk, relL, escFits, k1] at h
      · have sa' : sureY x = true ∧ sureY y = true := by simpa [sureY_mk] using sa
        have sb' : sureY x' = true ∧ sureY y' = true := by simpa [sureY_mk] using sb
        rw [two _ _ _ _ _ rfl, Bool.and_eq_true] at h
        rw [sure_one n x x' hx hx' sa'.1 sb'.1 h.1, sure_one n y y' hy hy' sa'.2 sb'.2 h.2]

theorem sure_num : sureY ⟨1, []⟩ = true := by simp [sureY_mk]
theorem sure_truth : sureY ⟨2, []⟩ = true := by simp [sureY_mk]

theorem rule_sure {k n : Int} {t : Ty} {ps takes : List Ty} {i : Ty} {us : List Ty} (m : Nat) (hm : 4 ≤ m) (h1 : 1 ≤ k) (h9 : k ≤ 9) (hl : ps.length = partsOf k) (hn : k = 1 → n.toNat < takes.length) (ht : goodY 4 t = true) (hp : ∀ u, u ∈ ps → goodY m u = true)
    (st : tells k = true → sureY t = true) (sp : ∀ u, u ∈ ps → sureY u = true) (sT : ∀ u, u ∈ takes → sureY u = true) (h : ruleY k n t ps takes = some (i, us)) (hf : fitL ps us = true) : sureY i = true ∧ us = ps := by
  have hk : k = 1 ∨ k = 2 ∨ k = 3 ∨ k = 4 ∨ k = 5 ∨ k = 6 ∨ k = 7 ∨ k = 8 ∨ k = 9 := by omega
  obtain ⟨m, rfl⟩ : ∃ r, m = r + 1 := ⟨m - 1, by omega⟩
  rcases hk with rfl | rfl | rfl | rfl | rfl | rfl | rfl | rfl | rfl
  · have hl0 : ps = [] := List.length_eq_zero_iff.1 (by rw [hl]; rfl)
    subst hl0
    have hn' := hn rfl
    simp [ruleY, hn'] at h
    obtain ⟨rfl, rfl⟩ := h
    exact ⟨sT _ (List.getElem_mem hn'), rfl⟩
  · have hl0 : ps = [] := List.length_eq_zero_iff.1 (by rw [hl]; rfl)
    subst hl0
    simp [ruleY] at h
    obtain ⟨rfl, rfl⟩ := h
    exact ⟨sure_num, rfl⟩
  · have hl0 : ps = [] := List.length_eq_zero_iff.1 (by rw [hl]; rfl)
    subst hl0
    simp [ruleY] at h
    obtain ⟨rfl, rfl⟩ := h
    exact ⟨sure_truth, rfl⟩
  · obtain ⟨a, b, rfl⟩ : ∃ a b, ps = [a, b] := len2 (by rw [hl]; rfl)
    simp [ruleY] at h
    obtain ⟨rfl, rfl⟩ := h
    simp only [fitL, Bool.and_eq_true, Bool.and_true] at hf
    rw [sure_one (m + 1) a ⟨1, []⟩ (hp a (by simp)) (goodY_num _) (sp a (by simp)) sure_num hf.1, sure_one (m + 1) b ⟨1, []⟩ (hp b (by simp)) (goodY_num _) (sp b (by simp)) sure_num hf.2]
    exact ⟨sure_num, rfl⟩
  · obtain ⟨a, b, rfl⟩ : ∃ a b, ps = [a, b] := len2 (by rw [hl]; rfl)
    simp [ruleY] at h
    obtain ⟨rfl, rfl⟩ := h
    simp only [fitL, Bool.and_eq_true, Bool.and_true] at hf
    rw [sure_one (m + 1) a ⟨1, []⟩ (hp a (by simp)) (goodY_num _) (sp a (by simp)) sure_num hf.1, sure_one (m + 1) b ⟨1, []⟩ (hp b (by simp)) (goodY_num _) (sp b (by simp)) sure_num hf.2]
    exact ⟨sure_truth, rfl⟩
  · obtain ⟨a, b, c, rfl⟩ : ∃ a b c, ps = [a, b, c] := len3 (by rw [hl]; rfl)
    have h' : ifY ⟨2, []⟩ b c = some (i, us) := by simpa [ruleY] using h
    unfold ifY at h'
    split at h'
    · rename_i hbc
      have e := sure_one (m + 1) b c (hp b (by simp)) (hp c (by simp)) (sp b (by simp)) (sp c (by simp)) hbc
      subst e
      rw [(join_facts (m + 1) b b (hp b (by simp)) (hp b (by simp))).2.2.2.2] at h'
      cases h'
      simp only [fitL, Bool.and_eq_true, Bool.and_true] at hf
      rw [sure_one (m + 1) a ⟨2, []⟩ (hp a (by simp)) (goodY_truth _) (sp a (by simp)) sure_truth hf.1]
      exact ⟨sp _ (by simp), rfl⟩
    · cases h'
  · obtain ⟨a, rfl⟩ : ∃ a, ps = [a] := List.length_eq_one_iff.1 (by rw [hl]; rfl)
    have h' : some (Ty.mk 3 [t, a], [a]) = some (i, us) := by simpa [ruleY] using h
    cases h'
    refine ⟨?_, rfl⟩
    simp [sureY_mk, st rfl, sp a (by simp)]
  · obtain ⟨a, b, rfl⟩ : ∃ a b, ps = [a, b] := len2 (by rw [hl]; rfl)
    have h' : callY a = some (i, us) := by simpa [ruleY] using h
    have sa := sp a (by simp)
    rcases goodY_cases (hp a (by simp)) with ⟨k, rfl, hk⟩ | ⟨x, y, rfl, hx, hy⟩
    · rcases hk with rfl | rfl | rfl
      · simp [sureY_mk] at sa
      · simp [callY] at h'
      · simp [callY] at h'
    · simp [callY] at h'
      obtain ⟨rfl, rfl⟩ := h'
      have sa' : sureY x = true ∧ sureY y = true := by simpa [sureY_mk] using sa
      simp only [fitL, Bool.and_eq_true, Bool.and_true] at hf
      rw [sure_one (m + 1) b x (hp b (by simp)) (goodY_more m _ _ (by omega) hx) (sp b (by simp)) sa'.1 hf.2]
      exact ⟨sa'.2, rfl⟩
  · obtain ⟨a, rfl⟩ : ∃ a, ps = [a] := List.length_eq_one_iff.1 (by rw [hl]; rfl)
    have h' : some (t, [t]) = some (i, us) := by simpa [ruleY] using h
    cases h'
    simp only [fitL, Bool.and_true] at hf
    rw [sure_one (m + 1) a t (hp a (by simp)) (goodY_more 4 _ _ (by omega) ht) (sp a (by simp)) (st rfl) hf]
    exact ⟨st rfl, rfl⟩

theorem castL_same : ∀ ps : List (Nat × Tm × Ty), castL ps (ps.map fun p => p.2.2) = ps.map fun p => p.2.1
  | [] => rfl
  | p :: r => by simp [castL, castY, relY_refl, castL_same r]

theorem readL_same {takes : List Ty} : ∀ (l : List Tm) (c : Nat) (ps : List (Nat × Tm × Ty)), readL l takes c = some ps → (∀ x, x ∈ l → ∀ c y i, readS x takes c = some (y, i) → y = x) → ps.map (fun p => p.2.1) = l
  | [], c, ps, h, _ => by rw [readL] at h; cases h; rfl
  | x :: r, c, ps, h, hQ => by
    obtain ⟨y, i, q, h1, h2, rfl⟩ := readL_cons h
    simp [hQ x (by simp) c y i h1, readL_same r _ q h2 fun z hz => hQ z (by simp [hz])]

/-- Where all is told the type is sure, and nothing is cast. -/
theorem read_sure : ∀ (x : Tm) (takes : List Ty) (c : Nat) (y : Tm) (i : Ty), okTm x takes.length → (∀ u, u ∈ takes → goodY 4 u = true) → (∀ u, u ∈ takes → sureY u = true) → sureM x = true → readS x takes c = some (y, i) → sureY i = true ∧ y = x := by
  intro x
  induction x using Tm.ind with
  | h k n t f l ih =>
    intro takes c y i hok hT hS hs h
    obtain ⟨h0, h1⟩ := okTm_mk.1 hok
    obtain ⟨k1, k9, hl, hf0, ht, _, hn⟩ := okTop_all h0
    obtain ⟨ps, us, e1, e2, e3, rfl⟩ := readS_some h
    rw [sureM_mk, Bool.and_eq_true] at hs
    have st : tells k = true → sureY t = true := fun hk => by simpa [hk] using hs.1
    have hlen := readL_length _ _ _ _ e1
    have hTS : ∀ u, u ∈ takesIn k t takes → sureY u = true := by
      intro u hu
      unfold takesIn at hu
      split at hu
      · rename_i hk
        rcases List.mem_cons.1 hu with rfl | hu
        · exact st (by rw [hk]; rfl)
        · exact hS u hu
      · exact hS u hu
    have key : ∀ x, x ∈ l → ∀ c y i, readS x (takesIn k t takes) c = some (y, i) → sureY i = true ∧ y = x := fun x hx c y i hr =>
      ih x hx _ c y i (by rw [takesIn_length]; exact h1 x hx) (takesIn_good ht hT) hTS (List.all_eq_true.1 hs.2 x hx) hr
    have hp : ∀ u, u ∈ ps.map (fun p => p.2.2) → goodY ((l.map Tm.sz).sum + 4) u = true ∧ sureY u = true := by
      intro u hu
      obtain ⟨j, hj, rfl⟩ := List.getElem_of_mem hu
      have hj' : j < ps.length := by simpa using hj
      have := readL_all (Q := fun x _ _ i => goodY (x.sz + 4) i = true ∧ sureY i = true) l _ ps e1 (fun x hx c y i hr => ⟨read_good x _ c y i (by rw [takesIn_length]; exact h1 x hx) (takesIn_good ht hT) hr, (key x hx c y i hr).1⟩) j hj' (by omega)
      have hs := sz_mem l l[j] (List.getElem_mem _)
      simpa using And.intro (goodY_more _ ((l.map Tm.sz).sum + 4) _ (by omega) this.1) this.2
    have hn' : k = 1 → n.toNat < (takesIn k t takes).length := by
      intro hk
      have := hn hk
      rw [takesIn_length, hk]
      simp
      omega
    obtain ⟨si, rfl⟩ := rule_sure ((l.map Tm.sz).sum + 4) (by omega) k1 k9 (by simpa using hlen.trans hl) hn' ht (fun u hu => (hp u hu).1) st (fun u hu => (hp u hu).2) hTS e2 e3
    refine ⟨si, ?_⟩
    rw [castL_same, readL_same l _ ps e1 fun x hx c y i hr => (key x hx c y i hr).2, isAny_eq hf0]

/-! ### Sites -/

def sitesM : Tm → List (Int × Ty × Ty)
  | ⟨k, n, t, f, l⟩ => (if k = 10 then [(n, f, t)] else []) ++ (l.map fun x => sitesM x).flatten
theorem sitesM_mk (k n : Int) (t f : Ty) (l : List Tm) : sitesM ⟨k, n, t, f, l⟩ = (if k = 10 then [(n, f, t)] else []) ++ l.flatMap sitesM := by
  rw [sitesM]
  rfl

theorem sites_ok : ∀ (x : Tm) (ins : Nat), okTm x ins → sitesM x = [] := by
  intro x
  induction x using Tm.ind with
  | h k n t f l ih =>
    intro ins hok
    obtain ⟨h0, h1⟩ := okTm_mk.1 hok
    obtain ⟨k1, k9, _⟩ := okTop_all h0
    rw [sitesM_mk, if_neg (by omega), List.nil_append, List.flatMap_eq_nil_iff]
    exact fun x hx => ih x hx _ (h1 x hx)

/-! ### Less told -/

/-- Two lists, each with each. -/
def both {α β : Type} : (l : List α) → List β → ((x : α) → x ∈ l → β → Prop) → Prop
  | [], [], _ => True
  | x :: r, y :: s, f => f x List.mem_cons_self y ∧ both r s (fun z h y => f z (List.mem_cons_of_mem _ h) y)
  | _, _, _ => False

/-- A term that tells less: some types that were told are Any. -/
def looser : Tm → Tm → Prop
  | ⟨k, n, t, f, l⟩, ⟨k', n', t', f', l'⟩ => k' = k ∧ n' = n ∧ f' = f ∧ (t' = t ∨ tells k = true ∧ t' = anyY) ∧ both l l' fun x _ y => looser x y

def looserL : List Tm → List Tm → Prop
  | [], [] => True
  | x :: r, y :: s => looser x y ∧ looserL r s
  | _, _ => False

theorem both_looser : ∀ l l' : List Tm, (both l l' fun x _ y => looser x y) = looserL l l'
  | [], [] => rfl
  | x :: r, y :: s => by simp only [both, looserL, both_looser r s]
  | [], _ :: _ => rfl
  | _ :: _, [] => rfl

theorem looser_mk {k n k' n' : Int} {t f t' f' : Ty} {l l' : List Tm} : looser ⟨k, n, t, f, l⟩ ⟨k', n', t', f', l'⟩ ↔ k' = k ∧ n' = n ∧ f' = f ∧ (t' = t ∨ tells k = true ∧ t' = anyY) ∧ looserL l l' := by
  rw [looser, both_looser]

theorem looserL_len : ∀ l m : List Tm, looserL l m → m.length = l.length
  | [], [], _ => rfl
  | x :: r, y :: s, h => by simp [looserL_len r s h.2]
  | [], _ :: _, h => by simp [looserL] at h
  | _ :: _, [], h => by simp [looserL] at h

theorem looserL_at : ∀ (l m : List Tm), looserL l m → ∀ j (h : j < l.length) (h' : j < m.length), looser l[j] m[j]
  | [], _, _, j, hj, _ => by simp at hj
  | _ :: _, [], _, j, _, hj => by simp at hj
  | x :: r, y :: s, h, 0, _, _ => h.1
  | x :: r, y :: s, h, j + 1, h1, h2 => looserL_at r s h.2 j (by simpa using h1) (by simpa using h2)

theorem looserL_snoc : ∀ (l m : List Tm) (x y : Tm), looserL l m → looser x y → looserL (l ++ [x]) (m ++ [y])
  | [], [], x, y, _, h => by simp [looserL, h]
  | a :: r, b :: s, x, y, h, h' => by
    simp only [List.cons_append, looserL]
    exact ⟨h.1, looserL_snoc r s x y h.2 h'⟩
  | [], _ :: _, _, _, h, _ => by simp [looserL] at h
  | _ :: _, [], _, _, h, _ => by simp [looserL] at h

theorem looserL_sz : ∀ (l m : List Tm), (∀ x, x ∈ l → ∀ u, looser x u → u.sz = x.sz) → looserL l m → m.map Tm.sz = l.map Tm.sz
  | [], [], _, _ => rfl
  | x :: r, y :: s, h, hl => by
    simp [h x (by simp) y hl.1, looserL_sz r s (fun z hz => h z (by simp [hz])) hl.2]
  | [], _ :: _, _, h => by simp [looserL] at h
  | _ :: _, [], _, h => by simp [looserL] at h

theorem looser_sz : ∀ (x u : Tm), looser x u → u.sz = x.sz := by
  intro x
  induction x using Tm.ind with
  | h k n t f l ih =>
    rintro ⟨k', n', t', f', l'⟩ h
    rw [Tm.sz_mk, Tm.sz_mk, looserL_sz l l' ih (looser_mk.1 h).2.2.2.2]

theorem bindL_looser {f g : Tm → Nat → Option Nat} (hf : ∀ x u, looser x u → ∀ q q', f x q = some q' → g u q = some q') : ∀ (l m : List Tm) (r r' : Nat), looserL l m → bindL f l r = some r' → bindL g m r = some r'
  | [], [], r, r', _, h => h
  | x :: l, y :: m, r, r', hl, h => by
    simp only [bindL] at h ⊢
    cases hq : f x r with
    | none => rw [hq] at h; cases h
    | some q =>
      rw [hq] at h
      rw [hf x y hl.1 r q hq]
      exact bindL_looser hf l m q r' hl.2 h
  | [], _ :: _, _, _, h, _ => by simp [looserL] at h
  | _ :: _, [], _, _, h, _ => by simp [looserL] at h

theorem okTop_looser {k n : Int} {t f t' : Ty} {l l' : List Tm} {ins : Int} (ht : t' = t ∨ tells k = true ∧ t' = anyY) (hl : l'.length = l.length) (h : okTop 0 ins ⟨k, n, t, f, l⟩ = true) : okTop 0 ins ⟨k, n, t', f, l'⟩ = true := by
  rcases ht with rfl | ⟨hk, rfl⟩
  · simpa [okTop, hl] using h
  · simp only [okTop, okTypes, hk, if_true, hl, Bool.and_eq_true] at h ⊢
    exact ⟨h.1, ⟨h.2.1.1, goodY_any 3⟩, h.2.2⟩

theorem good_looser : ∀ (n : Nat) (ins : Int) (x u : Tm) (r r' : Nat), looser x u → goodS 0 n ins x r = some r' → goodS 0 n ins u r = some r'
  | 0, _, _, _, _, _, _, h => by simp [goodS] at h
  | _ + 1, _, _, _, 0, _, _, h => by simp [goodS] at h
  | n + 1, ins, ⟨k, m, t, f, l⟩, ⟨k', m', t', f', l'⟩, r + 1, r', hx, h => by
    obtain ⟨rfl, rfl, rfl, ht, hl⟩ := looser_mk.1 hx
    simp only [goodS] at h ⊢
    split at h
    · rename_i h0
      rw [if_pos (okTop_looser ht (looserL_len _ _ hl) h0)]
      exact bindL_looser (fun x u hu q q' => good_looser n _ x u q q' hu) l l' r r' hl h
    · cases h

theorem goodM_looser {x u : Tm} (h : looser x u) (hx : goodM 0 x = true) : goodM 0 u = true := by
  obtain ⟨r', hr⟩ := Option.isSome_iff_exists.1 hx
  exact Option.isSome_iff_exists.2 ⟨r', good_looser 40 0 x u 40 r' h hr⟩

theorem finerL_at {l m : List Ty} (h : relL escFiner l m = true) (j : Nat) : relY escFiner (l.getD j ⟨0, []⟩) (m.getD j ⟨0, []⟩) = true := by
  induction l generalizing m j with
  | nil =>
    cases m with
    | nil => simp [relY_mk, relL]
    | cons => simp [relL] at h
  | cons x r ih =>
    cases m with
    | nil => simp [relL] at h
    | cons y s =>
      simp only [relL, Bool.and_eq_true] at h
      match j with
      | 0 => simpa using h.1
      | j + 1 => simpa using ih h.2 j

theorem fits_both (n : Nat) {a b a' b' : Ty} (ha : goodY n a = true) (hb : goodY n b = true) (ha' : goodY n a' = true) (hb' : goodY n b' = true) (h : relY escFits a b = true) (h1 : relY escFiner a a' = true) (h2 : relY escFiner b b' = true) : relY escFits a' b' = true := by
  have g1 := fits_coarser n a b b' ha hb hb' h h2
  rw [fits_sym n a b' ha hb'] at g1
  have g2 := fits_coarser n b' a a' hb' ha ha' g1 h1
  rw [fits_sym n b' a' hb' ha'] at g2
  exact g2

theorem join_mono (n : Nat) {a b a' b' : Ty} (ha : goodY n a = true) (hb : goodY n b = true) (ha' : goodY n a' = true) (hb' : goodY n b' = true) (h1 : relY escFiner a a' = true) (h2 : relY escFiner b b' = true) : relY escFiner (joinY a b) (joinY a' b') = true := by
  obtain ⟨gj, f1, f2, _, _⟩ := join_facts n a' b' ha' hb'
  exact join_least n a b _ ha hb gj (finer_trans n a a' _ ha ha' gj h1 f1) (finer_trans n b b' _ hb hb' gj h2 f2)

theorem finer_refl : ∀ (n : Nat) (a : Ty), goodY n a = true → relY escFiner a a = true
  | 0, a, h => by simp [goodY] at h
  | n + 1, a, ha => by
    rcases goodY_cases ha with ⟨ka, rfl, _⟩ | ⟨x, y, rfl, hx, hy⟩
    · simp [relY_mk, relL]
    · rw [two _ _ _ _ _ rfl, finer_refl n x hx, finer_refl n y hy]; rfl

theorem fitL_self (m : Nat) : ∀ ps : List Ty, (∀ u, u ∈ ps → goodY m u = true) → fitL ps ps = true
  | [], _ => rfl
  | x :: r, h => by simp [fitL, fits_refl m x (h x (by simp)), fitL_self m r fun u hu => h u (by simp [hu])]

theorem rule_loose {k n : Int} {t t' : Ty} {ps ps' takes takes' : List Ty} {i : Ty} {us : List Ty} (m : Nat) (hm : 4 ≤ m) (h1 : 1 ≤ k) (h9 : k ≤ 9) (hl : ps.length = partsOf k) (ht : goodY 4 t = true) (ht' : goodY 4 t' = true)
    (hp : ∀ u, u ∈ ps → goodY m u = true) (hp' : ∀ u, u ∈ ps' → goodY m u = true) (ft : relY escFiner t t' = true) (fp : relL escFiner ps ps' = true) (fT : relL escFiner takes takes' = true) (h : ruleY k n t ps takes = some (i, us)) (hf : fitL ps us = true) :
    ∃ i' us', ruleY k n t' ps' takes' = some (i', us') ∧ fitL ps' us' = true ∧ relY escFiner i i' = true := by
  have hk : k = 1 ∨ k = 2 ∨ k = 3 ∨ k = 4 ∨ k = 5 ∨ k = 6 ∨ k = 7 ∨ k = 8 ∨ k = 9 := by omega
  obtain ⟨m, rfl⟩ : ∃ r, m = r + 1 := ⟨m - 1, by omega⟩
  have hlp := relL_len _ _ _ fp
  have num := goodY_num m
  have truth := goodY_truth m
  rcases hk with rfl | rfl | rfl | rfl | rfl | rfl | rfl | rfl | rfl
  · have hl0 : ps' = [] := List.length_eq_zero_iff.1 (by rw [← hlp, hl]; rfl)
    subst hl0
    have h' : some (takes.getD n.toNat ⟨0, []⟩, []) = some (i, us) := by simpa [ruleY] using h
    cases h'
    exact ⟨takes'.getD n.toNat ⟨0, []⟩, [], by simp [ruleY], rfl, finerL_at fT _⟩
  · have hl0 : ps' = [] := List.length_eq_zero_iff.1 (by rw [← hlp, hl]; rfl)
    subst hl0
    simp [ruleY] at h
    obtain ⟨rfl, rfl⟩ := h
    exact ⟨_, _, by simp [ruleY]; exact ⟨rfl, rfl⟩, rfl, by simp [relY_mk, relL]⟩
  · have hl0 : ps' = [] := List.length_eq_zero_iff.1 (by rw [← hlp, hl]; rfl)
    subst hl0
    simp [ruleY] at h
    obtain ⟨rfl, rfl⟩ := h
    exact ⟨_, _, by simp [ruleY]; exact ⟨rfl, rfl⟩, rfl, by simp [relY_mk, relL]⟩
  · obtain ⟨a, b, rfl⟩ : ∃ a b, ps = [a, b] := len2 (by rw [hl]; rfl)
    obtain ⟨a', b', rfl⟩ : ∃ a b, ps' = [a, b] := len2 (by rw [← hlp]; rfl)
    simp only [relL, Bool.and_eq_true, Bool.and_true] at fp
    simp [ruleY] at h
    obtain ⟨rfl, rfl⟩ := h
    simp only [fitL, Bool.and_eq_true, Bool.and_true] at hf
    refine ⟨⟨1, []⟩, [⟨1, []⟩, ⟨1, []⟩], by simp [ruleY], ?_, by simp [relY_mk, relL]⟩
    simp only [fitL, Bool.and_eq_true, Bool.and_true]
    exact ⟨fits_both (m + 1) (hp a (by simp)) num (hp' a' (by simp)) num hf.1 fp.1 (finer_refl _ _ num), fits_both (m + 1) (hp b (by simp)) num (hp' b' (by simp)) num hf.2 fp.2 (finer_refl _ _ num)⟩
  · obtain ⟨a, b, rfl⟩ : ∃ a b, ps = [a, b] := len2 (by rw [hl]; rfl)
    obtain ⟨a', b', rfl⟩ : ∃ a b, ps' = [a, b] := len2 (by rw [← hlp]; rfl)
    simp only [relL, Bool.and_eq_true, Bool.and_true] at fp
    simp [ruleY] at h
    obtain ⟨rfl, rfl⟩ := h
    simp only [fitL, Bool.and_eq_true, Bool.and_true] at hf
    refine ⟨⟨2, []⟩, [⟨1, []⟩, ⟨1, []⟩], by simp [ruleY], ?_, by simp [relY_mk, relL]⟩
    simp only [fitL, Bool.and_eq_true, Bool.and_true]
    exact ⟨fits_both (m + 1) (hp a (by simp)) num (hp' a' (by simp)) num hf.1 fp.1 (finer_refl _ _ num), fits_both (m + 1) (hp b (by simp)) num (hp' b' (by simp)) num hf.2 fp.2 (finer_refl _ _ num)⟩
  · obtain ⟨a, b, c, rfl⟩ : ∃ a b c, ps = [a, b, c] := len3 (by rw [hl]; rfl)
    obtain ⟨a', b', c', rfl⟩ : ∃ a b c, ps' = [a, b, c] := len3 (by rw [← hlp]; rfl)
    simp only [relL, Bool.and_eq_true, Bool.and_true] at fp
    have h' : ifY ⟨2, []⟩ b c = some (i, us) := by simpa [ruleY] using h
    unfold ifY at h'
    split at h'
    · rename_i hbc
      cases h'
      simp only [fitL, Bool.and_eq_true, Bool.and_true] at hf
      have gb := hp b (by simp)
      have gc := hp c (by simp)
      have gb' := hp' b' (by simp)
      have gc' := hp' c' (by simp)
      obtain ⟨gj, f1, f2, _, _⟩ := join_facts (m + 1) b' c' gb' gc'
      have hbc' := fits_both (m + 1) gb gc gb' gc' hbc fp.2.1 fp.2.2
      refine ⟨joinY b' c', [⟨2, []⟩, joinY b' c', joinY b' c'], by simp [ruleY, ifY, hbc'], ?_, join_mono (m + 1) gb gc gb' gc' fp.2.1 fp.2.2⟩
      simp only [fitL, Bool.and_eq_true, Bool.and_true]
      exact ⟨fits_both (m + 1) (hp a (by simp)) truth (hp' a' (by simp)) truth hf.1 fp.1 (finer_refl _ _ truth), finer_fits (m + 1) _ _ gb' gj f1, finer_fits (m + 1) _ _ gc' gj f2⟩
    · cases h'
  · obtain ⟨a, rfl⟩ : ∃ a, ps = [a] := List.length_eq_one_iff.1 (by rw [hl]; rfl)
    obtain ⟨a', rfl⟩ : ∃ a, ps' = [a] := List.length_eq_one_iff.1 (by rw [← hlp]; rfl)
    simp only [relL, Bool.and_true] at fp
    have h' : some (Ty.mk 3 [t, a], [a]) = some (i, us) := by simpa [ruleY] using h
    cases h'
    refine ⟨⟨3, [t', a']⟩, [a'], by simp [ruleY], fitL_self (m + 1) _ hp', ?_⟩
    rw [two _ _ _ _ _ rfl, ft, fp]; rfl
  · obtain ⟨a, b, rfl⟩ : ∃ a b, ps = [a, b] := len2 (by rw [hl]; rfl)
    obtain ⟨a', b', rfl⟩ : ∃ a b, ps' = [a, b] := len2 (by rw [← hlp]; rfl)
    simp only [relL, Bool.and_eq_true, Bool.and_true] at fp
    have h' : callY a = some (i, us) := by simpa [ruleY] using h
    have ga := hp a (by simp)
    have ga' := hp' a' (by simp)
    have anyCase : a' = ⟨0, []⟩ → ∃ i' us', ruleY 8 n t' [a', b'] takes' = some (i', us') ∧ fitL [a', b'] us' = true ∧ relY escFiner i i' = true := by
      rintro rfl
      refine ⟨⟨0, []⟩, [⟨3, [⟨0, []⟩, ⟨0, []⟩]⟩, ⟨0, []⟩], by simp [ruleY, callY], ?_, any_coarser _ _⟩
      simp [fitL, any_left, any_right]
    rcases goodY_cases ga' with ⟨k', rfl, hk'⟩ | ⟨x', y', rfl, hx', hy'⟩
    · rcases goodY_cases ga with ⟨k, rfl, hk⟩ | ⟨x, y, rfl, hx, hy⟩
      · rcases hk with rfl | rfl | rfl
        · have : k' = 0 := by
            have := fp.1
            simp [relY_mk, relL, escFiner] at this
            omega
          subst this
          exact anyCase rfl
        · simp [callY] at h'
        · simp [callY] at h'
      · have : k' = 0 := by
          have := fp.1
          simp [relY_mk, relL, escFiner] at this
          omega
        subst this
        exact anyCase rfl
    · rcases goodY_cases ga with ⟨k, rfl, hk⟩ | ⟨x, y, rfl, hx, hy⟩
      · have := fp.1
        simp [relY_mk, relL, escFiner] at this
      · simp [callY] at h'
        obtain ⟨rfl, rfl⟩ := h'
        simp only [fitL, Bool.and_eq_true, Bool.and_true] at hf
        have f1 := fp.1
        rw [two _ _ _ _ _ rfl, Bool.and_eq_true] at f1
        refine ⟨y', [⟨3, [x', y']⟩, x'], by simp [ruleY, callY], ?_, f1.2⟩
        simp only [fitL, Bool.and_eq_true, Bool.and_true]
        exact ⟨fits_refl (m + 1) _ ga', fits_both (m + 1) (hp b (by simp)) (goodY_more m _ _ (by omega) hx) (hp' b' (by simp)) (goodY_more m _ _ (by omega) hx') hf.2 fp.2 f1.1⟩
  · obtain ⟨a, rfl⟩ : ∃ a, ps = [a] := List.length_eq_one_iff.1 (by rw [hl]; rfl)
    obtain ⟨a', rfl⟩ : ∃ a, ps' = [a] := List.length_eq_one_iff.1 (by rw [← hlp]; rfl)
    simp only [relL, Bool.and_true] at fp
    have h' : some (t, [t]) = some (i, us) := by simpa [ruleY] using h
    cases h'
    simp only [fitL, Bool.and_true] at hf
    refine ⟨t', [t'], by simp [ruleY], ?_, ft⟩
    simp only [fitL, Bool.and_true]
    exact fits_both (m + 1) (hp a (by simp)) (goodY_more 4 _ _ (by omega) ht) (hp' a' (by simp)) (goodY_more 4 _ _ (by omega) ht') hf fp ft

theorem readL_loose {takes takes' : List Ty} : ∀ (l l' : List Tm) (c : Nat) (ps : List (Nat × Tm × Ty)), looserL l l' → readL l takes c = some ps →
    (∀ x, x ∈ l → ∀ u, looser x u → ∀ c y i, readS x takes c = some (y, i) → ∃ y' i', readS u takes' c = some (y', i') ∧ relY escFiner i i' = true) →
    ∃ ps', readL l' takes' c = some ps' ∧ relL escFiner (ps.map fun p => p.2.2) (ps'.map fun p => p.2.2) = true
  | [], [], c, ps, _, h, _ => by rw [readL] at h; cases h; exact ⟨[], by rw [readL], by simp [relL]⟩
  | x :: r, u :: s, c, ps, hl, h, hQ => by
    obtain ⟨y, i, q, h1, h2, rfl⟩ := readL_cons h
    obtain ⟨y', i', g1, g2⟩ := hQ x (by simp) u hl.1 c y i h1
    obtain ⟨q', g3, g4⟩ := readL_loose r s _ q hl.2 h2 fun z hz => hQ z (by simp [hz])
    refine ⟨(c, y', i') :: q', ?_, by simp [relL, g2, g4]⟩
    rw [readL, g1, looser_sz x u hl.1]
    simp [g3]
  | [], _ :: _, _, _, h, _, _ => by simp [looserL] at h
  | _ :: _, [], _, _, h, _, _ => by simp [looserL] at h

theorem looser_ok : ∀ (x u : Tm) (ins : Nat), looser x u → okTm x ins → okTm u ins := by
  intro x
  induction x using Tm.ind with
  | h k n t f l ih =>
    rintro ⟨k', n', t', f', l'⟩ ins h hok
    obtain ⟨rfl, rfl, rfl, ht, hl⟩ := looser_mk.1 h
    obtain ⟨h0, h1⟩ := okTm_mk.1 hok
    have hlen := looserL_len _ _ hl
    refine okTm_mk.2 ⟨okTop_looser ht hlen h0, fun y hy => ?_⟩
    obtain ⟨j, hj, rfl⟩ := List.getElem_of_mem hy
    exact ih l[j] (List.getElem_mem _) _ _ (looserL_at l l' hl j (by omega) hj) (h1 _ (List.getElem_mem _))

theorem relL_refl_good (m : Nat) : ∀ l : List Ty, (∀ u, u ∈ l → goodY m u = true) → relL escFiner l l = true
  | [], _ => by simp [relL]
  | x :: r, h => by simp [relL, finer_refl m x (h x (by simp)), relL_refl_good m r fun u hu => h u (by simp [hu])]

/-- Who says less is not refused for it, and its type says less. -/
theorem read_loose : ∀ (x u : Tm) (takes takes' : List Ty) (c : Nat) (y : Tm) (i : Ty), looser x u → okTm x takes.length → (∀ u, u ∈ takes → goodY 4 u = true) → (∀ u, u ∈ takes' → goodY 4 u = true) → relL escFiner takes takes' = true → readS x takes c = some (y, i) →
    ∃ y' i', readS u takes' c = some (y', i') ∧ relY escFiner i i' = true := by
  intro x
  induction x using Tm.ind with
  | h k n t f l ih =>
    rintro ⟨k', n', t', f', l'⟩ takes takes' c y i hu hok hT hT' fT h
    have hok' := looser_ok _ _ _ hu hok
    obtain ⟨rfl, rfl, rfl, htt, hl⟩ := looser_mk.1 hu
    obtain ⟨h0, h1⟩ := okTm_mk.1 hok
    obtain ⟨h0', h1'⟩ := okTm_mk.1 hok'
    obtain ⟨k1, k9, hlp, _, ht, _, _⟩ := okTop_all h0
    obtain ⟨_, _, hlp', _, ht', _, _⟩ := okTop_all h0'
    obtain ⟨ps, us, e1, e2, e3, rfl⟩ := readS_some h
    have ft : relY escFiner t t' = true := by
      rcases htt with rfl | ⟨_, rfl⟩
      · exact finer_refl 4 _ ht
      · exact any_coarser _ _
    have fT2 : relL escFiner (takesIn k' t takes) (takesIn k' t' takes') = true := by
      unfold takesIn
      split
      · simp [relL, ft, fT]
      · exact fT
    have hTl := relL_len _ _ _ fT
    obtain ⟨ps', g1, g2⟩ := readL_loose (takes' := takesIn k' t' takes') l l' (c + 1) ps hl e1 fun z hz u hzu c y i hr =>
      ih z hz u _ _ c y i hzu (by rw [takesIn_length]; exact h1 z hz) (takesIn_good ht hT) (takesIn_good ht' hT') fT2 hr
    have hlen := readL_length _ _ _ _ e1
    have hlen' := readL_length _ _ _ _ g1
    have hp : ∀ u, u ∈ ps.map (fun p => p.2.2) → goodY ((l.map Tm.sz).sum + 4) u = true := by
      intro u hu
      obtain ⟨j, hj, rfl⟩ := List.getElem_of_mem hu
      have hj' : j < ps.length := by simpa using hj
      have := readL_all (Q := fun x _ _ i => goodY (x.sz + 4) i = true) l _ ps e1 (fun x hx c y i hr => read_good x _ c y i (by rw [takesIn_length]; exact h1 x hx) (takesIn_good ht hT) hr) j hj' (by omega)
      have hs := sz_mem l l[j] (List.getElem_mem _)
      simpa using goodY_more _ ((l.map Tm.sz).sum + 4) _ (by omega) this
    have hsz : (l'.map Tm.sz).sum = (l.map Tm.sz).sum := by
      rw [looserL_sz l l' (fun x _ u => looser_sz x u) hl]
    have hp' : ∀ u, u ∈ ps'.map (fun p => p.2.2) → goodY ((l.map Tm.sz).sum + 4) u = true := by
      intro u hu
      obtain ⟨j, hj, rfl⟩ := List.getElem_of_mem hu
      have hj' : j < ps'.length := by simpa using hj
      have := readL_all (Q := fun x _ _ i => goodY (x.sz + 4) i = true) l' _ ps' g1 (fun x hx c y i hr => read_good x _ c y i (by rw [takesIn_length, ← hTl]; exact h1' x hx) (takesIn_good ht' hT') hr) j hj' (by omega)
      have hs := sz_mem l' l'[j] (List.getElem_mem _)
      simpa using goodY_more _ ((l.map Tm.sz).sum + 4) _ (by omega) this
    obtain ⟨i', us', r1, r2, r3⟩ := rule_loose ((l.map Tm.sz).sum + 4) (by omega) k1 k9 (by simpa using hlen.trans hlp) ht ht' hp hp' ft g2 fT2 e2 e3
    refine ⟨⟨k', n', t', anyY, castL ps' us'⟩, i', ?_, r3⟩
    rw [readS_mk, g1]
    simp [r1, r2]
end Go.Proofs.YtnddkmccagiclaaDoor

/-
  Plain mathematics of check: each term is cast once at most, between types that fit and are not alike; without casts it is the term; no program in it.
-/
namespace Go.Proofs.YtnddkmccagiclaaDoor

/-- A term without casts, As and types. -/
def eraseM : Tm → Tm
  | ⟨k, n, _, _, l⟩ => match l.map fun x => eraseM x with
    | [x] => if k = 9 ∨ k = 10 then x else ⟨k, n, anyY, anyY, [x]⟩
    | m => ⟨k, n, anyY, anyY, m⟩

/-- Of a term whose parts are erased. -/
def eraseT (k n : Int) : List Tm → Tm
  | [x] => if k = 9 ∨ k = 10 then x else ⟨k, n, anyY, anyY, [x]⟩
  | m => ⟨k, n, anyY, anyY, m⟩

theorem eraseM_mk (k n : Int) (t f : Ty) (l : List Tm) : eraseM ⟨k, n, t, f, l⟩ = eraseT k n (l.map eraseM) := by
  rw [eraseM]
  rfl

theorem erase_cast (n : Int) (x : Tm) (i u : Ty) : eraseM (castY n x i u) = eraseM x := by
  unfold castY
  split
  · rfl
  · rw [eraseM_mk]; simp [eraseT]

/-- A cast, as it should be. -/
def siteOk (m : Nat) (s : Int × Ty × Ty) : Prop := goodY m s.2.1 = true ∧ goodY m s.2.2 = true ∧ relY escFits s.2.1 s.2.2 = true ∧ relY escSame s.2.1 s.2.2 = false

theorem siteOk.more {m m' : Nat} {s : Int × Ty × Ty} (h : siteOk m s) (hm : m ≤ m') : siteOk m' s := ⟨goodY_more _ _ _ hm h.1, goodY_more _ _ _ hm h.2.1, h.2.2⟩

/-- The casts of what came of a term: between its number and the number behind it; growing; as they should be; how many nodes; what is left without them. -/
structure SitesOk (m : Nat) (x y : Tm) (lo hi : Nat) : Prop where
  inn : ∀ s, s ∈ sitesM y → (lo : Int) ≤ s.1 ∧ s.1 < (hi : Int) ∧ siteOk m s
  grow : ((sitesM y).map fun s => s.1).Pairwise (· < ·)
  sz : y.sz = x.sz + (sitesM y).length
  er : eraseM y = eraseM x

theorem castY_sites (m : Nat) {x y : Tm} {n : Nat} {i u : Ty} (h : SitesOk m x y (n + 1) (n + x.sz)) (hi : goodY m i = true) (hu : goodY m u = true) (hf : relY escFits i u = true) : SitesOk m x (castY (n : Int) y i u) n (n + x.sz) := by
  have hp := x.sz_pos
  by_cases hs : relY escSame i u = true
  · have e : castY (n : Int) y i u = y := by simp [castY, hs]
    rw [e]
    exact ⟨fun s hsm => ⟨by have := (h.inn s hsm).1; omega, (h.inn s hsm).2⟩, h.grow, h.sz, h.er⟩
  · have hs' : relY escSame i u = false := by simpa using hs
    have e : castY (n : Int) y i u = ⟨10, n, u, i, [y]⟩ := by simp [castY, hs']
    have e2 : sitesM (castY (n : Int) y i u) = ((n : Int), i, u) :: sitesM y := by rw [e, sitesM_mk]; simp
    refine ⟨fun s hsm => ?_, ?_, ?_, by rw [erase_cast, h.er]⟩
    · rw [e2] at hsm
      rcases List.mem_cons.1 hsm with rfl | hsm
      · exact ⟨Int.le_refl _, by simp; omega, hi, hu, hf, hs'⟩
      · exact ⟨by have := (h.inn s hsm).1; omega, (h.inn s hsm).2⟩
    · rw [e2, List.map_cons, List.pairwise_cons]
      refine ⟨fun a ha => ?_, h.grow⟩
      obtain ⟨s, hsm, rfl⟩ := List.mem_map.1 ha
      have := (h.inn s hsm).1
      simp only
      omega
    · rw [e2, e, Tm.sz_mk]
      simp [h.sz]
      omega

theorem castL_sites (m : Nat) {takes : List Ty} : ∀ (l : List Tm) (c : Nat) (ps : List (Nat × Tm × Ty)) (us : List Ty), readL l takes c = some ps → us.length = ps.length → fitL (ps.map fun p => p.2.2) us = true → (∀ u, u ∈ us → goodY m u = true) →
    (∀ x, x ∈ l → ∀ c y i, readS x takes c = some (y, i) → goodY m i = true ∧ SitesOk m x y (c + 1) (c + x.sz)) →
    (∀ s, s ∈ (castL ps us).flatMap sitesM → (c : Int) ≤ s.1 ∧ s.1 < ((c + (l.map Tm.sz).sum : Nat) : Int) ∧ siteOk m s) ∧ (((castL ps us).flatMap sitesM).map fun s => s.1).Pairwise (· < ·) ∧
      ((castL ps us).map Tm.sz).sum = (l.map Tm.sz).sum + ((castL ps us).flatMap sitesM).length ∧ (castL ps us).map eraseM = l.map eraseM
  | [], c, ps, us, h, _, _, _, _ => by rw [readL] at h; cases h; simp [castL]
  | x :: r, c, ps, us, h, hl, hf, hu, hQ => by
    obtain ⟨y, i, q, h1, h2, rfl⟩ := readL_cons h
    match us, hl, hf, hu with
    | [], hl, _, _ => simp at hl
    | u :: vs, hl, hf, hu =>
      simp only [List.map_cons, fitL, Bool.and_eq_true] at hf
      obtain ⟨gi, so⟩ := hQ x (by simp) c y i h1
      have S := castY_sites m so gi (hu u (by simp)) hf.1
      obtain ⟨r1, r2, r3, r4⟩ := castL_sites m r (c + x.sz) q vs h2 (by simpa using hl) hf.2 (fun v hv => hu v (by simp [hv])) fun z hz => hQ z (by simp [hz])
      have e : castL ((c, y, i) :: q) (u :: vs) = castY (c : Int) y i u :: castL q vs := rfl
      rw [e]
      refine ⟨fun s hs => ?_, ?_, ?_, ?_⟩
      · rw [List.flatMap_cons, List.mem_append] at hs
        rcases hs with hs | hs
        · obtain ⟨a, b, d⟩ := S.inn s hs
          refine ⟨a, ?_, d⟩
          simp only [List.map_cons, List.sum_cons]
          omega
        · obtain ⟨a, b, d⟩ := r1 s hs
          refine ⟨by omega, ?_, d⟩
          simp only [List.map_cons, List.sum_cons]
          omega
      · rw [List.flatMap_cons, List.map_append, List.pairwise_append]
        refine ⟨S.grow, r2, fun a ha b hb => ?_⟩
        obtain ⟨s, hs, rfl⟩ := List.mem_map.1 ha
        obtain ⟨s', hs', rfl⟩ := List.mem_map.1 hb
        have := (S.inn s hs).2.1
        have := (r1 s' hs').1
        omega
      · rw [List.flatMap_cons, List.length_append, List.map_cons, List.sum_cons, List.map_cons, List.sum_cons, S.sz, r3]
        omega
      · rw [List.map_cons, List.map_cons, S.er, r4]

theorem read_sites : ∀ (x : Tm) (takes : List Ty) (c : Nat) (y : Tm) (i : Ty), okTm x takes.length → (∀ u, u ∈ takes → goodY 4 u = true) → readS x takes c = some (y, i) → SitesOk (x.sz + 4) x y (c + 1) (c + x.sz) := by
  intro x
  induction x using Tm.ind with
  | h k n t f l ih =>
    intro takes c y i hok hT h
    obtain ⟨h0, h1⟩ := okTm_mk.1 hok
    obtain ⟨k1, k9, hl, _, ht, _, _⟩ := okTop_all h0
    obtain ⟨ps, us, e1, e2, e3, rfl⟩ := readS_some h
    have hlen := readL_length _ _ _ _ e1
    have hp : ∀ x, x ∈ l → ∀ c y i, readS x (takesIn k t takes) c = some (y, i) → goodY ((l.map Tm.sz).sum + 4) i = true ∧ SitesOk ((l.map Tm.sz).sum + 4) x y (c + 1) (c + x.sz) := by
      intro x hx c y i hr
      have hs := sz_mem l x hx
      have ho : okTm x (takesIn k t takes).length := by rw [takesIn_length]; exact h1 x hx
      have S := ih x hx _ c y i ho (takesIn_good ht hT) hr
      exact ⟨goodY_more _ _ _ (by omega) (read_good x _ c y i ho (takesIn_good ht hT) hr), fun s hsm => ⟨(S.inn s hsm).1, (S.inn s hsm).2.1, (S.inn s hsm).2.2.more (by omega)⟩, S.grow, S.sz, S.er⟩
    have hg : ∀ u, u ∈ ps.map (fun p => p.2.2) → goodY ((l.map Tm.sz).sum + 4) u = true := by
      intro u hu
      obtain ⟨j, hj, rfl⟩ := List.getElem_of_mem hu
      have hj' : j < ps.length := by simpa using hj
      have := readL_all (Q := fun _ _ _ i => goodY ((l.map Tm.sz).sum + 4) i = true) l _ ps e1 (fun x hx c y i hr => (hp x hx c y i hr).1) j hj' (by omega)
      simpa using this
    obtain ⟨r1, _, r3⟩ := rule_good ((l.map Tm.sz).sum + 4) (by omega) k1 k9 (by simpa using hlen.trans hl) ht (takesIn_good ht hT) hg e2
    have up : ∀ x, x ∈ l → ∀ c y i, readS x (takesIn k t takes) c = some (y, i) → goodY ((l.map Tm.sz).sum + 4 + 1) i = true ∧ SitesOk ((l.map Tm.sz).sum + 4 + 1) x y (c + 1) (c + x.sz) := by
      intro x hx c y i hr
      obtain ⟨g, S⟩ := hp x hx c y i hr
      exact ⟨goodY_more _ _ _ (by omega) g, fun s hsm => ⟨(S.inn s hsm).1, (S.inn s hsm).2.1, (S.inn s hsm).2.2.more (by omega)⟩, S.grow, S.sz, S.er⟩
    obtain ⟨s1, s2, s3, s4⟩ := castL_sites ((l.map Tm.sz).sum + 4 + 1) l (c + 1) ps us e1 (by simpa using r1) e3 r3 up
    have e : sitesM ⟨k, n, t, anyY, castL ps us⟩ = (castL ps us).flatMap sitesM := by rw [sitesM_mk, if_neg (by omega), List.nil_append]
    refine ⟨fun s hs => ?_, by rw [e]; exact s2, ?_, ?_⟩
    · rw [e] at hs
      obtain ⟨a, b, d⟩ := s1 s hs
      rw [Tm.sz_mk]
      exact ⟨a, by omega, d.more (by omega)⟩
    · rw [e, Tm.sz_mk, Tm.sz_mk, s3]
      omega
    · rw [eraseM_mk, eraseM_mk, s4]
end Go.Proofs.YtnddkmccagiclaaDoor

/-
  What the call of term.Same answers at two terms that are alike.
-/
namespace Go.Proofs.YtnddkmccagiclaaDoor
open Go.RowKit

/-- A list of one term that lies in a block of its own. -/
def oneOf (g : Nat) (x : TT) : TT := ⟨0, 0, leaf 0, leaf 0, some ⟨g, 0, none⟩, 1, [x]⟩

theorem oneOf_in {w : World} {g : Nat} {x : TT} (h : At7 w g 0 x) (hx : x.In w) : (oneOf g x).In w := by
  refine TT.In_mk.2 ⟨leaf_in _ _, leaf_in _ _, fun j hj => ⟨g, 0, rfl, ?_⟩, fun y hy => ?_⟩
  · obtain rfl : j = 0 := by simp at hj; omega
    exact h
  · rcases List.mem_singleton.1 hy with rfl
    exact hx

theorem oneOf_bl {P : Nat → Prop} {g : Nat} {x : TT} (h : P g) (hx : x.Bl P) : (oneOf g x).Bl P := by
  refine TT.Bl_mk.2 ⟨leaf_bl _ _, leaf_bl _ _, fun _ y hy => by cases hy; exact h, fun y hy => ?_⟩
  rcases List.mem_singleton.1 hy with rfl
  exact hx

theorem leaf_tok (k : Int) : (leaf k).hgt ≤ 1000 ∧ (leaf k).sm := by
  refine ⟨?_, Tr.sm_mk.2 ⟨by simp, fun t h => by cases h⟩⟩
  rw [leaf, Tr.hgt_mk]; simp

theorem oneOf_tok {g : Nat} {x : TT} (hx : x.tok) : (oneOf g x).tok := by
  refine TT.tok_mk.2 ⟨leaf_tok 0, leaf_tok 0, fun y hy => ?_⟩
  rcases List.mem_singleton.1 hy with rfl
  exact hx

theorem tleaf_tok (k n : Int) : (tleaf k n).tok := TT.tok_mk.2 ⟨leaf_tok 0, leaf_tok 0, fun y hy => by cases hy⟩

set_option maxRecDepth 20000 in
set_option maxHeartbeats 8000000 in
/-- term.Same, of two that are alike. -/
theorem sameTm_yes (x y : TT) (w : World) (hx : x.In w) (hy : y.In w) (htm : x.tm = y.tm) (hto : x.tok) (hsz : x.sz ≤ 1000000) :
    Calls Tryd.prog 10 #[.agg #[.int .i64 x.k, .int .i64 x.n, .int .i64 x.t.k, .slice x.t.a x.t.l.length x.t.c, .int .i64 x.f.k, .slice x.f.a x.f.l.length x.f.c, .slice x.a x.l.length x.c], .agg #[.int .i64 y.k, .int .i64 y.n, .int .i64 y.t.k, .slice y.t.a y.t.l.length y.t.c, .int .i64 y.f.k, .slice y.f.a y.f.l.length y.f.c, .slice y.a y.l.length y.c]] w fun e w' => e = .returned (.bool true) ∧ Below w.heap.size w w' := by
  obtain ⟨i0, hi0, hz0, hz1, hz2⟩ := info_parts Tryd.info59
  obtain ⟨OX, hOX⟩ : ∃ O, O = Obj.cells #[.int .i64 x.k, .int .i64 x.n, .int .i64 x.t.k, .slice x.t.a x.t.l.length x.t.c, .int .i64 x.f.k, .slice x.f.a x.f.l.length x.f.c, .slice x.a x.l.length x.c] 27 := ⟨_, rfl⟩
  obtain ⟨OY, hOY⟩ : ∃ O, O = Obj.cells #[.int .i64 y.k, .int .i64 y.n, .int .i64 y.t.k, .slice y.t.a y.t.l.length y.t.c, .int .i64 y.f.k, .slice y.f.a y.f.l.length y.f.c, .slice y.a y.l.length y.c] 27 := ⟨_, rfl⟩
  have HL : Hid (Stk (w.heap.size + 1 + 1 + 1 + 1) (.slice (some ⟨w.heap.size + 1 + 1 + 1 + 1, 0, none⟩) 1 1) [(oneOf (w.heap.size + 1 + 1) x, oneOf (w.heap.size + 1 + 1 + 1) y)] (((((w.alloc OX).alloc OY).alloc OX).alloc OY).alloc (.cells #[.slice (some ⟨w.heap.size + 1 + 1, 0, none⟩) 1 1, .slice (some ⟨w.heap.size + 1 + 1 + 1, 0, none⟩) 1 1] 59)) ∧ Below w.heap.size w (((((w.alloc OX).alloc OY).alloc OX).alloc OY).alloc (.cells #[.slice (some ⟨w.heap.size + 1 + 1, 0, none⟩) 1 1, .slice (some ⟨w.heap.size + 1 + 1 + 1, 0, none⟩) 1 1] 59)) ∧ mass [(oneOf (w.heap.size + 1 + 1) x, oneOf (w.heap.size + 1 + 1 + 1) y)] ≤ 1000001) := by
    have hb : Below w.heap.size w (((((w.alloc OX).alloc OY).alloc OX).alloc OY).alloc (.cells #[.slice (some ⟨w.heap.size + 1 + 1, 0, none⟩) 1 1, .slice (some ⟨w.heap.size + 1 + 1 + 1, 0, none⟩) 1 1] 59)) := (((((Below.refl _ _).alloc (Nat.le_refl _) _).alloc (by simp) _).alloc (by simp; omega) _).alloc (by simp; omega) _).alloc (by simp; omega) _
    have hh := heap_alloc_new ((((w.alloc OX).alloc OY).alloc OX).alloc OY) (.cells #[.slice (some ⟨w.heap.size + 1 + 1, 0, none⟩) 1 1, .slice (some ⟨w.heap.size + 1 + 1 + 1, 0, none⟩) 1 1] 59)
    simp only [World.size_alloc] at hh
    refine ⟨⟨⟨rfl, .inr ⟨_, 1, _, rfl, Nat.le_refl _, hh, Nat.le_refl _, by unfold maxLen; omega, rfl, rfl⟩⟩, fun p hp => ?_⟩, hb, ?_⟩
    · rcases List.mem_singleton.1 hp with rfl
      refine ⟨oneOf_in ?_ (hx.below hb), oneOf_in ?_ (hy.below hb), oneOf_bl (by omega) (hx.bl.mono fun b h => by omega), oneOf_bl (by omega) (hy.bl.mono fun b h => by omega), oneOf_tok hto, ?_⟩
      · subst hOX hOY; constructor <;> simp [go_sem]
      · subst hOX hOY; constructor <;> simp [go_sem]
      · simp [oneOf, htm]
    · simp [mass, oneOf, TT.sz_mk]; omega
  obtain ⟨B, hB⟩ : ∃ B, w.heap.size + 1 + 1 + 1 + 1 = B := ⟨_, rfl⟩
  have hBw : w.heap.size < B := by omega
  subst hOX hOY
  clear hx hy htm hto hsz
  go_enter Tryd.func10, Tryd.ntmps10
  go_wp2_with fail
  go_loopg [5] (mass [(oneOf (w.heap.size + 1 + 1) x, oneOf (w.heap.size + 1 + 1 + 1) y)]) (fun k v wr => ∃ (u : Value) (ps : List (TT × TT)), u = v ∧ k = mass ps ∧ Hid (Stk B u ps wr ∧ Below w.heap.size w wr ∧ mass ps ≤ 1000001))
  case atStart => exact ⟨_, _, rfl, rfl, by rw [← hB]; exact HL⟩
  case round =>
    obtain ⟨v, ps, hv, hk, HR⟩ := hrel
    subst hv
    have HK : Hid (gk = mass ps) := hk
    clear hk HL hB
    by_cases hne : ps = []
    · subst hne
      obtain ⟨a, c, rfl⟩ : ∃ a c, v = .slice a 0 c := by
        rcases HR.out.1.own.2 with ⟨rfl, _⟩ | ⟨g, cap, cur, rfl, _⟩
        · exact ⟨_, _, rfl⟩
        · exact ⟨_, _, rfl⟩
      have HF : Hid (Below w.heap.size w wr) := HR.out.2.1
      clear HR HK
      go_wp2_with fail
      go_ret
      exact ⟨rfl, HF.out⟩
    · obtain ⟨us, p, rfl⟩ : ∃ us p, ps = us ++ [p] := ⟨ps.dropLast, ps.getLast hne, (List.dropLast_concat_getLast hne).symm⟩
      have ho := HR.out.1.own
      have hlen : (us ++ [p]).length = us.length + 1 := by simp
      rw [hlen, cells2_append] at ho
      obtain ⟨g, cap, rfl, hg, hgl⟩ := ho.form (by omega)
      have c0 := ho.cellAt (us.length * 2) (by omega)
      have c1 := ho.cellAt (us.length * 2 + 1) (by omega)
      rw [List.getElem?_append_right (by rw [cells2_length]; exact Nat.le_refl _), cells2_length, Nat.sub_self] at c0
      rw [List.getElem?_append_right (by rw [cells2_length]; omega), cells2_length, show us.length * 2 + 1 - us.length * 2 = 1 by omega] at c1
      simp only [cells2, List.flatMap_cons, List.flatMap_nil, List.append_nil, List.getElem?_cons_zero, List.getElem?_cons_succ] at c0 c1
      have hcap : us.length + 1 ≤ cap := by
        rcases ho.2 with ⟨h, _⟩ | ⟨g', cap', cur, h, _, _, h1, _⟩
        · cases h
        · cases h; exact h1
      have hop : wr.ownsRow B 59 2 (.slice (some ⟨g, 0, none⟩) us.length cap) us.length (cells2 us) := ownsRow_pop (cells2_length us) ho
      have hpr : Pr B wr p := HR.out.1.ins p (by simp)
      have hms : mass (us ++ [p]) = mass us + p.1.sz := by simp [mass]
      have hus := Stk.len (ps := us)
      have hml := HR.out.2.2
      have i1 : (us.length : Int) < ((us.length : Int) + 1) := by omega
      have n1 : (us.length : Int) ≤ 1000001 := by omega
      have n2 : (us.length : Int) ≤ (cap : Int) := by omega
      have n3 : (0 : Int) ≤ (us.length : Int) := by omega
      have hgne : g ≠ wr.heap.size := by omega
      have hpl : p.1.l.length ≤ 1000001 := by
        have h1 := p.1.sz_eq
        have h2 : p.1.l.length ≤ (p.1.l.map TT.sz).sum := by
          generalize p.1.l = l
          induction l with
          | nil => simp
          | cons u r ih => have := u.sz_pos; simp only [List.length_cons, List.map_cons, List.sum_cons]; omega
        omega
      have hszB : B ≤ wr.heap.size := by omega
      have HI : Hid (Stk B (.slice (some ⟨g, 0, none⟩) us.length cap) us wr ∧ Below w.heap.size w wr ∧ Pr B wr p ∧ g < wr.heap.size) := ⟨⟨hop, fun q hq => HR.out.1.ins q (by simp [hq])⟩, HR.out.2.1, hpr, hgl⟩
      have HM : Hid (gk = mass us + p.1.sz ∧ mass us + p.1.sz ≤ 1000001) := ⟨HK.out.trans hms, by rw [← hms]; exact hml⟩
      clear ho hop hpr HR HK hms hml hne hlen hus
      go_wp2_with fail
      obtain ⟨W0, hW0⟩ : ∃ W, W = wr := ⟨_, rfl⟩
      subst hW0
      have hb0 : ∀ o, Below W0.heap.size W0 (W0.alloc o) := fun o => (Below.refl _ _).alloc (Nat.le_refl _) _
      have HI0 : Hid (∀ o, Stk B (.slice (some ⟨g, 0, none⟩) us.length cap) us (W0.alloc o) ∧ Below w.heap.size w (W0.alloc o) ∧ Pr B (W0.alloc o) p) := fun o =>
        ⟨⟨HI.out.1.own.alloc _, fun q hq => (HI.out.1.ins q hq).low ((hb0 o).mono hszB)⟩, HI.out.2.1.trans ((hb0 o).mono (by omega)), HI.out.2.2.1.low ((hb0 o).mono hszB)⟩
      clear hb0 c0 c1
      go_loopg [5, 33] p.1.l.length (fun q v i wx => ∃ (j : Nat) (u : Value), q + j = p.1.l.length ∧ i = .int .i64 (j : Int) ∧ u = v ∧ Hid (Stk B u (us ++ kids (p.1.l.take j) (p.2.l.take j)) wx ∧ Below w.heap.size w wx ∧ Pr B wx p ∧ wx.cell? ⟨W0.heap.size, 1, none⟩ = some (.slice p.2.a p.2.l.length p.2.c) ∧ u.ownBlock ≠ some W0.heap.size))
      case atStart => exact ⟨0, _, by omega, rfl, rfl, by simp [kids]; exact (HI0.out _).1, (HI0.out _).2.1, (HI0.out _).2.2, by simp [go_sem], by simp [Value.ownBlock]; omega⟩
      case round =>
        obtain ⟨j, v, hj, rfl, hv, HQ⟩ := hrel
        subst hv
        have HJ : Hid (gk + j = p.1.l.length) := hj
        clear hj HI0
        have hll : p.1.l.length = p.2.l.length := by have := congrArg List.length HQ.out.2.2.1.2.2.2.2.2; simpa using this
        have HLL : Hid (p.1.l.length = p.2.l.length) := hll
        clear hll
        by_cases hlt : j < p.1.l.length
        · have hlt2 : j < p.2.l.length := by rw [← HLL.out]; exact hlt
          obtain ⟨hp1, hp2, hb1, hb2, hto, htm⟩ := HQ.out.2.2.1
          obtain ⟨b, o, ea, hX, hxj⟩ := hp1.part j hlt
          obtain ⟨b', o', ea', hY, hyj⟩ := hp2.part j hlt2
          have c1 := HQ.out.2.2.2.1
          rw [ea'] at c1
          have hxy : p.1.l[j].tm = p.2.l[j].tm := by
            have h1 : (p.1.l.map TT.tm)[j]? = some p.1.l[j].tm := by simp [hlt]
            have h2 : (p.2.l.map TT.tm)[j]? = some p.2.l[j].tm := by simp [hlt2]
            rw [htm, h2] at h1
            exact (Option.some.inj h1).symm
          obtain ⟨qk, qn, ql, qt, qf, qm⟩ := tm_parts hxy
          have htoj : p.1.l[j].tok := hto.mem (List.getElem_mem hlt)
          have hblj : p.1.l[j].Bl (· < B) ∧ p.2.l[j].Bl (· < B) := ⟨hb1.mem (List.getElem_mem hlt), hb2.mem (List.getElem_mem hlt2)⟩
          obtain ⟨X, hXe⟩ : ∃ X, p.1.l[j] = X := ⟨_, rfl⟩
          obtain ⟨Y, hYe⟩ : ∃ Y, p.2.l[j] = Y := ⟨_, rfl⟩
          rw [hXe] at hX hxj qk qn ql qt qf qm htoj hblj
          rw [hYe] at hY hyj qk qn ql qt qf qm hblj
          have HXY : Hid (p.1.l[j] = X ∧ p.2.l[j] = Y) := ⟨hXe, hYe⟩
          have d0 := hX.c0
          have d1 := hX.c1
          have d2 := hX.c2
          have d3 := hX.c3
          have d4 := hX.c4
          have d5 := hX.c5
          have d6 := hX.c6
          have e0 := hY.c0
          have e1 := hY.c1
          have e2 := hY.c2
          have e3 := hY.c3
          have e4 := hY.c4
          have e5 := hY.c5
          have e6 := hY.c6
          have lb : b < wr.heap.size := hX.lt
          have lb' : b' < wr.heap.size := hY.lt
          have lN : W0.heap.size < wr.heap.size := World.block_lt_of_cell? _ _ c1
          have HA : Hid (∀ W, Below wr.heap.size wr W → Calls Tryd.prog 36 #[.agg #[.int .i64 X.k, .int .i64 X.n, .int .i64 X.t.k, .slice X.t.a X.t.l.length X.t.c, .int .i64 X.f.k, .slice X.f.a X.f.l.length X.f.c, .slice X.a X.l.length X.c], .agg #[.int .i64 Y.k, .int .i64 Y.n, .int .i64 Y.t.k, .slice Y.t.a Y.t.l.length Y.t.c, .int .i64 Y.f.k, .slice Y.f.a Y.f.l.length Y.f.c, .slice Y.a Y.l.length Y.c]] W fun e w' => e = .returned (.bool true) ∧ Below W.heap.size W w') := fun W hW => alikeTm_yes X Y W (hxj.below hW) (hyj.below hW) qk qn ql qt qf htoj
          have HP : Hid (Pr B wr (X, Y)) := ⟨hxj, hyj, hblj.1, hblj.2, htoj, qm⟩
          have HQL : Hid (X.l.length = Y.l.length) := ql
          have i5 : (j : Int) < (p.1.l.length : Int) := by omega
          have i6 : (j : Int) < (p.2.l.length : Int) := by omega
          have i7 : (0 : Int) ≤ (j : Int) := by omega
          have HEA : Hid (p.1.a = some ⟨b, o, none⟩) := ea
          rw [ea]
          have hb2 : ∀ o o', Below wr.heap.size wr ((wr.alloc o).alloc o') := fun o o' => ((Below.refl _ _).alloc (Nat.le_refl _) _).alloc (by simp) _
          have HB2 : Hid (∀ o o', Below wr.heap.size wr ((wr.alloc o).alloc o')) := hb2
          clear hp1 hp2 hb1 hto htm ea ea' hX hY hxj hyj hxy qk qn ql qt qf qm htoj hblj hXe hYe hb2
          go_wp2_with fail
          refine (HA.out _ (HB2.out _ _)).mono ?_
          rintro e w2 ⟨rfl, hbz⟩
          have hbw : Below wr.heap.size wr w2 := (HB2.out _ _).trans (hbz.mono (by simp; omega))
          have m6 : w2.cell? ⟨wr.heap.size, 6, none⟩ = some (.slice X.a X.l.length X.c) := cell_later hbz (by simp [go_sem])
          have k6 : w2.cell? ⟨wr.heap.size + 1, 6, none⟩ = some (.slice Y.a Y.l.length Y.c) := cell_later hbz (by simp [go_sem])
          have lw2 : wr.heap.size + 1 < w2.heap.size := World.block_lt_of_cell? _ _ k6
          have HW2 : Hid (Stk B v (us ++ kids (p.1.l.take j) (p.2.l.take j)) w2 ∧ Below w.heap.size w w2 ∧ Pr B w2 p ∧ w2.cell? ⟨W0.heap.size, 1, none⟩ = some (.slice p.2.a p.2.l.length p.2.c) ∧ v.ownBlock ≠ some W0.heap.size ∧ Pr B w2 (X, Y)) := by
            have hlow : Below B wr w2 := hbw.mono (by omega)
            refine ⟨⟨?_, fun q hq => (HQ.out.1.ins q hq).low hlow⟩, HQ.out.2.1.trans (hbw.mono HQ.out.2.1.size), HQ.out.2.2.1.low hlow, cell_later hbw HQ.out.2.2.2.1, HQ.out.2.2.2.2, HP.out.low hlow⟩
            exact ownsRow_low HQ.out.1.own hbw
          have HSN : Hid (kids (p.1.l.take (j + 1)) (p.2.l.take (j + 1)) = kids (p.1.l.take j) (p.2.l.take j) ++ (if X.l.length = 0 then [] else [(X, Y)])) := by
            have := kids_snoc p.1.l p.2.l j hlt hlt2
            rw [HXY.out.1, HXY.out.2] at this
            exact this
          clear hbz hbw HQ HA HP c1 d0 d1 d2 d3 d4 d5 d6 e0 e1 e2 e3 e4 e5 e6
          by_cases hz : X.l.length = 0
          · have i8 : ¬ (0 : Int) < (X.l.length : Int) := by omega
            have HN : Hid (Stk B v (us ++ kids (p.1.l.take (j + 1)) (p.2.l.take (j + 1))) w2 ∧ Below w.heap.size w w2 ∧ Pr B w2 p ∧ w2.cell? ⟨W0.heap.size, 1, none⟩ = some (.slice p.2.a p.2.l.length p.2.c) ∧ v.ownBlock ≠ some W0.heap.size) := by
              show _ ∧ _
              rw [HSN.out, if_pos hz, List.append_nil]
              exact ⟨HW2.out.1, HW2.out.2.1, HW2.out.2.2.1, HW2.out.2.2.2.1, HW2.out.2.2.2.2.1⟩
            clear hz HW2
            go_wp2_with fail
            rw [← HEA.out]
            go_roundg (p.1.l.length - (j + 1))
            case measure => have := HJ.out; omega
            case rel => exact ⟨j + 1, _, by have := HJ.out; omega, by go_num, rfl, HN⟩
          · have i8 : (0 : Int) < (X.l.length : Int) := by omega
            obtain ⟨N, hN⟩ : ∃ N, (us ++ kids (p.1.l.take j) (p.2.l.take j)).length = N := ⟨_, rfl⟩
            obtain ⟨xs, hxs⟩ : ∃ xs, cells2 (us ++ kids (p.1.l.take j) (p.2.l.take j)) = xs := ⟨_, rfl⟩
            have hNb : N ≤ 1000001 := by
              have h1 := Stk.len (ps := us ++ kids (p.1.l.take j) (p.2.l.take j))
              have h2 := kids_mass (p.1.l.take j) (p.2.l.take j)
              have h3 := sum_take_le TT.sz p.1.l j
              have h4 := p.1.sz_eq
              have h5 := HM.out.2
              have h6 : mass (us ++ kids (p.1.l.take j) (p.2.l.take j)) = mass us + mass (kids (p.1.l.take j) (p.2.l.take j)) := by simp [mass]
              omega
            have uo : w2.ownsRow B 59 2 v N xs := by rw [← hN, ← hxs]; exact HW2.out.1.own
            have hnew := heap_alloc_new w2 (.cells #[.slice X.a X.l.length X.c, .slice Y.a Y.l.length Y.c] 59)
            have HNX : Hid ((us ++ kids (p.1.l.take j) (p.2.l.take j)).length = N ∧ cells2 (us ++ kids (p.1.l.take j) (p.2.l.take j)) = xs) := ⟨hN, hxs⟩
            have HZ : Hid (X.l.length ≠ 0) := hz
            clear hN hxs hz
            go_wp2_with (at_builtin; refine wpList_append_lies _ rfl _ _ _ rfl B 59 i0 _ 2 48 Tryd.underlying60 hi0 hz0 hz1 hz2 rfl (by omega) v N xs rfl (uo.alloc _) ⟨w2.heap.size, 0, none⟩ 1 1 [.slice X.a X.l.length X.c, .slice Y.a Y.l.length Y.c] rfl rfl (World.news_of_block (cs := #[.slice X.a X.l.length X.c, .slice Y.a Y.l.length Y.c]) (t := 59) (fr := (0, 0)) hnew) (by simp [Value.oneCell']) (by omega) (by unfold maxLen; omega) (by omega) (by simp; omega) (w2.heap.size + 1) (by simp) ?_; intro gg cap1 w3 hown1 hgrow hat hlt3)
            have hov : ∀ q, v.ownBlock = some q → B ≤ q ∧ q < w2.heap.size := uo.lt
            have hlow : Below B w2 w3 := by
              refine ⟨hgrow.os.trans rfl, hgrow.tape.trans rfl, hgrow.output.trans rfl, by have := hgrow.size; simp at this; omega, fun q hq => ?_⟩
              rw [hgrow.block q (by simp; omega) (fun e => by have := (hov q e.symm).1; omega)]
              exact ((Below.refl _ w2).alloc (Nat.le_refl _) _).block q (by omega)
            have hcN : w3.cell? ⟨W0.heap.size, 1, none⟩ = some (.slice p.2.a p.2.l.length p.2.c) := by
              rw [hgrow.cell_far _ (by simp; omega) (Ne.symm HW2.out.2.2.2.2.1)]
              exact cell_later ((Below.refl _ _).alloc (Nat.le_refl _) _) HW2.out.2.2.2.1
            have HN : Hid (Stk B (.slice (some ⟨gg, 0, none⟩) (N + 1) cap1) (us ++ kids (p.1.l.take (j + 1)) (p.2.l.take (j + 1))) w3 ∧ Below w.heap.size w w3 ∧ Pr B w3 p ∧ w3.cell? ⟨W0.heap.size, 1, none⟩ = some (.slice p.2.a p.2.l.length p.2.c) ∧ (Value.slice (some ⟨gg, 0, none⟩) (N + 1) cap1).ownBlock ≠ some W0.heap.size) := by
              show _ ∧ _
              rw [HSN.out, if_neg HZ.out, ← List.append_assoc]
              refine ⟨⟨?_, fun q hq => ?_⟩, HW2.out.2.1.trans (hlow.mono (by omega)), HW2.out.2.2.1.low hlow, hcN, ?_⟩
              · rw [cells2_append, List.length_append, List.length_singleton, HNX.out.1, HNX.out.2]
                exact hown1
              · rcases List.mem_append.1 hq with hq | hq
                · exact (HW2.out.1.ins q hq).low hlow
                · rcases List.mem_singleton.1 hq with rfl
                  exact HW2.out.2.2.2.2.2.low hlow
              · show some gg ≠ some W0.heap.size
                rcases hat with e | e
                · rw [← e]; exact HW2.out.2.2.2.2.1
                · simp only [ne_eq, Option.some.injEq]; omega
            clear hown1 hgrow hat hlt3 hov hlow hcN HW2 uo hnew m6 k6
            go_wp2_with fail
            rw [← HEA.out]
            go_roundg (p.1.l.length - (j + 1))
            case measure => have := HJ.out; omega
            case rel => exact ⟨j + 1, _, by have := HJ.out; omega, by go_num, rfl, HN⟩
        · have HN : Hid (Stk B v (us ++ kids p.1.l p.2.l) wr ∧ Below w.heap.size w wr ∧ mass (us ++ kids p.1.l p.2.l) ≤ 1000001) := by
            have h1 := HQ.out.1
            rw [List.take_of_length_le (by omega), List.take_of_length_le (by have := HLL.out; omega)] at h1
            have h2 := kids_mass p.1.l p.2.l
            have h4 := p.1.sz_eq
            have h5 := HM.out.2
            have h6 : mass (us ++ kids p.1.l p.2.l) = mass us + mass (kids p.1.l p.2.l) := by simp [mass]
            exact ⟨h1, HQ.out.2.1, by omega⟩
          clear HQ
          go_wp2_with fail
          go_roundg (mass (us ++ kids p.1.l p.2.l))
          case measure =>
            have h2 := kids_mass p.1.l p.2.l
            have h4 := p.1.sz_eq
            have h5 := HM.out.1
            have h6 : mass (us ++ kids p.1.l p.2.l) = mass us + mass (kids p.1.l p.2.l) := by simp [mass]
            omega
          case rel => exact ⟨_, _, rfl, rfl, HN⟩
end Go.Proofs.YtnddkmccagiclaaDoor
