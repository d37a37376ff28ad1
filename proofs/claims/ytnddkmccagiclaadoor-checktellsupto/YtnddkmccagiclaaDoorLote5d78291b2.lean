/-
  What check's Check makes of a term, in plain mathematics: the term with its casts, and its type; that these types are good; no program in it.
-/
import Derived.Test.YtnddkmccagiclaaDoorLot0072f1a7a7
import Derived.Test.YtnddkmccagiclaaDoorLote54be471a2
import Derived.Deep.DeepCutAuto
import Derived.Deep.LoopGhost
import Derived.Test.YtnddkmccagiclaaDoorLot1e7586c05d
namespace Go.Proofs.YtnddkmccagiclaaDoor
/-- The parts, cast to what they are used as. -/
def castL : List (Nat × Tm × Ty) → List Ty → List Tm
  | p :: r, u :: s => castY (p.1 : Int) p.2.1 p.2.2 u :: castL r s
  | _, _ => []
theorem castL_length : ∀ (ps : List (Nat × Tm × Ty)) (us : List Ty), ps.length = us.length → (castL ps us).length = ps.length
  | [], [], _ => rfl
  | p :: r, u :: s, h => by simp [castL, castL_length r s (by simpa using h)]
  | [], _ :: _, h => by simp at h
  | _ :: _, [], h => by simp at h
/-- What the functions around a term's parts take. -/
def takesIn (k : Int) (t : Ty) (takes : List Ty) : List Ty := if k = 7 then t :: takes else takes
/-- Each part's reading, by its number; none: one has none. -/
def mapR : (l : List Tm) → ((x : Tm) → x ∈ l → Nat → Option (Tm × Ty)) → Nat → Option (List (Nat × Tm × Ty))
  | [], _, _ => some []
  | x :: r, f, c => (f x List.mem_cons_self c).bind fun p => (mapR r (fun z h c => f z (List.mem_cons_of_mem _ h) c) (c + x.sz)).bind fun q => some ((c, p.1, p.2) :: q)
/-- The term with its casts, and its type. -/
def readS : Tm → List Ty → Nat → Option (Tm × Ty)
  | ⟨k, n, t, _, l⟩, takes, c =>
    (mapR l (fun x _ c => readS x (takesIn k t takes) c) (c + 1)).bind fun ps =>
      (ruleY k n t (ps.map fun p => p.2.2) (takesIn k t takes)).bind fun r =>
        if fitL (ps.map fun p => p.2.2) r.2 = true then some (⟨k, n, t, anyY, castL ps r.2⟩, r.1) else none
def readL : List Tm → List Ty → Nat → Option (List (Nat × Tm × Ty))
  | [], _, _ => some []
  | x :: r, takes, c => (readS x takes c).bind fun p => (readL r takes (c + x.sz)).bind fun q => some ((c, p.1, p.2) :: q)
theorem mapR_read (takes : List Ty) : ∀ (l : List Tm) (c : Nat), mapR l (fun x _ c => readS x takes c) c = readL l takes c
  | [], _ => rfl
  | x :: r, c => by simp only [mapR, readL, mapR_read takes r]
theorem readS_mk (k n : Int) (t f : Ty) (l : List Tm) (takes : List Ty) (c : Nat) : readS ⟨k, n, t, f, l⟩ takes c =
    (readL l (takesIn k t takes) (c + 1)).bind fun ps => (ruleY k n t (ps.map fun p => p.2.2) (takesIn k t takes)).bind fun r => if fitL (ps.map fun p => p.2.2) r.2 = true then some (⟨k, n, t, anyY, castL ps r.2⟩, r.1) else none := by
  rw [readS, mapR_read]
theorem readS_some {k n : Int} {t f : Ty} {l : List Tm} {takes : List Ty} {c : Nat} {y : Tm} {i : Ty} (h : readS ⟨k, n, t, f, l⟩ takes c = some (y, i)) :
    ∃ ps us, readL l (takesIn k t takes) (c + 1) = some ps ∧ ruleY k n t (ps.map fun p => p.2.2) (takesIn k t takes) = some (i, us) ∧ fitL (ps.map fun p => p.2.2) us = true ∧ y = ⟨k, n, t, anyY, castL ps us⟩ := by
  rw [readS_mk] at h
  cases h1 : readL l (takesIn k t takes) (c + 1) with
  | none => rw [h1] at h; cases h
  | some ps =>
    rw [h1] at h
    simp only [Option.bind_some] at h
    cases h2 : ruleY k n t (ps.map fun p => p.2.2) (takesIn k t takes) with
    | none => rw [h2] at h; cases h
    | some r =>
      rw [h2] at h
      simp only [Option.bind_some] at h
      split at h
      · rename_i h3
        cases h
        exact ⟨ps, r.2, rfl, h2, h3, rfl⟩
      · cases h
theorem readL_cons {x : Tm} {r : List Tm} {takes : List Ty} {c : Nat} {ps : List (Nat × Tm × Ty)} (h : readL (x :: r) takes c = some ps) : ∃ y i q, readS x takes c = some (y, i) ∧ readL r takes (c + x.sz) = some q ∧ ps = (c, y, i) :: q := by
  rw [readL] at h
  cases h1 : readS x takes c with
  | none => rw [h1] at h; cases h
  | some p =>
    rw [h1] at h
    simp only [Option.bind_some] at h
    cases h2 : readL r takes (c + x.sz) with
    | none => rw [h2] at h; cases h
    | some q =>
      rw [h2] at h
      simp only [Option.bind_some] at h
      cases h
      exact ⟨p.1, p.2, q, rfl, rfl, rfl⟩
theorem readL_length : ∀ (l : List Tm) (takes : List Ty) (c : Nat) (ps : List (Nat × Tm × Ty)), readL l takes c = some ps → ps.length = l.length
  | [], _, _, ps, h => by rw [readL] at h; cases h; rfl
  | x :: r, takes, c, ps, h => by
    obtain ⟨y, i, q, _, h2, rfl⟩ := readL_cons h
    simp [readL_length r takes _ q h2]
/-- What is true of each part's reading is true of all. -/
theorem readL_all {takes : List Ty} {Q : Tm → Nat → Tm → Ty → Prop} : ∀ (l : List Tm) (c : Nat) (ps : List (Nat × Tm × Ty)), readL l takes c = some ps → (∀ x, x ∈ l → ∀ c y i, readS x takes c = some (y, i) → Q x c y i) →
    ∀ j (h : j < ps.length) (h' : j < l.length), Q l[j] ps[j].1 ps[j].2.1 ps[j].2.2
  | [], c, ps, h, _, j, hj, h' => by simp at h'
  | x :: r, c, ps, h, hQ, j, hj, h' => by
    obtain ⟨y, i, q, h1, h2, rfl⟩ := readL_cons h
    match j with
    | 0 => exact hQ x (by simp) c y i h1
    | j + 1 => exact readL_all r _ q h2 (fun z hz => hQ z (by simp [hz])) j (by simpa using hj) (by simpa using h')
/-- All that is asked of a good term, and of its parts. -/
def okTm : Tm → Nat → Prop
  | ⟨k, n, t, f, l⟩, ins => okTop 0 (ins : Int) ⟨k, n, t, f, l⟩ = true ∧ ∀ x, x ∈ l → okTm x (if k = 7 then ins + 1 else ins)
theorem okTm_mk {k n : Int} {t f : Ty} {l : List Tm} {ins : Nat} : okTm ⟨k, n, t, f, l⟩ ins ↔ okTop 0 (ins : Int) ⟨k, n, t, f, l⟩ = true ∧ ∀ x, x ∈ l → okTm x (if k = 7 then ins + 1 else ins) := by
  rw [okTm]
theorem bindL_ok {f : Tm → Nat → Option Nat} {Q : Tm → Prop} (hf : ∀ y q q', f y q = some q' → Q y ∧ y.sz + q' = q) : ∀ (l : List Tm) (r r' : Nat), bindL f l r = some r' → (∀ y, y ∈ l → Q y) ∧ (l.map Tm.sz).sum + r' = r
  | [], r, r', h => by simp [bindL] at h; exact ⟨(fun y hy => by cases hy), by simpa using h.symm⟩
  | x :: l, r, r', h => by
    simp only [bindL] at h
    cases hq : f x r with
    | none => rw [hq] at h; cases h
    | some q =>
      rw [hq] at h
      have h1 := hf x r q hq
      have h2 := bindL_ok hf l q r' h
      refine ⟨fun y hy => ?_, by simp; omega⟩
      rcases List.mem_cons.1 hy with rfl | hy
      · exact h1.1
      · exact h2.1 y hy
theorem goodS_ok : ∀ (n : Nat) (ins : Nat) (x : Tm) (r r' : Nat), goodS 0 n (ins : Int) x r = some r' → okTm x ins ∧ x.sz + r' = r
  | 0, _, _, _, _, h => by simp [goodS] at h
  | _ + 1, _, _, 0, _, h => by simp [goodS] at h
  | n + 1, ins, ⟨k, m, t, f, l⟩, r + 1, r', h => by
    simp only [goodS] at h
    split at h
    · rename_i ht
      have hi : insOf k (ins : Int) = ((if k = 7 then ins + 1 else ins : Nat) : Int) := by
        unfold insOf; split <;> simp
      rw [hi] at h
      have h2 := bindL_ok (fun y q q' => goodS_ok n (if k = 7 then ins + 1 else ins) y q q') l r r' h
      exact ⟨okTm_mk.2 ⟨ht, h2.1⟩, by rw [Tm.sz_mk]; omega⟩
    · cases h
theorem goodM_ok {x : Tm} (h : goodM 0 x = true) : okTm x 0 ∧ x.sz ≤ 40 := by
  obtain ⟨r', hr⟩ := Option.isSome_iff_exists.1 h
  have := goodS_ok 40 0 x 40 r' hr
  exact ⟨this.1, by omega⟩
theorem goodY_more : ∀ (n m : Nat) (t : Ty), n ≤ m → goodY n t = true → goodY m t = true
  | 0, _, _, _, h => by simp [goodY] at h
  | n + 1, 0, _, hm, _ => by omega
  | n + 1, m + 1, t, hm, h => by
    rcases goodY_cases h with ⟨k, rfl, hk⟩ | ⟨x, y, rfl, hx, hy⟩
    · rcases hk with rfl | rfl | rfl <;> simp [goodY]
    · simp [goodY, goodY_more n m x (by omega) hx, goodY_more n m y (by omega) hy]
theorem goodY_any (n : Nat) : goodY (n + 1) ⟨0, []⟩ = true := by simp [goodY]
theorem goodY_num (n : Nat) : goodY (n + 1) ⟨1, []⟩ = true := by simp [goodY]
theorem goodY_truth (n : Nat) : goodY (n + 1) ⟨2, []⟩ = true := by simp [goodY]
/-- What okTop asks, one by one. -/
theorem okTop_all {k n : Int} {t f : Ty} {l : List Tm} {ins : Nat} (h : okTop 0 (ins : Int) ⟨k, n, t, f, l⟩ = true) :
    1 ≤ k ∧ k ≤ 9 ∧ l.length = partsOf k ∧ isAnyY f = true ∧ goodY 4 t = true ∧ (tells k = false → isAnyY t = true) ∧ (k = 1 → 0 ≤ n ∧ n < (ins : Int)) := by
  simp only [okTop, okTypes, Bool.and_eq_true, decide_eq_true_eq, beq_iff_eq] at h
  obtain ⟨⟨⟨h1, h2⟩, h3⟩, ⟨h4, h5⟩, h6⟩ := h
  refine ⟨h1, h2, h3, h4, ?_, fun hk => ?_, fun hk => ?_⟩
  · split at h5
    · exact h5
    · rw [isAny_eq h5]; exact goodY_any 3
  · rw [if_neg (by rw [hk]; simp)] at h5; exact h5
  · subst hk
    simp [okNum] at h6
    omega
theorem takesIn_length (k : Int) (t : Ty) (takes : List Ty) : (takesIn k t takes).length = if k = 7 then takes.length + 1 else takes.length := by
  unfold takesIn; split <;> simp
theorem takesIn_good {k : Int} {t : Ty} {takes : List Ty} (ht : goodY 4 t = true) (h : ∀ u, u ∈ takes → goodY 4 u = true) : ∀ u, u ∈ takesIn k t takes → goodY 4 u = true := by
  intro u hu
  unfold takesIn at hu
  split at hu
  · rcases List.mem_cons.1 hu with rfl | hu
    · exact ht
    · exact h u hu
  · exact h u hu
theorem getD_good {m : Nat} {l : List Ty} (h : ∀ u, u ∈ l → goodY m u = true) (hm : 1 ≤ m) (j : Nat) : goodY m (l.getD j ⟨0, []⟩) = true := by
  rw [List.getD_eq_getElem?_getD]
  cases hj : l[j]? with
  | none => obtain ⟨m, rfl⟩ : ∃ q, m = q + 1 := ⟨m - 1, by omega⟩; exact goodY_any m
  | some u => exact h u (List.mem_of_getElem? hj)
/-- The types of a rule are good, and there is one use for each part. -/
theorem rule_good {k n : Int} {t : Ty} {ps takes : List Ty} {i : Ty} {us : List Ty} (m : Nat) (hm : 4 ≤ m) (h1 : 1 ≤ k) (h9 : k ≤ 9) (hl : ps.length = partsOf k) (ht : goodY 4 t = true) (hT : ∀ u, u ∈ takes → goodY 4 u = true) (hp : ∀ u, u ∈ ps → goodY m u = true)
    (h : ruleY k n t ps takes = some (i, us)) : us.length = ps.length ∧ goodY (m + 1) i = true ∧ ∀ u, u ∈ us → goodY (m + 1) u = true := by
  have hk : k = 1 ∨ k = 2 ∨ k = 3 ∨ k = 4 ∨ k = 5 ∨ k = 6 ∨ k = 7 ∨ k = 8 ∨ k = 9 := by omega
  have up : ∀ u, goodY m u = true → goodY (m + 1) u = true := fun u => goodY_more m (m + 1) u (by omega)
  have up4 : ∀ u, goodY 4 u = true → goodY (m + 1) u = true := fun u => goodY_more 4 (m + 1) u (by omega)
  rcases hk with rfl | rfl | rfl | rfl | rfl | rfl | rfl | rfl | rfl
  · simp [ruleY] at h
    obtain ⟨rfl, rfl⟩ := h
    refine ⟨by rw [hl]; rfl, up4 _ ?_, fun u hu => by cases hu⟩
    have := getD_good hT (by omega) n.toNat
    simpa [List.getD_eq_getElem?_getD] using this
  · simp [ruleY] at h
    obtain ⟨rfl, rfl⟩ := h
    exact ⟨by rw [hl]; rfl, goodY_num _, fun u hu => by cases hu⟩
  · simp [ruleY] at h
    obtain ⟨rfl, rfl⟩ := h
    exact ⟨by rw [hl]; rfl, goodY_truth _, fun u hu => by cases hu⟩
  · simp [ruleY] at h
    obtain ⟨rfl, rfl⟩ := h
    exact ⟨by rw [hl]; rfl, goodY_num _, fun u hu => by simp at hu; subst hu; exact goodY_num _⟩
  · simp [ruleY] at h
    obtain ⟨rfl, rfl⟩ := h
    exact ⟨by rw [hl]; rfl, goodY_truth _, fun u hu => by simp at hu; subst hu; exact goodY_num _⟩
  · have h' : ifY ⟨2, []⟩ (ps.getD 1 ⟨0, []⟩) (ps.getD 2 ⟨0, []⟩) = some (i, us) := by simpa [ruleY] using h
    have g1 := getD_good hp (by omega) 1
    have g2 := getD_good hp (by omega) 2
    have gj := (join_facts m _ _ g1 g2).1
    unfold ifY at h'
    split at h'
    · cases h'
      refine ⟨by rw [hl]; rfl, up _ gj, fun u hu => ?_⟩
      simp only [List.mem_cons, List.not_mem_nil, or_false] at hu
      rcases hu with rfl | rfl | rfl
      · exact goodY_truth _
      · exact up _ gj
      · exact up _ gj
    · cases h'
  · have h' : i = ⟨3, [t, ps.getD 0 ⟨0, []⟩]⟩ ∧ us = ps := by
      have : some (Ty.mk 3 [t, ps.getD 0 ⟨0, []⟩], ps) = some (i, us) := by simpa [ruleY] using h
      cases this; exact ⟨rfl, rfl⟩
    obtain ⟨rfl, rfl⟩ := h'
    have g1 := getD_good hp (by omega) 0
    refine ⟨rfl, ?_, fun u hu => up _ (hp u hu)⟩
    rw [goodY, g1, goodY_more 4 m t (by omega) ht]; rfl
  · have h' : callY (ps.getD 0 ⟨0, []⟩) = some (i, us) := by simpa [ruleY] using h
    have g1 := getD_good hp (by omega) 0
    generalize ps.getD 0 ⟨0, []⟩ = q at h' g1
    obtain ⟨m, rfl⟩ : ∃ r, m = r + 1 := ⟨m - 1, by omega⟩
    rcases goodY_cases g1 with ⟨k, rfl, hk⟩ | ⟨x, y, rfl, hx, hy⟩
    · rcases hk with rfl | rfl | rfl
      · simp [callY] at h'
        obtain ⟨rfl, rfl⟩ := h'
        refine ⟨by rw [hl]; rfl, goodY_any _, fun u hu => ?_⟩
        simp only [List.mem_cons, List.not_mem_nil, or_false] at hu
        rcases hu with rfl | rfl
        · simp [goodY]
        · exact goodY_any _
      · simp [callY] at h'
      · simp [callY] at h'
    · simp [callY] at h'
      obtain ⟨rfl, rfl⟩ := h'
      refine ⟨by rw [hl]; rfl, goodY_more m _ _ (by omega) hy, fun u hu => ?_⟩
      simp only [List.mem_cons, List.not_mem_nil, or_false] at hu
      rcases hu with rfl | rfl
      · exact up _ g1
      · exact goodY_more m _ _ (by omega) hx
  · have h' : i = t ∧ us = [t] := by
      have : some (t, [t]) = some (i, us) := by simpa [ruleY] using h
      cases this; exact ⟨rfl, rfl⟩
    obtain ⟨rfl, rfl⟩ := h'
    exact ⟨by rw [hl]; rfl, up4 _ ht, fun u hu => by simp at hu; subst hu; exact up4 _ ht⟩
/-- A part has less nodes. -/
theorem sz_mem : ∀ (l : List Tm) (x : Tm), x ∈ l → x.sz ≤ (l.map Tm.sz).sum
  | [], _, h => by cases h
  | y :: r, x, h => by
    rcases List.mem_cons.1 h with rfl | h
    · simp
    · have := sz_mem r x h
      simp; omega
theorem Tm.sz_pos (x : Tm) : 1 ≤ x.sz := by cases x; rw [Tm.sz_mk]; omega
/-- The type of a good term is good. -/
theorem read_good : ∀ (x : Tm) (takes : List Ty) (c : Nat) (y : Tm) (i : Ty), okTm x takes.length → (∀ u, u ∈ takes → goodY 4 u = true) → readS x takes c = some (y, i) → goodY (x.sz + 4) i = true := by
  intro x
  induction x using Tm.ind with
  | h k n t f l ih =>
    intro takes c y i hok hT h
    obtain ⟨h0, h1⟩ := okTm_mk.1 hok
    obtain ⟨k1, k9, hl, _, ht, _, _⟩ := okTop_all h0
    obtain ⟨ps, us, e1, e2, _, _⟩ := readS_some h
    have hlen := readL_length _ _ _ _ e1
    have hp : ∀ u, u ∈ ps.map (fun p => p.2.2) → goodY ((l.map Tm.sz).sum + 4) u = true := by
      intro u hu
      obtain ⟨j, hj, rfl⟩ := List.getElem_of_mem hu
      have hj' : j < ps.length := by simpa using hj
      have := readL_all (Q := fun x _ _ i => goodY (x.sz + 4) i = true) l _ ps e1 (fun x hx c y i hr => ih x hx _ c y i (by rw [takesIn_length]; exact h1 x hx) (takesIn_good ht hT) hr) j hj' (by omega)
      have hs := sz_mem l l[j] (List.getElem_mem _)
      simpa using goodY_more _ ((l.map Tm.sz).sum + 4) _ (by omega) this
    have := rule_good ((l.map Tm.sz).sum + 4) (by omega) k1 k9 (by simpa using hlen.trans hl) ht (takesIn_good ht hT) hp e2
    rw [Tm.sz_mk]
    exact goodY_more _ _ _ (by omega) this.2.1
end Go.Proofs.YtnddkmccagiclaaDoor

/-
  The type of a term, by the document's own road, is that of the term's reading; in plain mathematics; no program in it.
-/
namespace Go.Proofs.YtnddkmccagiclaaDoor
/-- Each part's type; none: one has none. -/
def mapT : (l : List Tm) → ((x : Tm) → x ∈ l → Option Ty) → Option (List Ty)
  | [], _ => some []
  | x :: r, f => (f x List.mem_cons_self).bind fun i => (mapT r (fun z h => f z (List.mem_cons_of_mem _ h))).bind fun q => some (i :: q)
/-- A term's type. -/
def typeS : Tm → List Ty → Option Ty
  | ⟨k, n, t, _, l⟩, takes =>
    (mapT l (fun x _ => typeS x (takesIn k t takes))).bind fun ts =>
      (ruleY k n t ts (takesIn k t takes)).bind fun r => if fitL ts r.2 = true then some r.1 else none
def typeL : List Tm → List Ty → Option (List Ty)
  | [], _ => some []
  | x :: r, takes => (typeS x takes).bind fun i => (typeL r takes).bind fun q => some (i :: q)
theorem mapT_type (takes : List Ty) : ∀ (l : List Tm), mapT l (fun x _ => typeS x takes) = typeL l takes
  | [] => rfl
  | x :: r => by simp only [mapT, typeL, mapT_type takes r]
/-- What a rule makes of the parts' types. -/
def ruleT (k n : Int) (t : Ty) (ts takes : List Ty) : Option Ty :=
  (ruleY k n t ts takes).bind fun r => if fitL ts r.2 = true then some r.1 else none
theorem typeS_mk (k n : Int) (t f : Ty) (l : List Tm) (takes : List Ty) : typeS ⟨k, n, t, f, l⟩ takes =
    (typeL l (takesIn k t takes)).bind fun ts => ruleT k n t ts (takesIn k t takes) := by
  rw [typeS, mapT_type]
  rfl
theorem readL_type {takes : List Ty} : ∀ (l : List Tm) (c : Nat), (∀ x, x ∈ l → ∀ c, (readS x takes c).map Prod.snd = typeS x takes) → (readL l takes c).map (fun ps => ps.map fun p => p.2.2) = typeL l takes
  | [], _, _ => rfl
  | x :: r, c, h => by
    simp only [readL, typeL]
    rw [← h x (by simp) c]
    have ih := readL_type r (c + x.sz) fun z hz => h z (by simp [hz])
    rw [← ih]
    cases readS x takes c with
    | none => rfl
    | some p =>
      cases readL r takes (c + x.sz) with
      | none => rfl
      | some q => rfl
/-- The reading's type. -/
theorem read_type : ∀ (x : Tm) (takes : List Ty) (c : Nat), (readS x takes c).map Prod.snd = typeS x takes := by
  intro x
  induction x using Tm.ind with
  | h k n t f l ih =>
    intro takes c
    rw [readS_mk, typeS_mk, ← readL_type l (c + 1) fun z hz c => ih z hz _ c]
    cases readL l (takesIn k t takes) (c + 1) with
    | none => rfl
    | some ps =>
      simp only [Option.bind_some, Option.map_some, ruleT]
      cases ruleY k n t (ps.map fun p => p.2.2) (takesIn k t takes) with
      | none => rfl
      | some r =>
        simp only [Option.bind_some]
        split <;> rfl
theorem typeL_some : ∀ {l : List Tm} {takes ts : List Ty}, typeL l takes = some ts → ts.length = l.length ∧ ∀ j (h : j < l.length) (h' : j < ts.length), typeS l[j] takes = some ts[j]
  | [], _, ts, h => by
    rw [typeL] at h
    cases h
    exact ⟨rfl, fun j h => by simp at h⟩
  | x :: r, takes, ts, h => by
    rw [typeL] at h
    cases hx : typeS x takes with
    | none => rw [hx] at h; cases h
    | some i =>
      rw [hx] at h
      simp only [Option.bind_some] at h
      cases hr : typeL r takes with
      | none => rw [hr] at h; cases h
      | some q =>
        rw [hr] at h
        simp only [Option.bind_some] at h
        cases h
        have ih := typeL_some hr
        refine ⟨by simp [ih.1], fun j h h' => ?_⟩
        match j with
        | 0 => exact hx
        | j + 1 => exact ih.2 j (by simpa using h) (by simpa using h')
theorem typeL_all : ∀ (l : List Tm) (takes ts : List Ty), ts.length = l.length → (∀ j (h : j < l.length) (h' : j < ts.length), typeS l[j] takes = some ts[j]) → typeL l takes = some ts
  | [], _, ts, hl, _ => by
    have : ts = [] := List.eq_nil_of_length_eq_zero hl
    subst this
    rfl
  | x :: r, takes, [], hl, _ => by simp at hl
  | x :: r, takes, i :: q, hl, h => by
    have h0 := h 0 (by simp) (by simp)
    simp only [List.getElem_cons_zero] at h0
    rw [typeL, h0, typeL_all r takes q (by simpa using hl) fun j h1 h2 => h (j + 1) (by simpa using h1) (by simpa using h2)]
    rfl
theorem typeL_none : ∀ (l : List Tm) (takes : List Ty) (j : Nat) (h : j < l.length), typeS l[j] takes = none → typeL l takes = none
  | [], _, j, h, _ => by simp at h
  | x :: r, takes, 0, _, e => by
    simp only [List.getElem_cons_zero] at e
    rw [typeL, e]
    rfl
  | x :: r, takes, j + 1, h, e => by
    rw [typeL, typeL_none r takes j (by simpa using h) (by simpa using e)]
    cases typeS x takes <;> rfl
/-- The type of a good term is good. -/
theorem type_good {x : Tm} {takes : List Ty} {i : Ty} (hok : okTm x takes.length) (hT : ∀ u, u ∈ takes → goodY 4 u = true) (h : typeS x takes = some i) : goodY (x.sz + 4) i = true := by
  rw [← read_type x takes 0] at h
  cases hr : readS x takes 0 with
  | none => rw [hr] at h; cases h
  | some p =>
    rw [hr] at h
    simp only [Option.map_some, Option.some.injEq] at h
    subst h
    exact read_good x takes 0 p.1 p.2 hok hT hr
/-! ### The rules, kind by kind -/
theorem ruleT_ref (n : Int) (t : Ty) (takes : List Ty) : ruleT 1 n t [] takes = some (takes.getD n.toNat ⟨0, []⟩) := by
  simp [ruleT, ruleY, fitL]
theorem ruleT_lit (n : Int) (t : Ty) (takes : List Ty) : ruleT 2 n t [] takes = some ⟨1, []⟩ := by
  simp [ruleT, ruleY, fitL]
theorem ruleT_says (n : Int) (t : Ty) (takes : List Ty) : ruleT 3 n t [] takes = some ⟨2, []⟩ := by
  simp [ruleT, ruleY, fitL]
theorem ruleT_num (n : Int) (t x y : Ty) (takes : List Ty) : ruleT 4 n t [x, y] takes = if (relY escFits x ⟨1, []⟩ && relY escFits y ⟨1, []⟩) = true then some ⟨1, []⟩ else none := by
  simp [ruleT, ruleY, fitL]
theorem ruleT_less (n : Int) (t x y : Ty) (takes : List Ty) : ruleT 5 n t [x, y] takes = if (relY escFits x ⟨1, []⟩ && relY escFits y ⟨1, []⟩) = true then some ⟨2, []⟩ else none := by
  simp [ruleT, ruleY, fitL]
theorem ruleT_fn (n : Int) (t x : Ty) (takes : List Ty) (hx : relY escFits x x = true) : ruleT 7 n t [x] takes = some ⟨3, [t, x]⟩ := by
  simp [ruleT, ruleY, fitL, hx]
theorem ruleT_as (n : Int) (t x : Ty) (takes : List Ty) : ruleT 9 n t [x] takes = if relY escFits x t = true then some t else none := by
  simp [ruleT, ruleY, fitL]
theorem ruleT_any (n : Int) (t y : Ty) (l : List Ty) (takes : List Ty) : ruleT 8 n t [⟨0, l⟩, y] takes = some ⟨0, []⟩ := by
  have h1 : relY escFits ⟨0, l⟩ ⟨3, [⟨0, []⟩, ⟨0, []⟩]⟩ = true := by rw [relY_mk]; rfl
  have h2 : relY escFits y ⟨0, []⟩ = true := by obtain ⟨k, m⟩ := y; rw [relY_mk]; simp [escFits]
  simp [ruleT, ruleY, callY, fitL, h1, h2]
theorem ruleT_call (n : Int) (t a b y : Ty) (takes : List Ty) (hx : relY escFits ⟨3, [a, b]⟩ ⟨3, [a, b]⟩ = true) : ruleT 8 n t [⟨3, [a, b]⟩, y] takes = if relY escFits y a = true then some b else none := by
  simp [ruleT, ruleY, callY, fitL, hx]
theorem ruleT_other (n : Int) (t y : Ty) (k : Int) (l : List Ty) (takes : List Ty) (h0 : k ≠ 0) (h3 : k ≠ 3) : ruleT 8 n t [⟨k, l⟩, y] takes = none := by
  simp [ruleT, ruleY, callY, h0, h3]
theorem ruleT_if (n : Int) (t x y z : Ty) (takes : List Ty) (hj : relY escFits y z = true → relY escFits y (joinY y z) = true ∧ relY escFits z (joinY y z) = true) : ruleT 6 n t [x, y, z] takes = if (relY escFits x ⟨2, []⟩ && relY escFits y z) = true then some (joinY y z) else none := by
  simp only [ruleT, ruleY, ifY]
  cases hf : relY escFits y z with
  | false => simp [hf]
  | true =>
    have := hj hf
    cases hx : relY escFits x ⟨2, []⟩ <;> simp [hf, fitL, hx, this.1, this.2]
end Go.Proofs.YtnddkmccagiclaaDoor

/-
  What the call of chaperoneref.IsRight answers at a tree that lies in memory.
-/
namespace Go.Proofs.YtnddkmccagiclaaDoor
open Go.RowKit
/-- One of the four kinds, of as many parts as it has. -/
def topR (k : Int) (m : Nat) : Bool := decide (0 ≤ k) && decide (k ≤ 2) && ((m : Int) == 0) || (k == 3 && (m : Int) == 2)
/-- Right, as a Bool. -/
def rightY : Ty → Bool
  | ⟨k, l⟩ => topR k l.length && (l.map fun t => rightY t).all id
theorem rightY_mk (k : Int) (l : List Ty) : rightY ⟨k, l⟩ = (topR k l.length && l.all rightY) := by
  rw [rightY, List.all_map]
  rfl
theorem take_all (f : Ty → Bool) (l : List Tr) (j : Nat) (h : j < l.length) : ((l.take (j + 1)).all fun t => f t.ty) = (((l.take j).all fun t => f t.ty) && f l[j].ty) := by
  rw [List.take_succ_eq_append_getElem h, List.all_append]
  simp
theorem right_ty (t : Tr) : rightY t.ty = (topR t.k t.l.length && t.l.all fun t => rightY t.ty) := by
  obtain ⟨k, a, c, l⟩ := t
  rw [Tr.ty_mk, rightY_mk, List.length_map, List.all_map]
  rfl
set_option maxHeartbeats 1000000 in
theorem isRight_step (n : Nat) (x : Tr) (A : Option Addr) (HA : Hid (A = x.a)) (w : World) (hx : x.In w) (hh : x.hgt ≤ n + 1) (hs : x.sm)
    (ih : Hid (∀ (x : Tr) (w : World), x.In w → x.hgt ≤ n → x.sm → Calls Tryd.prog 94 #[.agg #[.int .i64 x.k, .slice x.a x.l.length x.c]] w fun e w' => e = .returned (.bool (rightY x.ty)) ∧ Below w.heap.size w w')) :
    Calls Tryd.prog 94 #[.agg #[.int .i64 x.k, .slice A x.l.length x.c]] w fun e w' => e = .returned (.bool (rightY x.ty)) ∧ Below w.heap.size w w' := by
  have hlen := hs.len
  have hb0 : Below w.heap.size w (w.alloc (.cells #[.int .i64 x.k, .slice A x.l.length x.c] 24)) := (Below.refl _ _).alloc (Nat.le_refl _) _
  go_enter Tryd.func94, Tryd.ntmps94
  go_upto_region 1 with fail
  go_cut [3] (fun s3 wx => s3 = .bool (topR x.k x.l.length) ∧ wx = w.alloc (.cells #[.int .i64 x.k, .slice A x.l.length x.c] 24))
  case first =>
    by_cases k0 : 0 ≤ x.k
    · by_cases k2 : x.k ≤ 2
      · have e3 : (x.k == 3) = false := by simp; omega
        cases m0 : ((x.l.length : Int) == 0) with
        | true =>
          go_wp2_with fail
          go_meet
          case rel => exact ⟨by simp [topR, k0, k2, m0], rfl⟩
        | false =>
          go_wp2_with fail
          go_meet
          case rel => exact ⟨by simp [topR, m0, e3], rfl⟩
      · have d2 : decide (x.k ≤ 2) = false := by simpa using k2
        cases e3 : (x.k == 3) with
        | true =>
          go_wp2_with fail
          go_meet
          case rel => exact ⟨by simp [topR, d2, e3], rfl⟩
        | false =>
          go_wp2_with fail
          go_meet
          case rel => exact ⟨by simp [topR, d2, e3], rfl⟩
    · have d0 : decide (0 ≤ x.k) = false := by simpa using k0
      have e3 : (x.k == 3) = false := by simp; omega
      go_wp2_with fail
      go_meet
      case rel => exact ⟨by simp [topR, d0, e3], rfl⟩
  case rest =>
  obtain ⟨h3, hwc⟩ := hcut
  subst h3 hwc
  go_wp2_with fail
  go_loopg [3, 34] x.l.length (fun g b i wr => ∃ (j : Nat) (c : Bool), j ≤ x.l.length ∧ g = x.l.length - j ∧ b = .bool c ∧ i = .int .i64 (j : Int) ∧ Below w.heap.size w wr ∧ Hid (c = (topR x.k x.l.length && (x.l.take j).all fun t => rightY t.ty)))
  case atStart => exact ⟨0, _, Nat.zero_le _, rfl, rfl, rfl, hb0, by show _ = _; simp⟩
  case round =>
    obtain ⟨j, c, hj, hg, rfl, rfl, hbwr, HC⟩ := hrel
    have HG : Hid (gk = x.l.length - j) := hg
    clear hg
    by_cases hlt : j < x.l.length
    · obtain ⟨b, o, ea, x0, x1, hxj⟩ := hx.part j hlt
      have eA : A = some ⟨b, o, none⟩ := HA.out.trans ea
      subst eA
      clear ea HA
      replace x0 := cell_later hbwr x0
      replace x1 := cell_later hbwr x1
      have i1 : (j : Int) < (x.l.length : Int) := by omega
      have i0 : (0 : Int) ≤ (j : Int) := by omega
      have lb : b < wr.heap.size := World.block_lt_of_cell? _ _ x0
      obtain ⟨r, hr⟩ : ∃ r, rightY x.l[j].ty = r := ⟨_, rfl⟩
      have HI : Hid (∀ (w : World), x.l[j].In w → Calls Tryd.prog 94 #[.agg #[.int .i64 x.l[j].k, .slice x.l[j].a x.l[j].l.length x.l[j].c]] w fun e w' => e = .returned (.bool r) ∧ Below w.heap.size w w') := by
        intro w h1
        have := ih.out x.l[j] w h1 (Tr.hgt_part hh j hlt) (hs.part j hlt)
        rw [hr] at this
        exact this
      have HR : Hid (rightY x.l[j].ty = r) := hr
      clear hr
      have HT : Hid ((topR x.k x.l.length && (x.l.take (j + 1)).all fun t => rightY t.ty) = ((topR x.k x.l.length && (x.l.take j).all fun t => rightY t.ty) && r)) := by
        show _ = _
        rw [take_all rightY x.l j hlt, HR.out, Bool.and_assoc]
      have hba : Below w.heap.size w (wr.alloc (.cells #[.int .i64 x.l[j].k, .slice x.l[j].a x.l[j].l.length x.l[j].c] 24)) := hbwr.alloc hbwr.size _
      cases c
      · have HN : Hid (false = (topR x.k x.l.length && (x.l.take (j + 1)).all fun t => rightY t.ty)) := by show _ = _; rw [HT.out, ← HC.out]; rfl
        clear HT HC HI HR ih
        go_wp2_with fail
        go_roundg (x.l.length - (j + 1))
        case measure => rw [HG.out]; omega
        case rel => exact ⟨j + 1, false, by omega, rfl, rfl, by go_num, hba, HN⟩
      · have HN : Hid (r = (topR x.k x.l.length && (x.l.take (j + 1)).all fun t => rightY t.ty)) := by show _ = _; rw [HT.out, ← HC.out]; rfl
        clear HT HC HR ih
        go_wp2_with fail
        refine (HI.out _ (hxj.below hba)).mono ?_
        rintro e w2 ⟨rfl, hb2⟩
        have hb3 := hba.trans (hb2.mono hba.size)
        clear hb2 hba HI x0 x1
        go_wp2_with fail
        go_roundg (x.l.length - (j + 1))
        case measure => rw [HG.out]; omega
        case rel => exact ⟨j + 1, r, by omega, rfl, rfl, by go_num, hb3, HN⟩
    · have HN : Hid (c = rightY x.ty) := by
        show _ = _
        rw [HC.out, right_ty, List.take_of_length_le (by omega)]
      clear HC
      go_wp2_with fail
      go_ret
      exact ⟨by rw [← HN.out]; rfl, hbwr⟩
theorem isRight_any (n : Nat) : ∀ (x : Tr) (w : World), x.In w → x.hgt ≤ n → x.sm → Calls Tryd.prog 94 #[.agg #[.int .i64 x.k, .slice x.a x.l.length x.c]] w fun e w' => e = .returned (.bool (rightY x.ty)) ∧ Below w.heap.size w w' := by
  induction n with
  | zero =>
    intro x w _ h
    have := x.hgt_pos
    omega
  | succ n ih =>
    intro x w hx h hs
    exact isRight_step n x x.a rfl w hx h hs (fun x w hx h hs => ih x w hx h hs)
end Go.Proofs.YtnddkmccagiclaaDoor

/-
  What the calls of chaperoneref.DeepOf and chaperoneref.IsType answer at a tree that lies in memory.
-/
namespace Go.Proofs.YtnddkmccagiclaaDoor
open Go.RowKit
/-- The most levels of a list's trees. -/
def most (l : List Tr) : Nat := (l.map Tr.hgt).foldr max 0
theorem most_append : ∀ (l r : List Tr), most (l ++ r) = max (most l) (most r)
  | [], r => by simp [most]
  | t :: l, r => by
    have := most_append l r
    simp only [most, List.cons_append, List.map_cons, List.foldr_cons] at this ⊢
    rw [this]; omega
theorem most_take (l : List Tr) (j : Nat) (h : j < l.length) : most (l.take (j + 1)) = max (most (l.take j)) l[j].hgt := by
  rw [List.take_succ_eq_append_getElem h, most_append]
  simp [most]
theorem most_le (l : List Tr) (j : Nat) : most (l.take j) ≤ most l := by
  have h := most_append (l.take j) (l.drop j)
  rw [List.take_append_drop] at h
  omega
theorem hgt_most (t : Tr) : t.hgt = most t.l + 1 := by
  obtain ⟨k, a, c, l⟩ := t
  rw [Tr.hgt_mk]
  rfl
set_option maxHeartbeats 1000000 in
theorem deepOf_step (n : Nat) (hn : n ≤ 1000000000) (x : Tr) (A : Option Addr) (HA : Hid (A = x.a)) (w : World) (hx : x.In w) (hh : x.hgt ≤ n + 1) (hs : x.sm)
    (ih : Hid (∀ (x : Tr) (w : World), x.In w → x.hgt ≤ n → x.sm → Calls Tryd.prog 95 #[.agg #[.int .i64 x.k, .slice x.a x.l.length x.c]] w fun e w' => e = .returned (.int .i64 (x.hgt : Int)) ∧ Below w.heap.size w w')) :
    Calls Tryd.prog 95 #[.agg #[.int .i64 x.k, .slice A x.l.length x.c]] w fun e w' => e = .returned (.int .i64 (x.hgt : Int)) ∧ Below w.heap.size w w' := by
  have hlen := hs.len
  have hm := hgt_most x
  have HM : Hid (x.hgt = most x.l + 1) := hm
  have hmn : most x.l ≤ n := by omega
  clear hm
  have hb0 : Below w.heap.size w (w.alloc (.cells #[.int .i64 x.k, .slice A x.l.length x.c] 24)) := (Below.refl _ _).alloc (Nat.le_refl _) _
  go_enter Tryd.func95, Tryd.ntmps95
  go_wp2_with fail
  go_loopg [3, 9] x.l.length (fun g b i wr => ∃ (j m : Nat), j ≤ x.l.length ∧ g = x.l.length - j ∧ b = .int .i64 (m : Int) ∧ i = .int .i64 (j : Int) ∧ Below w.heap.size w wr ∧ Hid (m = most (x.l.take j)))
  case atStart => exact ⟨0, 0, Nat.zero_le _, rfl, rfl, rfl, hb0, rfl⟩
  case round =>
    obtain ⟨j, m, hj, hg, rfl, rfl, hbwr, HC⟩ := hrel
    have HG : Hid (gk = x.l.length - j) := hg
    clear hg
    have hmm : m ≤ n := by have := most_le x.l j; rw [HC.out]; omega
    by_cases hlt : j < x.l.length
    · obtain ⟨b, o, ea, x0, x1, hxj⟩ := hx.part j hlt
      have eA : A = some ⟨b, o, none⟩ := HA.out.trans ea
      subst eA
      clear ea HA
      replace x0 := cell_later hbwr x0
      replace x1 := cell_later hbwr x1
      have i1 : (j : Int) < (x.l.length : Int) := by omega
      have i0 : (0 : Int) ≤ (j : Int) := by omega
      have lb : b < wr.heap.size := World.block_lt_of_cell? _ _ x0
      obtain ⟨r, hr⟩ : ∃ r, x.l[j].hgt = r := ⟨_, rfl⟩
      have HI : Hid (∀ (w : World), x.l[j].In w → Calls Tryd.prog 95 #[.agg #[.int .i64 x.l[j].k, .slice x.l[j].a x.l[j].l.length x.l[j].c]] w fun e w' => e = .returned (.int .i64 (r : Int)) ∧ Below w.heap.size w w') := by
        intro w h1
        have := ih.out x.l[j] w h1 (Tr.hgt_part hh j hlt) (hs.part j hlt)
        rw [hr] at this
        exact this
      have HT : Hid (most (x.l.take (j + 1)) = max m r) := by
        show _ = _
        rw [most_take x.l j hlt, hr, ← HC.out]
      clear hr
      have hba : Below w.heap.size w (wr.alloc (.cells #[.int .i64 x.l[j].k, .slice x.l[j].a x.l[j].l.length x.l[j].c] 24)) := hbwr.alloc hbwr.size _
      clear HC ih
      go_wp2_with fail
      refine (HI.out _ (hxj.below hba)).mono ?_
      rintro e w2 ⟨rfl, hb2⟩
      have hb3 := hba.trans (hb2.mono hba.size)
      clear hb2 hba HI x0 x1
      rcases Nat.lt_or_ge m r with hmr | hmr
      · have hmi : (m : Int) < (r : Int) := by omega
        have HE : Hid (r = most (x.l.take (j + 1))) := by show _ = _; rw [HT.out]; omega
        go_wp2_with fail
        go_roundg (x.l.length - (j + 1))
        case measure => rw [HG.out]; omega
        case rel => exact ⟨j + 1, r, by omega, rfl, (by first | rfl | (congr 1; omega)), by go_num, hb3, HE⟩
      · have hmi : (r : Int) ≤ (m : Int) := by omega
        have HE : Hid (m = most (x.l.take (j + 1))) := by show _ = _; rw [HT.out]; omega
        go_wp2_with fail
        go_roundg (x.l.length - (j + 1))
        case measure => rw [HG.out]; omega
        case rel => exact ⟨j + 1, m, by omega, rfl, (by first | rfl | (congr 1; omega)), by go_num, hb3, HE⟩
    · have HN : Hid (m + 1 = x.hgt) := by
        show _ = _
        rw [HC.out, HM.out, List.take_of_length_le (by omega)]
      clear HC HM
      go_wp2_with fail
      go_ret
      exact ⟨by rw [← HN.out]; rfl, hbwr⟩
/-- chaperoneref.DeepOf. -/
theorem deepOf_any (n : Nat) : n ≤ 1000000000 → ∀ (x : Tr) (w : World), x.In w → x.hgt ≤ n → x.sm → Calls Tryd.prog 95 #[.agg #[.int .i64 x.k, .slice x.a x.l.length x.c]] w fun e w' => e = .returned (.int .i64 (x.hgt : Int)) ∧ Below w.heap.size w w' := by
  induction n with
  | zero =>
    intro _ x w _ h
    have := x.hgt_pos
    omega
  | succ n ih =>
    intro hn x w hx h hs
    exact deepOf_step n (by omega) x x.a rfl w hx h hs (fun x w hx h hs => ih (by omega) x w hx h hs)
end Go.Proofs.YtnddkmccagiclaaDoor

/-
  What the calls of chaperoneref.fun and chaperoneref.any0 make.
-/
namespace Go.Proofs.YtnddkmccagiclaaDoor
open Go.RowKit
set_option maxHeartbeats 400000 in
/-- chaperoneref.fun. -/
theorem fun_cells (k k' : Int) (a a' : Option Addr) (m m' c c' : Nat) (w : World) :
    Calls Tryd.prog 72 #[.agg #[.int .i64 k, .slice a m c], .agg #[.int .i64 k', .slice a' m' c']] w fun e w' => ∃ g, w.heap.size ≤ g ∧ e = .returned (.agg #[.int .i64 3, .slice (some ⟨g, 0, none⟩) 2 2]) ∧ w'.cell? ⟨g, 0, none⟩ = some (.int .i64 k) ∧ w'.cell? ⟨g, 1, none⟩ = some (.slice a m c) ∧ w'.cell? ⟨g, 2, none⟩ = some (.int .i64 k') ∧ w'.cell? ⟨g, 3, none⟩ = some (.slice a' m' c') ∧ Below w.heap.size w w' := by
  go_enter Tryd.func72, Tryd.ntmps72
  go_wp2_with fail
  refine bodyPost_ret (v := .agg #[.int .i64 3, .slice (some ⟨w.heap.size + 1 + 1 + 1, 0, none⟩) 2 2]) (by simp [results, Tryd.results72, go_sem]) rfl ⟨_, ?_, rfl, by simp [go_sem], by simp [go_sem], by simp [go_sem], by simp [go_sem], ?_⟩
  · omega
  exact ((((Below.refl _ _).alloc (Nat.le_refl _) _).alloc (by simp) _).alloc (by simp; omega) _).alloc (by simp; omega) _
theorem fun_any (x y : Tr) (w : World) (hx : x.In w) (hy : y.In w) :
    Calls Tryd.prog 72 #[.agg #[.int .i64 x.k, .slice x.a x.l.length x.c], .agg #[.int .i64 y.k, .slice y.a y.l.length y.c]] w fun e w' => ∃ g, w.heap.size ≤ g ∧ e = .returned (.agg #[.int .i64 3, .slice (some ⟨g, 0, none⟩) 2 2]) ∧ (Tr.mk 3 (some ⟨g, 0, none⟩) 2 [x, y]).In w' ∧ Below w.heap.size w w' := by
  refine (fun_cells x.k y.k x.a y.a x.l.length y.l.length x.c y.c w).mono ?_
  rintro e w' ⟨g, hg, rfl, c0, c1, c2, c3, hb⟩
  refine ⟨g, hg, rfl, ?_, hb⟩
  exact Tr.In_two c0 c1 c2 c3 (hx.below hb) (hy.below hb)
set_option maxHeartbeats 400000 in
/-- chaperoneref.any0. -/
theorem any0_any (w : World) : Calls Tryd.prog 40 #[] w fun e w' => e = .returned (.agg #[.int .i64 0, .slice none 0 0]) ∧ w' = w.alloc (.cells #[.int .i64 0, .slice none 0 0] 24) := by
  go_enter Tryd.func40, Tryd.ntmps40
  go_wp2_with fail
  exact bodyPost_ret (v := .agg #[.int .i64 0, .slice none 0 0]) (by simp [results, Tryd.results40, go_sem]) rfl ⟨rfl, rfl⟩
end Go.Proofs.YtnddkmccagiclaaDoor

/-
  What the call of chaperoneref.JoinOf answers at two right trees that lie in memory.
-/
namespace Go.Proofs.YtnddkmccagiclaaDoor
open Go.RowKit
set_option maxHeartbeats 400000 in
theorem joinOf_diff (x y : Tr) (hk : (x.k != y.k) = true) (w : World) :
    Calls Tryd.prog 71 #[.agg #[.int .i64 x.k, .slice x.a x.l.length x.c], .agg #[.int .i64 y.k, .slice y.a y.l.length y.c]] w fun e w' => e = .returned (.agg #[.int .i64 0, .slice none 0 0]) ∧ Below w.heap.size w w' := by
  go_enter Tryd.func71, Tryd.ntmps71
  go_wp2_with fail
  refine (any0_any _).mono ?_
  rintro e w1 ⟨rfl, rfl⟩
  go_wp2_with fail
  refine bodyPost_ret (v := .agg #[.int .i64 0, .slice none 0 0]) (by simp [results, Tryd.results71, go_sem]) rfl ⟨rfl, ?_⟩
  exact ((((Below.refl _ _).alloc (Nat.le_refl _) _).alloc (by simp) _).alloc (by simp; omega) _).alloc (by simp; omega) _
set_option maxHeartbeats 400000 in
theorem joinOf_leaf (k : Int) (a a' : Option Addr) (c c' : Nat) (w : World) :
    Calls Tryd.prog 71 #[.agg #[.int .i64 k, .slice a 0 c], .agg #[.int .i64 k, .slice a' 0 c']] w fun e w' => e = .returned (.agg #[.int .i64 k, .slice none 0 0]) ∧ Below w.heap.size w w' := by
  go_enter Tryd.func71, Tryd.ntmps71
  go_wp2_with fail
  refine bodyPost_ret (v := .agg #[.int .i64 k, .slice none 0 0]) (by simp [results, Tryd.results71, go_sem]) rfl ⟨rfl, ?_⟩
  exact (((Below.refl _ _).alloc (Nat.le_refl _) _).alloc (by simp) _).alloc (by simp; omega) _
end Go.Proofs.YtnddkmccagiclaaDoor

/-
  What the call of chaperoneref.JoinOf answers at two right trees that lie in memory.
-/
namespace Go.Proofs.YtnddkmccagiclaaDoor
open Go.RowKit
theorem join_parts {x y x0 x1 y0 y1 : Tr} (hx : x.l = [x0, x1]) (hy : y.l = [y0, y1]) (kx : x.k = 3) (ky : y.k = 3) : joinY x.ty y.ty = ⟨3, [joinY x0.ty y0.ty, joinY x1.ty y1.ty]⟩ := by
  obtain ⟨k, a, c, l⟩ := x
  obtain ⟨k', a', c', l'⟩ := y
  dsimp only at hx hy kx ky
  subst hx hy kx ky
  simp [Tr.ty_mk, joinY_mk, joinL]
/-- What a call that makes a tree leaves. -/
def Made (T : Ty) (w : World) (e : Ending) (w' : World) : Prop :=
  ∃ t : Tr, e = .returned (.agg #[.int .i64 t.k, .slice t.a t.l.length t.c]) ∧ t.ty = T ∧ t.In w' ∧ t.Bl (w.heap.size ≤ ·) ∧ Below w.heap.size w w'
theorem made_two {w W0 w3 : World} {t0 t1 : Tr} {N : Nat} (hN : w.heap.size + 1 + 1 < N) (hb0 : Below w.heap.size w W0) (hb : Below N W0 w3) (hs : N ≤ W0.heap.size) (i0 : t0.In w3) (i1 : t1.In w3) (b0 : t0.Bl (N ≤ ·)) (b1 : t1.Bl (N ≤ ·)) (u v : Value) {W : World} (hW : W = ((w3.setCell ⟨w.heap.size + 1 + 1, 0, none⟩ u).setCell ⟨w.heap.size + 1 + 1, 1, none⟩ v).alloc (.cells #[.int .i64 t0.k, .slice t0.a t0.l.length t0.c, .int .i64 t1.k, .slice t1.a t1.l.length t1.c] 24)) :
    (Tr.mk 3 (some ⟨w3.heap.size, 0, none⟩) 2 [t0, t1]).In W ∧ (Tr.mk 3 (some ⟨w3.heap.size, 0, none⟩) 2 [t0, t1]).Bl (w.heap.size ≤ ·) ∧ Below w.heap.size w W := by
  have hs3 := hb.size
  have hs0 := hb0.size
  have hsz : ((w3.setCell ⟨w.heap.size + 1 + 1, 0, none⟩ u).setCell ⟨w.heap.size + 1 + 1, 1, none⟩ v).heap.size = w3.heap.size := by simp [World.setCell]
  have k0 : t0.In ((w3.setCell ⟨w.heap.size + 1 + 1, 0, none⟩ u).setCell ⟨w.heap.size + 1 + 1, 0 + 1, none⟩ v) := set_keeps i0 (b0.mono fun b h => by omega)
  have k1 : t1.In ((w3.setCell ⟨w.heap.size + 1 + 1, 0, none⟩ u).setCell ⟨w.heap.size + 1 + 1, 0 + 1, none⟩ v) := set_keeps i1 (b1.mono fun b h => by omega)
  have hbb : Below w.heap.size w ((w3.setCell ⟨w.heap.size + 1 + 1, 0, none⟩ u).setCell ⟨w.heap.size + 1 + 1, 1, none⟩ v) := ((hb0.trans (hb.mono (by omega))).setCell (by simp; omega) _).setCell (by simp; omega) _
  subst hW
  refine ⟨?_, Tr.Bl_two (by omega) (b0.mono fun b h => by omega) (b1.mono fun b h => by omega), hbb.alloc (by omega) _⟩
  generalize ((w3.setCell ⟨w.heap.size + 1 + 1, 0, none⟩ u).setCell ⟨w.heap.size + 1 + 1, 1, none⟩ v) = X at *
  have hba : ∀ Y, Below X.heap.size X (X.alloc Y) := fun Y => (Below.refl _ _).alloc (Nat.le_refl _) _
  rw [← hsz]
  exact Tr.In_two (by simp [go_sem]) (by simp [go_sem]) (by simp [go_sem]) (by simp [go_sem]) (k0.below (hba _)) (k1.below (hba _))
set_option maxHeartbeats 1000000 in
theorem joinOf_two (bx ox by' oy c c' : Nat) (x0 x1 y0 y1 : Tr) (w : World)
    (cx0 : w.cell? ⟨bx, ox, none⟩ = some (.int .i64 x0.k)) (cx1 : w.cell? ⟨bx, ox + 1, none⟩ = some (.slice x0.a x0.l.length x0.c)) (cx2 : w.cell? ⟨bx, ox + 2, none⟩ = some (.int .i64 x1.k)) (cx3 : w.cell? ⟨bx, ox + 3, none⟩ = some (.slice x1.a x1.l.length x1.c))
    (cy0 : w.cell? ⟨by', oy, none⟩ = some (.int .i64 y0.k)) (cy1 : w.cell? ⟨by', oy + 1, none⟩ = some (.slice y0.a y0.l.length y0.c)) (cy2 : w.cell? ⟨by', oy + 2, none⟩ = some (.int .i64 y1.k)) (cy3 : w.cell? ⟨by', oy + 3, none⟩ = some (.slice y1.a y1.l.length y1.c))
    (H0 : Hid (∀ W : World, Below w.heap.size w W → Calls Tryd.prog 71 #[.agg #[.int .i64 x0.k, .slice x0.a x0.l.length x0.c], .agg #[.int .i64 y0.k, .slice y0.a y0.l.length y0.c]] W (Made (joinY x0.ty y0.ty) W)))
    (H1 : Hid (∀ W : World, Below w.heap.size w W → Calls Tryd.prog 71 #[.agg #[.int .i64 x1.k, .slice x1.a x1.l.length x1.c], .agg #[.int .i64 y1.k, .slice y1.a y1.l.length y1.c]] W (Made (joinY x1.ty y1.ty) W))) :
    Calls Tryd.prog 71 #[.agg #[.int .i64 3, .slice (some ⟨bx, ox, none⟩) 2 c], .agg #[.int .i64 3, .slice (some ⟨by', oy, none⟩) 2 c']] w (Made ⟨3, [joinY x0.ty y0.ty, joinY x1.ty y1.ty]⟩ w) := by
  obtain ⟨W0, hW0⟩ : ∃ W0, W0 = (((w.alloc (Obj.cells #[.int .i64 3, .slice (some ⟨bx, ox, none⟩) 2 c] 24)).alloc (Obj.cells #[.int .i64 3, .slice (some ⟨by', oy, none⟩) 2 c'] 24)).alloc (Obj.cells #[.int .i64 0, .slice none 0 0] 24)) := ⟨_, rfl⟩
  have hs0 : W0.heap.size = w.heap.size + 1 + 1 + 1 := by rw [hW0]; simp
  have hbw0 : Below w.heap.size w W0 := by rw [hW0]; exact (((Below.refl _ _).alloc (Nat.le_refl _) _).alloc (by simp) _).alloc (by simp; omega) _
  have r0 : W0.drew.cell? ⟨w.heap.size + 1 + 1, 0, none⟩ = some (.int .i64 0) := by rw [hW0]; simp [go_sem]
  have r1 : W0.drew.cell? ⟨w.heap.size + 1 + 1, 1, none⟩ = some (.slice none 0 0) := by rw [hW0]; simp [go_sem]
  have r2 : W0.drew.frozen? ⟨w.heap.size + 1 + 1, 0, none⟩ = false := by rw [hW0]; simp [go_sem]
  have r3 : W0.drew.frozen? ⟨w.heap.size + 1 + 1, 1, none⟩ = false := by rw [hW0]; simp [go_sem]
  have q0 : W0.cell? ⟨w.heap.size, 0, none⟩ = some (.int .i64 3) := by rw [hW0]; simp [go_sem]
  have q1 : W0.cell? ⟨w.heap.size, 1, none⟩ = some (.slice (some ⟨bx, ox, none⟩) 2 c) := by rw [hW0]; simp [go_sem]
  have q2 : W0.cell? ⟨w.heap.size + 1, 0, none⟩ = some (.int .i64 3) := by rw [hW0]; simp [go_sem]
  have q3 : W0.cell? ⟨w.heap.size + 1, 1, none⟩ = some (.slice (some ⟨by', oy, none⟩) 2 c') := by rw [hW0]; simp [go_sem]
  have lx : bx < w.heap.size := World.block_lt_of_cell? _ _ cx0
  have ly : by' < w.heap.size := World.block_lt_of_cell? _ _ cy0
  replace cx0 := cell_later hbw0 cx0
  replace cx1 := cell_later hbw0 cx1
  replace cx2 := cell_later hbw0 cx2
  replace cx3 := cell_later hbw0 cx3
  replace cy0 := cell_later hbw0 cy0
  replace cy1 := cell_later hbw0 cy1
  replace cy2 := cell_later hbw0 cy2
  replace cy3 := cell_later hbw0 cy3
  have HK : Hid (∀ w' : World, Below (w.heap.size + 1 + 1) W0 w' → (w'.cell? ⟨w.heap.size, 0, none⟩ = some (.int .i64 3) ∧ w'.cell? ⟨w.heap.size, 1, none⟩ = some (.slice (some ⟨bx, ox, none⟩) 2 c) ∧ w'.cell? ⟨w.heap.size + 1, 1, none⟩ = some (.slice (some ⟨by', oy, none⟩) 2 c') ∧ w'.cell? ⟨bx, ox, none⟩ = some (.int .i64 x0.k) ∧ w'.cell? ⟨bx, ox + 1, none⟩ = some (.slice x0.a x0.l.length x0.c) ∧ w'.cell? ⟨bx, ox + 2, none⟩ = some (.int .i64 x1.k) ∧ w'.cell? ⟨bx, ox + 3, none⟩ = some (.slice x1.a x1.l.length x1.c) ∧ w'.cell? ⟨by', oy, none⟩ = some (.int .i64 y0.k) ∧ w'.cell? ⟨by', oy + 1, none⟩ = some (.slice y0.a y0.l.length y0.c) ∧ w'.cell? ⟨by', oy + 2, none⟩ = some (.int .i64 y1.k) ∧ w'.cell? ⟨by', oy + 3, none⟩ = some (.slice y1.a y1.l.length y1.c))) := by
    intro w' h
    have t : ∀ b i, b < w.heap.size + 1 + 1 → w'.cell? ⟨b, i, none⟩ = W0.cell? ⟨b, i, none⟩ := fun b i hb => h.cell (p := ⟨b, i, none⟩) hb
    exact ⟨(t _ _ (by omega)).trans q0, (t _ _ (by omega)).trans q1, (t _ _ (by omega)).trans q3, (t _ _ (by omega)).trans cx0, (t _ _ (by omega)).trans cx1, (t _ _ (by omega)).trans cx2, (t _ _ (by omega)).trans cx3, (t _ _ (by omega)).trans cy0, (t _ _ (by omega)).trans cy1, (t _ _ (by omega)).trans cy2, (t _ _ (by omega)).trans cy3⟩
  have hbn : Below (w.heap.size + 1 + 1) W0 W0.drew := (Below.refl _ _).drew
  have hbm : Below (w.heap.size + 1 + 1 + 1) W0 W0.drew := (Below.refl _ _).drew
  go_enter Tryd.func71, Tryd.ntmps71
  go_wp2_with fail
  rw [← hW0]
  clear hW0 q0 q1 q2 q3 cx0 cx1 cx2 cx3 cy0 cy1 cy2 cy3
  go_region_held3 (fun w' => w'.cell? ⟨w.heap.size, 0, none⟩ = some (.int .i64 3) ∧ w'.cell? ⟨w.heap.size, 1, none⟩ = some (.slice (some ⟨bx, ox, none⟩) 2 c) ∧ w'.cell? ⟨w.heap.size + 1, 1, none⟩ = some (.slice (some ⟨by', oy, none⟩) 2 c') ∧ w'.cell? ⟨bx, ox, none⟩ = some (.int .i64 x0.k) ∧ w'.cell? ⟨bx, ox + 1, none⟩ = some (.slice x0.a x0.l.length x0.c) ∧ w'.cell? ⟨bx, ox + 2, none⟩ = some (.int .i64 x1.k) ∧ w'.cell? ⟨bx, ox + 3, none⟩ = some (.slice x1.a x1.l.length x1.c) ∧ w'.cell? ⟨by', oy, none⟩ = some (.int .i64 y0.k) ∧ w'.cell? ⟨by', oy + 1, none⟩ = some (.slice y0.a y0.l.length y0.c) ∧ w'.cell? ⟨by', oy + 2, none⟩ = some (.int .i64 y1.k) ∧ w'.cell? ⟨by', oy + 3, none⟩ = some (.slice y1.a y1.l.length y1.c))
    (first
      | exact HK.out _ hbn
      | exact HK.out _ (hbn.alloc (by have := hbn.size; omega) _)
      | exact HK.out _ (((hbn.setCell (by simp) _).setCell (by simp) _).alloc (by have := hbn.size; simp [World.setCell]; omega) _)
      | go_keep)
    (first
      | (go_at_call 71; refine (H0.out _ (hbw0.trans (hbn.mono (by omega)))).mono ?_; rintro e w2 ⟨t0, rfl, ht0, hin0, hbl0, hb2⟩; replace r0 := cell_later hb2 r0; replace r1 := cell_later hb2 r1; replace r2 := (hb2.frozen (p := ⟨w.heap.size + 1 + 1, 0, none⟩) (by have := hbm.size; show w.heap.size + 1 + 1 < _; omega)).trans r2; replace r3 := (hb2.frozen (p := ⟨w.heap.size + 1 + 1, 1, none⟩) (by have := hbm.size; show w.heap.size + 1 + 1 < _; omega)).trans r3; replace hbn := hbn.trans (hb2.mono (by have := hbn.size; omega)); replace hbm := hbm.trans (hb2.mono (by have := hbm.size; omega)); clear H0)
      | (go_at_call 71; refine (H1.out _ (hbw0.trans (hbn.mono (by omega)))).mono ?_; rintro e w3 ⟨t1, rfl, ht1, hin1, hbl1, hb3⟩; replace r0 := cell_later hb3 r0; replace r1 := cell_later hb3 r1; replace r2 := (hb3.frozen (p := ⟨w.heap.size + 1 + 1, 0, none⟩) (by have := hbm.size; show w.heap.size + 1 + 1 < _; omega)).trans r2; replace r3 := (hb3.frozen (p := ⟨w.heap.size + 1 + 1, 1, none⟩) (by have := hbm.size; show w.heap.size + 1 + 1 < _; omega)).trans r3; replace hbn := hbn.trans (hb3.mono (by have := hbn.size; omega)); replace hbm := hbm.trans (hb3.mono (by have := hbm.size; omega)); clear H1; have hl3 : w.heap.size + 1 + 1 < w3.heap.size := World.block_lt_of_cell? _ _ r0; have hn3 : w.heap.size + 1 + 1 ≠ w3.heap.size := Nat.ne_of_lt hl3; have ra0 : ∀ Y, (w3.alloc Y).cell? ⟨w.heap.size + 1 + 1, 0, none⟩ = some (.int .i64 0) := fun Y => cell_later ((Below.refl _ _).alloc (Nat.le_refl _) Y) r0; have ra1 : ∀ Y, (w3.alloc Y).cell? ⟨w.heap.size + 1 + 1, 1, none⟩ = some (.slice none 0 0) := fun Y => cell_later ((Below.refl _ _).alloc (Nat.le_refl _) Y) r1))
  have HF : Hid (t0.ty = joinY x0.ty y0.ty ∧ t1.ty = joinY x1.ty y1.ty) := ⟨ht0, ht1⟩
  have HM := made_two (w := w) (W0 := W0) (w3 := w3) (N := w.heap.size + 1 + 1 + 1) (by omega) hbw0 hbm (by omega) (hin0.below hb3) hin1 (hbl0.mono fun b hb => Nat.le_trans (show _ ≤ W0.heap.size by omega) hb) (hbl1.mono fun b hb => Nat.le_trans (show _ ≤ W0.heap.size by omega) (Nat.le_trans (show W0.drew.heap.size ≤ _ from hb2.size) hb)) (.int .i64 3) (.slice (some ⟨w3.heap.size, 0, none⟩) 2 2) rfl
  have HMM : Hid _ := HM
  clear HM ht0 ht1 hin0 hin1 hbl0 hbl1
  go_wp2_with fail
  refine bodyPost_ret (v := .agg #[.int .i64 3, .slice (some ⟨w3.heap.size, 0, none⟩) 2 2]) ?_ rfl ⟨_, rfl, ?_, HMM.out.1, HMM.out.2.1, HMM.out.2.2⟩
  · have hc := set_cells (io := 0) (u := .int .i64 3) (v := .slice (some ⟨w3.heap.size, 0, none⟩) 2 2) r0 r1
    have hc0 := cell_later ((Below.refl _ _).alloc (Nat.le_refl _) (.cells #[.int .i64 t0.k, .slice t0.a t0.l.length t0.c, .int .i64 t1.k, .slice t1.a t1.l.length t1.c] 24)) hc.1
    have hc1 := cell_later ((Below.refl _ _).alloc (Nat.le_refl _) (.cells #[.int .i64 t0.k, .slice t0.a t0.l.length t0.c, .int .i64 t1.k, .slice t1.a t1.l.length t1.c] 24)) hc.2
    simp only [Nat.zero_add] at hc0 hc1
    simp [results, Tryd.results71, go_sem, hc0, hc1]
  · rw [Tr.ty_mk, ← HF.out.1, ← HF.out.2]
    rfl
/-- chaperoneref.JoinOf. -/
theorem joinOf_any (n : Nat) : ∀ (x y : Tr) (w : World), x.In w → y.In w → x.right → y.right → x.hgt ≤ n → Calls Tryd.prog 71 #[.agg #[.int .i64 x.k, .slice x.a x.l.length x.c], .agg #[.int .i64 y.k, .slice y.a y.l.length y.c]] w (Made (joinY x.ty y.ty) w) := by
  induction n with
  | zero =>
    intro x y w _ _ _ _ h
    have := x.hgt_pos
    omega
  | succ n ih =>
    intro x y w hx hy rx ry hh
    by_cases hk : x.k = y.k
    · rcases rx.cases with ⟨lx, kx⟩ | ⟨x0, x1, lx, kx, r0, r1⟩
      · rcases ry.cases with ⟨ly, ky⟩ | ⟨y0, y1, ly, ky, _, _⟩
        · have hl1 : x.l.length = 0 := by simp [lx]
          have hl2 : y.l.length = 0 := by simp [ly]
          rw [hl1, hl2, ← hk]
          refine (joinOf_leaf x.k x.a y.a x.c y.c w).mono ?_
          rintro e w' ⟨rfl, hb⟩
          refine ⟨leaf x.k, rfl, ?_, leaf_in _ _, leaf_bl _ _, hb⟩
          obtain ⟨k, a, c, l⟩ := x
          obtain ⟨k', a', c', l'⟩ := y
          dsimp only at lx ly hk
          subst lx ly hk
          simp [leaf, Tr.ty_mk, joinY_mk, joinL]
        · omega
      · rcases ry.cases with ⟨ly, ky⟩ | ⟨y0, y1, ly, ky, q0, q1⟩
        · omega
        · obtain ⟨bx, ox, ax, cx0, cx1, hx0⟩ := hx.part 0 (by simp [lx])
          obtain ⟨bx', ox', ax', cx2, cx3, hx1⟩ := hx.part 1 (by simp [lx])
          obtain ⟨by', oy, ay, cy0, cy1, hy0⟩ := hy.part 0 (by simp [ly])
          obtain ⟨by'', oy', ay', cy2, cy3, hy1⟩ := hy.part 1 (by simp [ly])
          have hg0 := Tr.hgt_part hh 0 (by simp [lx])
          have hg1 := Tr.hgt_part hh 1 (by simp [lx])
          rw [ax] at ax'
          rw [ay] at ay'
          obtain ⟨rfl, rfl⟩ : bx = bx' ∧ ox = ox' := by simpa using ax'
          obtain ⟨rfl, rfl⟩ : by' = by'' ∧ oy = oy' := by simpa using ay'
          simp only [lx, List.getElem_cons_zero, List.getElem_cons_succ] at cx0 cx1 cx2 cx3 hx0 hx1 hg0 hg1
          simp only [ly, List.getElem_cons_zero, List.getElem_cons_succ] at cy0 cy1 cy2 cy3 hy0 hy1
          have hl1 : x.l.length = 2 := by simp [lx]
          have hl2 : y.l.length = 2 := by simp [ly]
          rw [join_parts lx ly kx ky, ax, ay, hl1, hl2, kx, ky]
          exact joinOf_two bx ox by' oy x.c y.c x0 x1 y0 y1 w (by simpa using cx0) (by simpa using cx1) (by simpa using cx2) (by simpa using cx3) (by simpa using cy0) (by simpa using cy1) (by simpa using cy2) (by simpa using cy3)
            (fun W hb => ih x0 y0 W (hx0.below hb) (hy0.below hb) r0 q0 hg0) (fun W hb => ih x1 y1 W (hx1.below hb) (hy1.below hb) r1 q1 hg1)
    · refine (joinOf_diff x y (by simpa using hk) w).mono ?_
      rintro e w' ⟨rfl, hb⟩
      refine ⟨leaf 0, rfl, ?_, leaf_in _ _, leaf_bl _ _, hb⟩
      obtain ⟨k, a, c, l⟩ := x
      obtain ⟨k', a', c', l'⟩ := y
      dsimp only at hk
      simp [leaf, Tr.ty_mk, joinY_mk, if_neg hk]
end Go.Proofs.YtnddkmccagiclaaDoor
