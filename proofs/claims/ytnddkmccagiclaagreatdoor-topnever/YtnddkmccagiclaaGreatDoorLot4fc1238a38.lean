/-
  Good terms: few levels of types, few terms; how many terms; the plain mathematics that several texts lean on; no program's run in it.
-/
import Derived.Test.YtnddkmccagiclaaGreatDoorLotb751e12d97
import Derived.Test.YtnddkmccagiclaaGreatDoorLotafdfc8828a
import Derived.Test.YtnddkmccagiclaaGreatDoorLotbe7660decd
import Derived.Test.YtnddkmccagiclaaGreatDoorLot1ed503618d
import Derived.Deep.LoopGhost
import Derived.Deep.AppendLies
namespace Go.Proofs.YtnddkmccagiclaaGreatDoor
open Go.RowKit
theorem isAny_eq {t : Ty} (h : isAnyY t = true) : t = anyY := by
  obtain ⟨k, l⟩ := t
  simp only [isAnyY, anyY, relY_mk, escSame, Bool.false_or, Bool.and_eq_true, beq_iff_eq] at h
  obtain ⟨rfl, h⟩ := h
  cases l with
  | nil => rfl
  | cons x r => simp [relL] at h
def Tm.sz : Tm → Nat
  | ⟨_, _, _, _, l⟩ => (l.map fun t => t.sz).sum + 1
theorem Tm.sz_mk (k n : Int) (t f : Ty) (l : List Tm) : (Tm.mk k n t f l).sz = (l.map Tm.sz).sum + 1 := by
  rw [Tm.sz]
theorem TT.sz_tm (x : TT) : x.sz = x.tm.sz := by
  induction x using TT.ind with
  | h k n t f a c l ih =>
    rw [TT.tm_mk, TT.sz_mk, Tm.sz_mk, List.map_map]
    have : l.map TT.sz = l.map (Tm.sz ∘ TT.tm) := List.map_congr_left fun x hx => ih x hx
    rw [this]
end Go.Proofs.YtnddkmccagiclaaGreatDoor

/-
  What check's Check makes of a term, in plain mathematics: the term with its casts, and its type; that these types are good; no program in it.
-/
namespace Go.Proofs.YtnddkmccagiclaaGreatDoor
/-- The parts, cast to what they are used as. -/
def castL : List (Nat × Tm × Ty) → List Ty → List Tm
  | p :: r, u :: s => castY (p.1 : Int) p.2.1 p.2.2 u :: castL r s
  | _, _ => []
/-- What the functions around a term's parts take. -/
def takesIn (k : Int) (t : Ty) (takes : List Ty) : List Ty := if k = 7 then t :: takes else takes
/-- Each part's reading, by its number; none: one has none. -/
def mapR : (l : List Tm) → ((x : Tm) → x ∈ l → Nat → Option (Tm × Ty)) → Nat → Option (List (Nat × Tm × Ty))
  | [], _, _ => some []
  | x :: r, f, c => (f x List.mem_cons_self c).bind fun p => (mapR r (fun z h c => f z (List.mem_cons_of_mem _ h) c) (c + x.sz)).bind fun q => some ((c, p.1, p.2) :: q)
/-- The term with its casts, and its type. -/
def readS : Tm → List Ty → Nat → Option (Tm × Ty)
  | ⟨k, n, t, _, l⟩, takes, c =>
    (mapR l (fun x _ c => readS x (takesIn k t takes) c) (c + 1)).bind fun ps =>
      (ruleY k n t (ps.map fun p => p.2.2) (takesIn k t takes)).bind fun r =>
        if fitL (ps.map fun p => p.2.2) r.2 = true then some (⟨k, n, t, anyY, castL ps r.2⟩, r.1) else none
def readL : List Tm → List Ty → Nat → Option (List (Nat × Tm × Ty))
  | [], _, _ => some []
  | x :: r, takes, c => (readS x takes c).bind fun p => (readL r takes (c + x.sz)).bind fun q => some ((c, p.1, p.2) :: q)
theorem mapR_read (takes : List Ty) : ∀ (l : List Tm) (c : Nat), mapR l (fun x _ c => readS x takes c) c = readL l takes c
  | [], _ => rfl
  | x :: r, c => by simp only [mapR, readL, mapR_read takes r]
theorem readS_mk (k n : Int) (t f : Ty) (l : List Tm) (takes : List Ty) (c : Nat) : readS ⟨k, n, t, f, l⟩ takes c =
    (readL l (takesIn k t takes) (c + 1)).bind fun ps => (ruleY k n t (ps.map fun p => p.2.2) (takesIn k t takes)).bind fun r => if fitL (ps.map fun p => p.2.2) r.2 = true then some (⟨k, n, t, anyY, castL ps r.2⟩, r.1) else none := by
  rw [readS, mapR_read]
theorem readS_some {k n : Int} {t f : Ty} {l : List Tm} {takes : List Ty} {c : Nat} {y : Tm} {i : Ty} (h : readS ⟨k, n, t, f, l⟩ takes c = some (y, i)) :
    ∃ ps us, readL l (takesIn k t takes) (c + 1) = some ps ∧ ruleY k n t (ps.map fun p => p.2.2) (takesIn k t takes) = some (i, us) ∧ fitL (ps.map fun p => p.2.2) us = true ∧ y = ⟨k, n, t, anyY, castL ps us⟩ := by
  rw [readS_mk] at h
  cases h1 : readL l (takesIn k t takes) (c + 1) with
  | none => rw [h1] at h; cases h
  | some ps =>
    rw [h1] at h
    simp only [Option.bind_some] at h
    cases h2 : ruleY k n t (ps.map fun p => p.2.2) (takesIn k t takes) with
    | none => rw [h2] at h; cases h
    | some r =>
      rw [h2] at h
      simp only [Option.bind_some] at h
      split at h
      · rename_i h3
        cases h
        exact ⟨ps, r.2, rfl, h2, h3, rfl⟩
      · cases h
theorem readL_cons {x : Tm} {r : List Tm} {takes : List Ty} {c : Nat} {ps : List (Nat × Tm × Ty)} (h : readL (x :: r) takes c = some ps) : ∃ y i q, readS x takes c = some (y, i) ∧ readL r takes (c + x.sz) = some q ∧ ps = (c, y, i) :: q := by
  rw [readL] at h
  cases h1 : readS x takes c with
  | none => rw [h1] at h; cases h
  | some p =>
    rw [h1] at h
    simp only [Option.bind_some] at h
    cases h2 : readL r takes (c + x.sz) with
    | none => rw [h2] at h; cases h
    | some q =>
      rw [h2] at h
      simp only [Option.bind_some] at h
      cases h
      exact ⟨p.1, p.2, q, rfl, rfl, rfl⟩
theorem readL_length : ∀ (l : List Tm) (takes : List Ty) (c : Nat) (ps : List (Nat × Tm × Ty)), readL l takes c = some ps → ps.length = l.length
  | [], _, _, ps, h => by rw [readL] at h; cases h; rfl
  | x :: r, takes, c, ps, h => by
    obtain ⟨y, i, q, _, h2, rfl⟩ := readL_cons h
    simp [readL_length r takes _ q h2]
/-- What is true of each part's reading is true of all. -/
theorem readL_all {takes : List Ty} {Q : Tm → Nat → Tm → Ty → Prop} : ∀ (l : List Tm) (c : Nat) (ps : List (Nat × Tm × Ty)), readL l takes c = some ps → (∀ x, x ∈ l → ∀ c y i, readS x takes c = some (y, i) → Q x c y i) →
    ∀ j (h : j < ps.length) (h' : j < l.length), Q l[j] ps[j].1 ps[j].2.1 ps[j].2.2
  | [], c, ps, h, _, j, hj, h' => by simp at h'
  | x :: r, c, ps, h, hQ, j, hj, h' => by
    obtain ⟨y, i, q, h1, h2, rfl⟩ := readL_cons h
    match j with
    | 0 => exact hQ x (by simp) c y i h1
    | j + 1 => exact readL_all r _ q h2 (fun z hz => hQ z (by simp [hz])) j (by simpa using hj) (by simpa using h')
/-- All that is asked of a good term, and of its parts. -/
def okTm : Tm → Nat → Prop
  | ⟨k, n, t, f, l⟩, ins => okTop 0 (ins : Int) ⟨k, n, t, f, l⟩ = true ∧ ∀ x, x ∈ l → okTm x (if k = 7 then ins + 1 else ins)
theorem okTm_mk {k n : Int} {t f : Ty} {l : List Tm} {ins : Nat} : okTm ⟨k, n, t, f, l⟩ ins ↔ okTop 0 (ins : Int) ⟨k, n, t, f, l⟩ = true ∧ ∀ x, x ∈ l → okTm x (if k = 7 then ins + 1 else ins) := by
  rw [okTm]
theorem bindL_ok {f : Tm → Nat → Option Nat} {Q : Tm → Prop} (hf : ∀ y q q', f y q = some q' → Q y ∧ y.sz + q' = q) : ∀ (l : List Tm) (r r' : Nat), bindL f l r = some r' → (∀ y, y ∈ l → Q y) ∧ (l.map Tm.sz).sum + r' = r
  | [], r, r', h => by simp [bindL] at h; exact ⟨(fun y hy => by cases hy), by simpa using h.symm⟩
  | x :: l, r, r', h => by
    simp only [bindL] at h
    cases hq : f x r with
    | none => rw [hq] at h; cases h
    | some q =>
      rw [hq] at h
      have h1 := hf x r q hq
      have h2 := bindL_ok hf l q r' h
      refine ⟨fun y hy => ?_, by simp; omega⟩
      rcases List.mem_cons.1 hy with rfl | hy
      · exact h1.1
      · exact h2.1 y hy
theorem goodS_ok : ∀ (n : Nat) (ins : Nat) (x : Tm) (r r' : Nat), goodS 0 n (ins : Int) x r = some r' → okTm x ins ∧ x.sz + r' = r
  | 0, _, _, _, _, h => by simp [goodS] at h
  | _ + 1, _, _, 0, _, h => by simp [goodS] at h
  | n + 1, ins, ⟨k, m, t, f, l⟩, r + 1, r', h => by
    simp only [goodS] at h
    split at h
    · rename_i ht
      have hi : insOf k (ins : Int) = ((if k = 7 then ins + 1 else ins : Nat) : Int) := by
        unfold insOf; split <;> simp
      rw [hi] at h
      have h2 := bindL_ok (fun y q q' => goodS_ok n (if k = 7 then ins + 1 else ins) y q q') l r r' h
      exact ⟨okTm_mk.2 ⟨ht, h2.1⟩, by rw [Tm.sz_mk]; omega⟩
    · cases h
theorem goodM_ok {x : Tm} (h : goodM 0 x = true) : okTm x 0 ∧ x.sz ≤ 40 := by
  obtain ⟨r', hr⟩ := Option.isSome_iff_exists.1 h
  have := goodS_ok 40 0 x 40 r' hr
  exact ⟨this.1, by omega⟩
theorem goodY_more : ∀ (n m : Nat) (t : Ty), n ≤ m → goodY n t = true → goodY m t = true
  | 0, _, _, _, h => by simp [goodY] at h
  | n + 1, 0, _, hm, _ => by omega
  | n + 1, m + 1, t, hm, h => by
    rcases goodY_cases h with ⟨k, rfl, hk⟩ | ⟨x, y, rfl, hx, hy⟩
    · rcases hk with rfl | rfl | rfl <;> simp [goodY]
    · simp [goodY, goodY_more n m x (by omega) hx, goodY_more n m y (by omega) hy]
theorem goodY_any (n : Nat) : goodY (n + 1) ⟨0, []⟩ = true := by simp [goodY]
theorem goodY_num (n : Nat) : goodY (n + 1) ⟨1, []⟩ = true := by simp [goodY]
theorem goodY_truth (n : Nat) : goodY (n + 1) ⟨2, []⟩ = true := by simp [goodY]
/-- What okTop asks, one by one. -/
theorem okTop_all {k n : Int} {t f : Ty} {l : List Tm} {ins : Nat} (h : okTop 0 (ins : Int) ⟨k, n, t, f, l⟩ = true) :
    1 ≤ k ∧ k ≤ 9 ∧ l.length = partsOf k ∧ isAnyY f = true ∧ goodY 4 t = true ∧ (tells k = false → isAnyY t = true) ∧ (k = 1 → 0 ≤ n ∧ n < (ins : Int)) := by
  simp only [okTop, okTypes, Bool.and_eq_true, decide_eq_true_eq, beq_iff_eq] at h
  obtain ⟨⟨⟨h1, h2⟩, h3⟩, ⟨h4, h5⟩, h6⟩ := h
  refine ⟨h1, h2, h3, h4, ?_, fun hk => ?_, fun hk => ?_⟩
  · split at h5
    · exact h5
    · rw [isAny_eq h5]; exact goodY_any 3
  · rw [if_neg (by rw [hk]; simp)] at h5; exact h5
  · subst hk
    simp [okNum] at h6
    omega
theorem takesIn_length (k : Int) (t : Ty) (takes : List Ty) : (takesIn k t takes).length = if k = 7 then takes.length + 1 else takes.length := by
  unfold takesIn; split <;> simp
theorem takesIn_good {k : Int} {t : Ty} {takes : List Ty} (ht : goodY 4 t = true) (h : ∀ u, u ∈ takes → goodY 4 u = true) : ∀ u, u ∈ takesIn k t takes → goodY 4 u = true := by
  intro u hu
  unfold takesIn at hu
  split at hu
  · rcases List.mem_cons.1 hu with rfl | hu
    · exact ht
    · exact h u hu
  · exact h u hu
theorem getD_good {m : Nat} {l : List Ty} (h : ∀ u, u ∈ l → goodY m u = true) (hm : 1 ≤ m) (j : Nat) : goodY m (l.getD j ⟨0, []⟩) = true := by
  rw [List.getD_eq_getElem?_getD]
  cases hj : l[j]? with
  | none => obtain ⟨m, rfl⟩ : ∃ q, m = q + 1 := ⟨m - 1, by omega⟩; exact goodY_any m
  | some u => exact h u (List.mem_of_getElem? hj)
/-- The types of a rule are good, and there is one use for each part. -/
theorem rule_good {k n : Int} {t : Ty} {ps takes : List Ty} {i : Ty} {us : List Ty} (m : Nat) (hm : 4 ≤ m) (h1 : 1 ≤ k) (h9 : k ≤ 9) (hl : ps.length = partsOf k) (ht : goodY 4 t = true) (hT : ∀ u, u ∈ takes → goodY 4 u = true) (hp : ∀ u, u ∈ ps → goodY m u = true)
    (h : ruleY k n t ps takes = some (i, us)) : us.length = ps.length ∧ goodY (m + 1) i = true ∧ ∀ u, u ∈ us → goodY (m + 1) u = true := by
  have hk : k = 1 ∨ k = 2 ∨ k = 3 ∨ k = 4 ∨ k = 5 ∨ k = 6 ∨ k = 7 ∨ k = 8 ∨ k = 9 := by omega
  have up : ∀ u, goodY m u = true → goodY (m + 1) u = true := fun u => goodY_more m (m + 1) u (by omega)
  have up4 : ∀ u, goodY 4 u = true → goodY (m + 1) u = true := fun u => goodY_more 4 (m + 1) u (by omega)
  rcases hk with rfl | rfl | rfl | rfl | rfl | rfl | rfl | rfl | rfl
  · simp [ruleY] at h
    obtain ⟨rfl, rfl⟩ := h
    refine ⟨by rw [hl]; rfl, up4 _ ?_, fun u hu => by cases hu⟩
    have := getD_good hT (by omega) n.toNat
    simpa [List.getD_eq_getElem?_getD] using this
  · simp [ruleY] at h
    obtain ⟨rfl, rfl⟩ := h
    exact ⟨by rw [hl]; rfl, goodY_num _, fun u hu => by cases hu⟩
  · simp [ruleY] at h
    obtain ⟨rfl, rfl⟩ := h
    exact ⟨by rw [hl]; rfl, goodY_truth _, fun u hu => by cases hu⟩
  · simp [ruleY] at h
    obtain ⟨rfl, rfl⟩ := h
    exact ⟨by rw [hl]; rfl, goodY_num _, fun u hu => by simp at hu; subst hu; exact goodY_num _⟩
  · simp [ruleY] at h
    obtain ⟨rfl, rfl⟩ := h
    exact ⟨by rw [hl]; rfl, goodY_truth _, fun u hu => by simp at hu; subst hu; exact goodY_num _⟩
  · have h' : ifY ⟨2, []⟩ (ps.getD 1 ⟨0, []⟩) (ps.getD 2 ⟨0, []⟩) = some (i, us) := by simpa [ruleY] using h
    have g1 := getD_good hp (by omega) 1
    have g2 := getD_good hp (by omega) 2
    have gj := (join_facts m _ _ g1 g2).1
    unfold ifY at h'
    split at h'
    · cases h'
      refine ⟨by rw [hl]; rfl, up _ gj, fun u hu => ?_⟩
      simp only [List.mem_cons, List.not_mem_nil, or_false] at hu
      rcases hu with rfl | rfl | rfl
      · exact goodY_truth _
      · exact up _ gj
      · exact up _ gj
    · cases h'
  · have h' : i = ⟨3, [t, ps.getD 0 ⟨0, []⟩]⟩ ∧ us = ps := by
      have : some (Ty.mk 3 [t, ps.getD 0 ⟨0, []⟩], ps) = some (i, us) := by simpa [ruleY] using h
      cases this; exact ⟨rfl, rfl⟩
    obtain ⟨rfl, rfl⟩ := h'
    have g1 := getD_good hp (by omega) 0
    refine ⟨rfl, ?_, fun u hu => up _ (hp u hu)⟩
    rw [goodY, g1, goodY_more 4 m t (by omega) ht]; rfl
  · have h' : callY (ps.getD 0 ⟨0, []⟩) = some (i, us) := by simpa [ruleY] using h
    have g1 := getD_good hp (by omega) 0
    generalize ps.getD 0 ⟨0, []⟩ = q at h' g1
    obtain ⟨m, rfl⟩ : ∃ r, m = r + 1 := ⟨m - 1, by omega⟩
    rcases goodY_cases g1 with ⟨k, rfl, hk⟩ | ⟨x, y, rfl, hx, hy⟩
    · rcases hk with rfl | rfl | rfl
      · simp [callY] at h'
        obtain ⟨rfl, rfl⟩ := h'
        refine ⟨by rw [hl]; rfl, goodY_any _, fun u hu => ?_⟩
        simp only [List.mem_cons, List.not_mem_nil, or_false] at hu
        rcases hu with rfl | rfl
        · simp [goodY]
        · exact goodY_any _
      · simp [callY] at h'
      · simp [callY] at h'
    · simp [callY] at h'
      obtain ⟨rfl, rfl⟩ := h'
      refine ⟨by rw [hl]; rfl, goodY_more m _ _ (by omega) hy, fun u hu => ?_⟩
      simp only [List.mem_cons, List.not_mem_nil, or_false] at hu
      rcases hu with rfl | rfl
      · exact up _ g1
      · exact goodY_more m _ _ (by omega) hx
  · have h' : i = t ∧ us = [t] := by
      have : some (t, [t]) = some (i, us) := by simpa [ruleY] using h
      cases this; exact ⟨rfl, rfl⟩
    obtain ⟨rfl, rfl⟩ := h'
    exact ⟨by rw [hl]; rfl, up4 _ ht, fun u hu => by simp at hu; subst hu; exact up4 _ ht⟩
/-- A part has less nodes. -/
theorem sz_mem : ∀ (l : List Tm) (x : Tm), x ∈ l → x.sz ≤ (l.map Tm.sz).sum
  | [], _, h => by cases h
  | y :: r, x, h => by
    rcases List.mem_cons.1 h with rfl | h
    · simp
    · have := sz_mem r x h
      simp; omega
theorem Tm.sz_pos (x : Tm) : 1 ≤ x.sz := by cases x; rw [Tm.sz_mk]; omega
/-- The type of a good term is good. -/
theorem read_good : ∀ (x : Tm) (takes : List Ty) (c : Nat) (y : Tm) (i : Ty), okTm x takes.length → (∀ u, u ∈ takes → goodY 4 u = true) → readS x takes c = some (y, i) → goodY (x.sz + 4) i = true := by
  intro x
  induction x using Tm.ind with
  | h k n t f l ih =>
    intro takes c y i hok hT h
    obtain ⟨h0, h1⟩ := okTm_mk.1 hok
    obtain ⟨k1, k9, hl, _, ht, _, _⟩ := okTop_all h0
    obtain ⟨ps, us, e1, e2, _, _⟩ := readS_some h
    have hlen := readL_length _ _ _ _ e1
    have hp : ∀ u, u ∈ ps.map (fun p => p.2.2) → goodY ((l.map Tm.sz).sum + 4) u = true := by
      intro u hu
      obtain ⟨j, hj, rfl⟩ := List.getElem_of_mem hu
      have hj' : j < ps.length := by simpa using hj
      have := readL_all (Q := fun x _ _ i => goodY (x.sz + 4) i = true) l _ ps e1 (fun x hx c y i hr => ih x hx _ c y i (by rw [takesIn_length]; exact h1 x hx) (takesIn_good ht hT) hr) j hj' (by omega)
      have hs := sz_mem l l[j] (List.getElem_mem _)
      simpa using goodY_more _ ((l.map Tm.sz).sum + 4) _ (by omega) this
    have := rule_good ((l.map Tm.sz).sum + 4) (by omega) k1 k9 (by simpa using hlen.trans hl) ht (takesIn_good ht hT) hp e2
    rw [Tm.sz_mk]
    exact goodY_more _ _ _ (by omega) this.2.1
end Go.Proofs.YtnddkmccagiclaaGreatDoor

/-
  What Check makes of a term has a type, and the machine can go through it: plain mathematics; no program in it.
-/
namespace Go.Proofs.YtnddkmccagiclaaGreatDoor
theorem tsz_sz' : ∀ x : Tm, x.tsz = x.sz := by
  intro x
  induction x using Tm.ind with
  | h k n t f l ih =>
    rw [Tm.tsz_mk, Tm.sz_mk]
    congr 2
    exact List.map_congr_left ih
theorem okNum_bounds {ar ins k n : Int} (h : okNum ar ins k n = true) (hi : ins + ar ≤ 1000) : -1000000 ≤ n ∧ n ≤ 1000000 ∧ (k = 1 → 0 ≤ n) := by
  unfold okNum at h
  split at h
  · simp at h; omega
  · split at h
    · simp at h; rename_i h1 _; exact ⟨by omega, by omega, fun e => absurd e h1⟩
    · split at h
      · simp at h; rename_i h1 _ _; exact ⟨by omega, by omega, fun e => absurd e h1⟩
      · simp at h; rename_i h1 _ _; exact ⟨by omega, by omega, fun e => absurd e h1⟩
/-- What a cast part is. -/
structure PartOk (takes : List Ty) (y : Tm) (i : Ty) (z : Nat) : Prop where
  sh : shp y
  ty : tyM y takes i
  sz : y.sz + 1 ≤ 2 * z
  gi : goodY 45 i = true
theorem castY_ok {takes : List Ty} {y : Tm} {i u : Ty} {z n : Nat} (h : PartOk takes y i z) (hu : goodY 46 u = true) (hf : relY escFits i u = true) (hn : n ≤ 1000) : shp (castY (n : Int) y i u) ∧ tyM (castY (n : Int) y i u) takes u ∧ (castY (n : Int) y i u).sz ≤ 2 * z := by
  unfold castY
  split
  · rename_i hs
    have e := same_eq i u hs
    subst e
    exact ⟨h.sh, h.ty, by have := h.sz; omega⟩
  · refine ⟨shp_mk.2 ⟨⟨by omega, by omega, rfl, by omega, by omega, fun e => by omega, fun _ => ⟨hu, goodY_more 45 46 i (by omega) h.gi⟩⟩, fun x hx => ?_⟩, ?_, ?_⟩
    · rcases List.mem_singleton.1 hx with rfl
      exact h.sh
    · refine tyM_mk.2 ⟨[i], rfl, fun j hj _ => ?_, .inr (.inr (.inr (.inr (.inr (.inr (.inr (.inr (.inr ⟨rfl, rfl, rfl, hf, goodY_more 45 46 i (by omega) h.gi, hu⟩))))))))⟩
      match j, hj with
      | 0, _ => exact h.ty
    · rw [Tm.sz_mk]
      have := h.sz
      simp
      omega
theorem castL_ok {takes : List Ty} : ∀ (l : List Tm) (c : Nat) (ps : List (Nat × Tm × Ty)) (us : List Ty), readL l takes c = some ps → us.length = ps.length → fitL (ps.map fun p => p.2.2) us = true → (∀ u, u ∈ us → goodY 46 u = true) → c + (l.map Tm.sz).sum ≤ 1000 →
    (∀ x, x ∈ l → ∀ c y i, readS x takes c = some (y, i) → c + x.sz ≤ 1000 → PartOk takes y i x.sz) →
    (castL ps us).length = l.length ∧ (∀ x, x ∈ castL ps us → shp x) ∧ ((castL ps us).map Tm.sz).sum ≤ 2 * (l.map Tm.sz).sum ∧ ∀ j (h : j < (castL ps us).length) (h' : j < us.length), tyM (castL ps us)[j] takes us[j]
  | [], c, ps, us, h, _, _, _, _, _ => by rw [readL] at h; cases h; simp [castL]
  | x :: r, c, ps, us, h, hl, hf, hu, hc, hQ => by
    obtain ⟨y, i, q, h1, h2, rfl⟩ := readL_cons h
    match us, hl, hf, hu with
    | [], hl, _, _ => simp at hl
    | u :: vs, hl, hf, hu =>
      simp only [List.map_cons, fitL, Bool.and_eq_true] at hf
      simp only [List.map_cons, List.sum_cons] at hc
      have hp := hQ x (by simp) c y i h1 (by omega)
      obtain ⟨a1, a2, a3⟩ := castY_ok (n := c) hp (hu u (by simp)) hf.1 (by omega)
      obtain ⟨b0, b1, b2, b3⟩ := castL_ok r (c + x.sz) q vs h2 (by simpa using hl) hf.2 (fun v hv => hu v (by simp [hv])) (by omega) fun z hz => hQ z (by simp [hz])
      have e : castL ((c, y, i) :: q) (u :: vs) = castY (c : Int) y i u :: castL q vs := rfl
      rw [e]
      refine ⟨by simp [b0], fun z hz => ?_, ?_, fun j hj hj' => ?_⟩
      · rcases List.mem_cons.1 hz with rfl | hz
        · exact a1
        · exact b1 z hz
      · simp only [List.map_cons, List.sum_cons]; omega
      · match j with
        | 0 => exact a2
        | j + 1 => exact b3 j (by simpa using hj) (by simpa using hj')
theorem rule_ty {k n : Int} {t : Ty} {ps takes : List Ty} {i : Ty} {us : List Ty} {m : Nat} (h1 : 1 ≤ k) (h9 : k ≤ 9) (hl : ps.length = partsOf k) (hn : k = 1 → n.toNat < takes.length) (hp : ∀ u, u ∈ ps → goodY (m + 1) u = true) (h : ruleY k n t ps takes = some (i, us)) (G : List Ty) (hG : k ≠ 7 → G = takes) : ruleT k n t anyY us G i := by
  have hk : k = 1 ∨ k = 2 ∨ k = 3 ∨ k = 4 ∨ k = 5 ∨ k = 6 ∨ k = 7 ∨ k = 8 ∨ k = 9 := by omega
  rcases hk with rfl | rfl | rfl | rfl | rfl | rfl | rfl | rfl | rfl
  · have h' : takes.getD n.toNat ⟨0, []⟩ = i ∧ [] = us := by simpa [ruleY] using h
    obtain ⟨rfl, rfl⟩ := h'
    refine .inl ⟨rfl, rfl, ?_⟩
    rw [hG (by omega), List.getD_eq_getElem?_getD, List.getElem?_eq_getElem (hn rfl)]
    rfl
  · simp [ruleY] at h
    obtain ⟨rfl, rfl⟩ := h
    exact .inr (.inl ⟨rfl, rfl, rfl⟩)
  · simp [ruleY] at h
    obtain ⟨rfl, rfl⟩ := h
    exact .inr (.inr (.inl ⟨rfl, rfl, rfl⟩))
  · simp [ruleY] at h
    obtain ⟨rfl, rfl⟩ := h
    exact .inr (.inr (.inr (.inl ⟨rfl, rfl, rfl⟩)))
  · simp [ruleY] at h
    obtain ⟨rfl, rfl⟩ := h
    exact .inr (.inr (.inr (.inr (.inl ⟨rfl, rfl, rfl⟩))))
  · have h' : ifY ⟨2, []⟩ (ps.getD 1 ⟨0, []⟩) (ps.getD 2 ⟨0, []⟩) = some (i, us) := by simpa [ruleY] using h
    unfold ifY at h'
    split at h'
    · cases h'
      exact .inr (.inr (.inr (.inr (.inr (.inl ⟨rfl, rfl⟩)))))
    · cases h'
  · have h' : i = ⟨3, [t, ps.getD 0 ⟨0, []⟩]⟩ ∧ us = ps := by
      have : some (Ty.mk 3 [t, ps.getD 0 ⟨0, []⟩], ps) = some (i, us) := by simpa [ruleY] using h
      cases this; exact ⟨rfl, rfl⟩
    obtain ⟨rfl, rfl⟩ := h'
    match us, hl with
    | [b], _ => exact .inr (.inr (.inr (.inr (.inr (.inr (.inl ⟨rfl, b, rfl, rfl⟩))))))
  · have h' : callY (ps.getD 0 ⟨0, []⟩) = some (i, us) := by simpa [ruleY] using h
    match ps, hl, hp, h' with
    | [p, q], _, hp, h' =>
      have h'' : callY p = some (i, us) := h'
      refine .inr (.inr (.inr (.inr (.inr (.inr (.inr (.inl ⟨rfl, ?_⟩)))))))
      rcases goodY_cases (hp p (by simp)) with ⟨k, rfl, hk⟩ | ⟨x, y, rfl, _, _⟩
      · rcases hk with rfl | rfl | rfl
        · simp [callY] at h''
          obtain ⟨rfl, rfl⟩ := h''
          exact ⟨anyY, rfl⟩
        · simp [callY] at h''
        · simp [callY] at h''
      · simp [callY] at h''
        obtain ⟨rfl, rfl⟩ := h''
        exact ⟨x, rfl⟩
  · have h' : i = t ∧ us = [t] := by
      have : some (t, [t]) = some (i, us) := by simpa [ruleY] using h
      cases this; exact ⟨rfl, rfl⟩
    obtain ⟨rfl, rfl⟩ := h'
    exact .inr (.inr (.inr (.inr (.inr (.inr (.inr (.inr (.inl ⟨rfl, rfl, rfl⟩))))))))
theorem read_run : ∀ (x : Tm) (takes : List Ty) (c : Nat) (y : Tm) (i : Ty), okTm x takes.length → (∀ u, u ∈ takes → goodY 4 u = true) → readS x takes c = some (y, i) → x.sz ≤ 40 → takes.length + x.sz ≤ 900 → c + x.sz ≤ 1000 → PartOk takes y i x.sz := by
  intro x
  induction x using Tm.ind with
  | h k n t f l ih =>
    intro takes c y i hok hT h hz ht9 hc
    have hgi := read_good _ _ c y i hok hT h
    obtain ⟨h0, h1⟩ := okTm_mk.1 hok
    obtain ⟨k1, k9, hl, _, ht, hnt, hn1⟩ := okTop_all h0
    obtain ⟨ps, us, e1, e2, e3, rfl⟩ := readS_some h
    have hlen := readL_length _ _ _ _ e1
    rw [Tm.sz_mk] at hz hc ht9 hgi
    have hp : ∀ x, x ∈ l → ∀ c y i, readS x (takesIn k t takes) c = some (y, i) → c + x.sz ≤ 1000 → PartOk (takesIn k t takes) y i x.sz := by
      intro x hx c y i hr hc
      have hs := sz_mem l x hx
      have ho : okTm x (takesIn k t takes).length := by rw [takesIn_length]; exact h1 x hx
      have hle : (takesIn k t takes).length ≤ takes.length + 1 := by rw [takesIn_length]; split <;> omega
      exact ih x hx _ c y i ho (takesIn_good ht hT) hr (by omega) (by omega) hc
    have hg : ∀ u, u ∈ ps.map (fun p => p.2.2) → goodY ((l.map Tm.sz).sum + 4) u = true := by
      intro u hu
      obtain ⟨j, hj, rfl⟩ := List.getElem_of_mem hu
      have hj' : j < ps.length := by simpa using hj
      have := readL_all (Q := fun x _ _ i => goodY (x.sz + 4) i = true) l _ ps e1 (fun x hx c y i hr => read_good x _ c y i (by rw [takesIn_length]; exact h1 x hx) (takesIn_good ht hT) hr) j hj' (by omega)
      have hs := sz_mem l l[j] (List.getElem_mem _)
      simpa using goodY_more _ ((l.map Tm.sz).sum + 4) _ (by omega) this
    obtain ⟨r1, _, r3⟩ := rule_good ((l.map Tm.sz).sum + 4) (by omega) k1 k9 (by simpa using hlen.trans hl) ht (takesIn_good ht hT) hg e2
    obtain ⟨c0, c1, c2, c3⟩ := castL_ok l (c + 1) ps us e1 (by simpa using r1) e3 (fun u hu => goodY_more _ 46 u (by omega) (r3 u hu)) (by omega) hp
    have hnum : okNum 0 (takes.length : Int) k n = true := by
      simp only [okTop, Bool.and_eq_true] at h0
      exact h0.2.2
    obtain ⟨n1, n2, n3⟩ := okNum_bounds hnum (by omega)
    refine ⟨shp_mk.2 ⟨⟨k1, by omega, ?_, n1, n2, n3, fun e => by omega⟩, c1⟩, ?_, ?_, goodY_more _ 45 i (by omega) hgi⟩
    · rw [c0, hl]; unfold partsR; rw [if_neg (by omega)]
    · have hTk : (if k = 7 then t :: takes else takes) = takesIn k t takes := rfl
      refine tyM_mk.2 ⟨us, ?_, fun j hj hj' => ?_, ?_⟩
      · rw [c0, r1]; simpa using hlen.symm
      · rw [hTk]; exact c3 j hj hj'
      · refine rule_ty (m := (l.map Tm.sz).sum + 3) k1 k9 (by simpa using hlen.trans hl) (fun e => ?_) hg e2 takes fun hk => ?_
        · have := hn1 e
          rw [takesIn_length, if_neg (by omega)]
          omega
        · unfold takesIn; rw [if_neg hk]
    · rw [Tm.sz_mk, Tm.sz_mk]; omega
/-- What Check makes of a good term. -/
theorem check_run {x y : Tm} {i : Ty} (hg : goodM 0 x = true) (h : readS x [] 0 = some (y, i)) : shp y ∧ y.tsz ≤ 100 ∧ tyM y [] i := by
  obtain ⟨hok, hsz⟩ := goodM_ok hg
  have := read_run x [] 0 y i hok (fun u hu => by cases hu) h hsz (by simp; omega) (by omega)
  refine ⟨this.sh, ?_, this.ty⟩
  rw [tsz_sz']
  have := this.sz
  omega
end Go.Proofs.YtnddkmccagiclaaGreatDoor

/-
  What check's read and readAll are to answer; rows of readings that a call makes longer; no program's run in it.
-/
namespace Go.Proofs.YtnddkmccagiclaaGreatDoor
open Go.RowKit
/-- The counter. -/
structure CS (R c : Nat) (w : World) : Prop where
  c : w.cell? ⟨R, 0, none⟩ = some (.int .i64 (c : Int))
  f : w.frozen? ⟨R, 0, none⟩ = false
theorem CS.lt {R c : Nat} {w : World} (h : CS R c w) : R < w.heap.size := World.block_lt_of_cell? _ _ h.c
theorem CS.below {R c : Nat} {w w' : World} (h : CS R c w) (hb : Below w.heap.size w w') : CS R c w' :=
  ⟨cell_later hb h.c, (hb.frozen (p := ⟨R, 0, none⟩) h.lt).trans h.f⟩
/-- What read answers. -/
def RdPost (Q : Nat → Prop) (R : Nat) (x : TT) (c : Nat) (takes : List Ty) (w : World) (e : Ending) (w' : World) : Prop :=
  Kept R none w w' ∧ ((readS x.tm takes c = none ∧ e = .returned (.tuple #[.agg #[.int .i64 0, .int .i64 0, .int .i64 0, .int .i64 0, .slice none 0 0, .int .i64 0, .slice none 0 0, .slice none 0 0, .int .i64 0, .slice none 0 0], .bool false])) ∨
    ∃ r : Rd, readS x.tm takes c = some (r.y.tm, r.i.ty) ∧ e = .returned (.tuple #[.agg #[.int .i64 r.n, .int .i64 r.y.k, .int .i64 r.y.n, .int .i64 r.y.t.k, .slice r.y.t.a r.y.t.l.length r.y.t.c, .int .i64 r.y.f.k, .slice r.y.f.a r.y.f.l.length r.y.f.c, .slice r.y.a r.y.l.length r.y.c, .int .i64 r.i.k, .slice r.i.a r.i.l.length r.i.c], .bool true]) ∧
      r.n = (c : Int) ∧ r.y.In w' ∧ r.i.In w' ∧ r.y.Bl Q ∧ r.i.Bl Q ∧ CS R (c + x.sz) w')
/-- What it asks. -/
structure RdPre (Q : Nat → Prop) (R : Nat) (x : TT) (c : Nat) (T : Tr) (w : World) : Prop where
  ok : okTm x.tm T.l.length
  tk : ∀ t, t ∈ T.l → goodT 4 t = true
  rm : c + x.sz ≤ 900 ∧ T.l.length + x.sz ≤ 900
  xi : x.In w
  ti : T.In w
  cs : CS R c w
  xb : x.Bl Q
  tb : T.Bl Q
  nw : ∀ b, w.heap.size ≤ b → Q b
  ne : ∀ b, Q b → b ≠ R
def tri (r : Rd) : Nat × Tm × Ty := (r.n.toNat, r.y.tm, r.i.ty)
theorem readL_append (takes : List Ty) : ∀ (l m : List Tm) (c : Nat), readL (l ++ m) takes c = (readL l takes c).bind fun ps => (readL m takes (c + (l.map Tm.sz).sum)).bind fun qs => some (ps ++ qs)
  | [], m, c => by
    simp only [List.nil_append, readL, Option.bind_some, List.map_nil, List.sum_nil, Nat.add_zero]
    cases readL m takes c <;> rfl
  | x :: r, m, c => by
    simp only [List.cons_append, readL, readL_append takes r m, List.map_cons, List.sum_cons, Nat.add_assoc]
    cases readS x takes c with
    | none => rfl
    | some p =>
      simp only [Option.bind_some]
      cases readL r takes (c + x.sz) with
      | none => rfl
      | some q =>
        simp only [Option.bind_some]
        cases readL m takes (c + (x.sz + (r.map Tm.sz).sum)) <;> rfl
theorem readL_snoc {takes : List Ty} {l : List Tm} {c : Nat} {ps : List (Nat × Tm × Ty)} {x y : Tm} {i : Ty} (h : readL l takes c = some ps) (hx : readS x takes (c + (l.map Tm.sz).sum) = some (y, i)) : readL (l ++ [x]) takes c = some (ps ++ [(c + (l.map Tm.sz).sum, y, i)]) := by
  rw [readL_append, h]
  simp [readL, hx]
theorem readL_stop {takes : List Ty} {l : List Tm} {c : Nat} {x : Tm} {m : List Tm} (hx : readS x takes (c + (l.map Tm.sz).sum) = none) : readL (l ++ x :: m) takes c = none := by
  rw [readL_append]
  cases readL l takes c with
  | none => rfl
  | some ps => simp [readL, hx]
/-! ### Rows of readings -/
def cell10 (r : Rd) : List Value := [.int .i64 r.n, .int .i64 r.y.k, .int .i64 r.y.n, .int .i64 r.y.t.k, .slice r.y.t.a r.y.t.l.length r.y.t.c, .int .i64 r.y.f.k, .slice r.y.f.a r.y.f.l.length r.y.f.c, .slice r.y.a r.y.l.length r.y.c, .int .i64 r.i.k, .slice r.i.a r.i.l.length r.i.c]
def cells10 (rs : List Rd) : List Value := rs.flatMap cell10
theorem cells10_append (a b : List Rd) : cells10 (a ++ b) = cells10 a ++ cells10 b := by simp [cells10]
theorem cells10_one (r : Rd) : cells10 [r] = cell10 r := by simp [cells10]
theorem cells10_at : ∀ (l : List Rd) (j : Nat) (h : j < l.length) (i : Nat), i < 10 → (cells10 l)[j * 10 + i]? = (cell10 l[j])[i]?
  | [], j, h, _, _ => by simp at h
  | x :: r, 0, _, i, hi => by
    have : cells10 (x :: r) = cell10 x ++ cells10 r := by simp [cells10]
    rw [this, List.getElem?_append_left (by simp [cell10]; omega)]
    simp
  | x :: r, j + 1, h, i, hi => by
    have ih := cells10_at r j (by simpa using h) i hi
    have e : cells10 (x :: r) = cell10 x ++ cells10 r := by simp [cells10]
    rw [e, List.getElem?_append_right (by simp [cell10]; omega)]
    have : (j + 1) * 10 + i - (cell10 x).length = j * 10 + i := by simp [cell10]; omega
    rw [this]
    simpa using ih
structure RowR (Q : Nat → Prop) (base : Nat) (v : Value) (rs : List Rd) (w : World) : Prop where
  own : w.ownsRow base 71 10 v rs.length (cells10 rs)
  ins : ∀ r, r ∈ rs → r.y.In w ∧ r.i.In w ∧ r.y.Bl (fun b => Q b ∧ some b ≠ v.ownBlock) ∧ r.i.Bl (fun b => Q b ∧ some b ≠ v.ownBlock)
theorem RowR.nil (Q : Nat → Prop) (base : Nat) (w : World) : RowR Q base (.slice none 0 0) [] w := ⟨World.ownsRow_nil _ _ _ _, fun c h => by cases h⟩
theorem RowR.kept {Q : Nat → Prop} {base R : Nat} {v : Value} {rs : List Rd} {w w' : World} (h : RowR Q base v rs w) (hk : Kept R none w w') (hR : R < base) (hQ : ∀ b, Q b → b ≠ R) : RowR Q base v rs w' := by
  refine ⟨⟨h.own.1, ?_⟩, fun c hc => ?_⟩
  · rcases h.own.2 with hn | ⟨g, cap, cur, hv, hb, hg, rest⟩
    · exact .inl hn
    · exact .inr ⟨g, cap, cur, hv, hb, (hk.block g (Array.getElem?_eq_some_iff.1 hg).1 (by omega) (by simp)).trans hg, rest⟩
  · obtain ⟨h1, h2, h3, h4⟩ := h.ins c hc
    exact ⟨h1.keptR hk (h3.mono fun b hb => hQ b hb.1), h2.keptR hk (h4.mono fun b hb => hQ b hb.1), h3, h4⟩
theorem RowR.below {Q : Nat → Prop} {base : Nat} {v : Value} {rs : List Rd} {w w' : World} (h : RowR Q base v rs w) (hb : Below w.heap.size w w') : RowR Q base v rs w' := by
  refine ⟨⟨h.own.1, ?_⟩, fun c hc => ⟨(h.ins c hc).1.below hb, (h.ins c hc).2.1.below hb, (h.ins c hc).2.2⟩⟩
  rcases h.own.2 with hn | ⟨g, cap, cur, hv, hb', hg, rest⟩
  · exact .inl hn
  · exact .inr ⟨g, cap, cur, hv, hb', (hb.block g (Array.getElem?_eq_some_iff.1 hg).1).trans hg, rest⟩
theorem RowR.lt {Q : Nat → Prop} {base : Nat} {v : Value} {rs : List Rd} {w : World} (h : RowR Q base v rs w) (k : Nat) (hk : v.ownBlock = some k) : base ≤ k ∧ k < w.heap.size := h.own.lt k hk
/-- One more. -/
theorem RowR.step {Q : Nat → Prop} {base : Nat} {v : Value} {rs : List Rd} {w2 w3 : World} {r : Rd} {gg cap1 : Nat} {X : Obj} (h : RowR Q base v rs w2) (yi : r.y.In w2) (ii : r.i.In w2) (yb : r.y.Bl (fun b => Q b ∧ some b ≠ v.ownBlock)) (ib : r.i.Bl (fun b => Q b ∧ some b ≠ v.ownBlock))
    (hown : w3.ownsRow base 71 10 (.slice (some ⟨gg, 0, none⟩) (rs.length + 1) cap1) (rs.length + 1) (cells10 rs ++ cells10 [r])) (hgrow : (w2.alloc X).grownBy w3 v.ownBlock) (hat : v.ownBlock = some gg ∨ gg = w2.heap.size + 1) :
    RowR Q base (.slice (some ⟨gg, 0, none⟩) (rs.length + 1) cap1) (rs ++ [r]) w3 ∧ ∀ k, k < w2.heap.size → some k ≠ v.ownBlock → w3.heap[k]? = w2.heap[k]? := by
  have hblk : ∀ k, k < w2.heap.size → some k ≠ v.ownBlock → w3.heap[k]? = w2.heap[k]? := fun k hk hn => by
    rw [hgrow.block k (by simp; omega) hn]
    exact ((Below.refl _ w2).alloc (Nat.le_refl _) X).block k hk
  refine ⟨⟨by rw [cells10_append, List.length_append, List.length_singleton]; exact hown, fun d hd => ?_⟩, hblk⟩
  have key : d.y.In w2 ∧ d.i.In w2 ∧ d.y.Bl (fun b => Q b ∧ some b ≠ v.ownBlock) ∧ d.i.Bl (fun b => Q b ∧ some b ≠ v.ownBlock) := by
    rcases List.mem_append.1 hd with hd | hd
    · exact h.ins d hd
    · rcases List.mem_singleton.1 hd with rfl
      exact ⟨yi, ii, yb, ib⟩
  have hne : ∀ b, b < w2.heap.size ∧ (Q b ∧ some b ≠ v.ownBlock) → Q b ∧ some b ≠ (Value.slice (some ⟨gg, 0, none⟩) (rs.length + 1) cap1).ownBlock := by
    intro b hb
    refine ⟨hb.2.1, ?_⟩
    show some b ≠ some gg
    rcases hat with e | e
    · rw [← e]; exact hb.2.2
    · simp only [ne_eq, Option.some.injEq]; omega
  have hsame : ∀ b, b < w2.heap.size ∧ (Q b ∧ some b ≠ v.ownBlock) → ∀ i, w3.cell? ⟨b, i, none⟩ = w2.cell? ⟨b, i, none⟩ := fun b hb i =>
    World.cell?_of_block (a := ⟨b, i, none⟩) (hblk b hb.1 hb.2.2)
  have y3 := key.1.bl.and key.2.2.1
  have i3 := key.2.1.bl.and key.2.2.2
  exact ⟨key.1.congr (P := fun b => b < w2.heap.size ∧ (Q b ∧ some b ≠ v.ownBlock)) hsame y3, key.2.1.congr (P := fun b => b < w2.heap.size ∧ (Q b ∧ some b ≠ v.ownBlock)) hsame i3, y3.mono hne, i3.mono hne⟩
/-- A row that the call owns is a row of readings. -/
theorem RowR.list {Q : Nat → Prop} {base : Nat} {v : Value} {rs : List Rd} {w : World} (h : RowR Q base v rs w) : ∃ a c, v = .slice a rs.length c ∧ RL w a rs := by
  rcases h.own.2 with ⟨rfl, h0⟩ | ⟨g, cap, cur, rfl, hg, _⟩
  · have : rs = [] := List.length_eq_zero_iff.1 h0
    subst this
    exact ⟨none, 0, rfl, fun j hj => absurd hj (by simp)⟩
  · refine ⟨_, _, rfl, fun j hj => ⟨g, 0, rfl, ?_, (h.ins _ (List.getElem_mem hj)).1, (h.ins _ (List.getElem_mem hj)).2.1⟩⟩
    have hc : ∀ i, i < 10 → w.cell? ⟨g, 0 + j * 10 + i, none⟩ = _ := fun i hi => by rw [Nat.zero_add, h.own.cellAt (j * 10 + i) (by omega), cells10_at rs j hj i hi]
    exact ⟨hc 0 (by omega), ⟨hc 1 (by omega), hc 2 (by omega), hc 3 (by omega), hc 4 (by omega), hc 5 (by omega), hc 6 (by omega), hc 7 (by omega)⟩, hc 8 (by omega), hc 9 (by omega)⟩
/-- What readAll answers. -/
def RaPost (Q : Nat → Prop) (R : Nat) (l : List TT) (c : Nat) (takes : List Ty) (w : World) (e : Ending) (w' : World) : Prop :=
  Kept R none w w' ∧ ((readL (l.map TT.tm) takes c = none ∧ e = .returned (.tuple #[.slice none 0 0, .bool false])) ∨
    ∃ (rs : List Rd) (a : Option Addr) (cap : Nat), readL (l.map TT.tm) takes c = some (rs.map tri) ∧ e = .returned (.tuple #[.slice a rs.length cap, .bool true]) ∧ (∀ r, r ∈ rs → 0 ≤ r.n) ∧ RL w' a rs ∧ (∀ r, r ∈ rs → r.y.Bl Q ∧ r.i.Bl Q) ∧ CS R (c + (l.map TT.sz).sum) w')
end Go.Proofs.YtnddkmccagiclaaGreatDoor

/-
  What the call of check's readAll answers, if read answers as it should at each part.
-/
namespace Go.Proofs.YtnddkmccagiclaaGreatDoor
open Go.RowKit
theorem Tryz.info71 : (Tryz.prog.info? 71).map (fun i => (i.zero, i.size, i.bytes)) = some (some (.agg #[.int .i64 0, .int .i64 0, .int .i64 0, .int .i64 0, .slice none 0 0, .int .i64 0, .slice none 0 0, .slice none 0 0, .int .i64 0, .slice none 0 0]), 10, 144) := by kernel_rfl
/-- While the parts are read. -/
structure RaInv (Q : Nat → Prop) (R : Nat) (x : TT) (c : Nat) (T : Tr) (w : World) (j : Nat) (v : Value) (rs : List Rd) (wr : World) : Prop where
  kp : Kept R none w wr
  row : RowR Q w.heap.size v rs wr
  len : rs.length = j
  nn : ∀ r, r ∈ rs → 0 ≤ r.n
  rd : readL ((x.l.take j).map TT.tm) (T.l.map Tr.ty) c = some (rs.map tri)
  cs : CS R (c + ((x.l.take j).map TT.sz).sum) wr
theorem sz_map (l : List TT) : (l.map TT.tm).map Tm.sz = l.map TT.sz := by
  rw [List.map_map]
  exact List.map_congr_left fun x _ => x.sz_tm.symm
theorem take_snoc {α : Type} (l : List α) (j : Nat) (h : j < l.length) : l.take (j + 1) = l.take j ++ [l[j]] := by
  rw [List.take_add_one, List.getElem?_eq_getElem h]
  rfl
set_option maxRecDepth 20000 in
set_option maxHeartbeats 8000000 in
theorem readAll_any (Q : Nat → Prop) (R : Nat) (x : TT) (c : Nat) (T : Tr) (w : World)
    (HRD : ∀ y, y ∈ x.l → ∀ (Q' : Nat → Prop) (c' : Nat) (W : World), RdPre Q' R y c' T W → Calls Tryz.prog 34 #[.pointer (some ⟨R, 0, none⟩), .agg #[.int .i64 y.k, .int .i64 y.n, .int .i64 y.t.k, .slice y.t.a y.t.l.length y.t.c, .int .i64 y.f.k, .slice y.f.a y.f.l.length y.f.c, .slice y.a y.l.length y.c], .slice T.a T.l.length T.c] W (RdPost Q' R y c' (T.l.map Tr.ty) W))
    (hok : ∀ y, y ∈ x.l → okTm y.tm T.l.length) (htk : ∀ t, t ∈ T.l → goodT 4 t = true) (hrm : c + (x.l.map TT.sz).sum ≤ 900 ∧ T.l.length + (x.l.map TT.sz).sum ≤ 900) (xi : x.In w) (ti : T.In w) (hcs : CS R c w) (xb : x.Bl Q) (tb : T.Bl Q) (nw : ∀ b, w.heap.size ≤ b → Q b) (ne : ∀ b, Q b → b ≠ R) :
    Calls Tryz.prog 64 #[.pointer (some ⟨R, 0, none⟩), .slice x.a x.l.length x.c, .slice T.a T.l.length T.c] w (RaPost Q R x.l c (T.l.map Tr.ty) w) := by
  obtain ⟨i0, hi0, hz0, hz1, hz2⟩ := info_parts Tryz.info71
  have hxl : x.l.length ≤ 1000 := by
    have : x.l.length ≤ (x.l.map TT.sz).sum := by
      have : ∀ l : List TT, l.length ≤ (l.map TT.sz).sum := fun l => by
        induction l with
        | nil => simp
        | cons u r ih => have := u.sz_pos; simp only [List.length_cons, List.map_cons, List.sum_cons]; omega
      exact this _
    omega
  have hRl : R < w.heap.size := hcs.lt
  have HP : Hid ((∀ y, y ∈ x.l → okTm y.tm T.l.length) ∧ (∀ t, t ∈ T.l → goodT 4 t = true) ∧ (c + (x.l.map TT.sz).sum ≤ 900 ∧ T.l.length + (x.l.map TT.sz).sum ≤ 900) ∧ x.Bl Q ∧ T.Bl Q ∧ (∀ b, w.heap.size ≤ b → Q b) ∧ (∀ b, Q b → b ≠ R)) := ⟨hok, htk, hrm, xb, tb, nw, ne⟩
  have HX : Hid (x.In w ∧ T.In w) := ⟨xi, ti⟩
  have HRD' : Hid (∀ y, y ∈ x.l → ∀ (Q' : Nat → Prop) (c' : Nat) (W : World), RdPre Q' R y c' T W → Calls Tryz.prog 34 #[.pointer (some ⟨R, 0, none⟩), .agg #[.int .i64 y.k, .int .i64 y.n, .int .i64 y.t.k, .slice y.t.a y.t.l.length y.t.c, .int .i64 y.f.k, .slice y.f.a y.f.l.length y.f.c, .slice y.a y.l.length y.c], .slice T.a T.l.length T.c] W (RdPost Q' R y c' (T.l.map Tr.ty) W)) := HRD
  have HL0 : Hid (RaInv Q R x c T w 0 (.slice none 0 0) [] w) := ⟨Kept.refl, RowR.nil _ _ _, rfl, fun r h => (by cases h), by simp [readL], by simpa using hcs⟩
  clear hok htk hrm xi ti hcs xb tb nw ne HRD
  go_enter Tryz.func64, Tryz.ntmps64
  go_wp2_with fail
  go_loopg [8, 15] x.l.length (fun g v i wr => ∃ (j : Nat) (u : Value) (rs : List Rd), g + j = x.l.length ∧ i = .int .i64 (j : Int) ∧ u = v ∧ Hid (RaInv Q R x c T w j u rs wr))
  case atStart => exact ⟨0, _, [], by omega, rfl, rfl, HL0⟩
  case round =>
    obtain ⟨j, v, rs, hj, rfl, hv, HQ⟩ := hrel
    subst hv
    clear HL0
    by_cases hlt : j < x.l.length
    · obtain ⟨b, o, ea, h7, hyi0⟩ := HX.out.1.part j hlt
      have hk := HQ.out.kp
      have hbR : b ≠ R := HP.out.2.2.2.2.2.2 b (HP.out.2.2.2.1.own (fun e => by rw [e] at hlt; simp at hlt) _ ea)
      have h7' := h7.keptR hk hbR
      have hym : x.l[j] ∈ x.l := List.getElem_mem hlt
      obtain ⟨y, hye⟩ : ∃ y, x.l[j] = y := ⟨_, rfl⟩
      have hyb := HP.out.2.2.2.1.mem hym
      have hyi : y.In wr := by rw [← hye]; exact hyi0.keptR hk (hyb.mono HP.out.2.2.2.2.2.2)
      have hTi : T.In wr := HX.out.2.keptR hk (HP.out.2.2.2.2.1.mono HP.out.2.2.2.2.2.2)
      have hyl : y.Bl (· < w.heap.size) := by rw [← hye]; exact hyi0.bl
      have hTl : T.Bl (· < w.heap.size) := HX.out.2.bl
      rw [hye] at h7' hym hyb
      obtain ⟨d0, d1, d2, d3, d4, d5, d6⟩ := h7'
      have i1 : (j : Int) < (x.l.length : Int) := by omega
      have i0' : (0 : Int) ≤ (j : Int) := by omega
      have HEA : Hid (x.a = some ⟨b, o, none⟩) := ea
      rw [ea]
      obtain ⟨OX, hOX⟩ : ∃ O, O = Obj.cells #[.int .i64 y.k, .int .i64 y.n, .int .i64 y.t.k, .slice y.t.a y.t.l.length y.t.c, .int .i64 y.f.k, .slice y.f.a y.f.l.length y.f.c, .slice y.a y.l.length y.c] 27 := ⟨_, rfl⟩
      have hbA : Below wr.heap.size wr (wr.alloc OX) := (Below.refl _ _).alloc (Nat.le_refl _) _
      have hsz : ((x.l.take (j + 1)).map TT.sz).sum = ((x.l.take j).map TT.sz).sum + y.sz := by
        rw [take_snoc _ _ hlt, hye]
        simp
      have hszl : ((x.l.take (j + 1)).map TT.sz).sum ≤ (x.l.map TT.sz).sum := sum_take_le TT.sz x.l (j + 1)
      have hws : w.heap.size ≤ wr.heap.size := hk.size
      have hrow := HQ.out.row
      have HC : Hid (Calls Tryz.prog 34 #[.pointer (some ⟨R, 0, none⟩), .agg #[.int .i64 y.k, .int .i64 y.n, .int .i64 y.t.k, .slice y.t.a y.t.l.length y.t.c, .int .i64 y.f.k, .slice y.f.a y.f.l.length y.f.c, .slice y.a y.l.length y.c], .slice T.a T.l.length T.c] (wr.alloc OX) (RdPost (fun b => Q b ∧ some b ≠ v.ownBlock) R y (c + ((x.l.take j).map TT.sz).sum) (T.l.map Tr.ty) (wr.alloc OX))) := by
        refine HRD'.out y hym _ _ _ ⟨HP.out.1 y hym, HP.out.2.1, ⟨by have := HP.out.2.2.1; omega, by have := HP.out.2.2.1; omega⟩, hyi.below hbA, hTi.below hbA, HQ.out.cs.below hbA, ?_, ?_, ?_, fun b hb => HP.out.2.2.2.2.2.2 b hb.1⟩
        · exact (hyb.and hyl).mono fun b hb => ⟨hb.1, fun e => by have := (hrow.lt b e.symm).1; omega⟩
        · exact (HP.out.2.2.2.2.1.and hTl).mono fun b hb => ⟨hb.1, fun e => by have := (hrow.lt b e.symm).1; omega⟩
        · intro b hb
          simp only [World.size_alloc] at hb
          exact ⟨HP.out.2.2.2.2.2.1 b (by omega), fun e => by have := (hrow.lt b e.symm).2; omega⟩
      have HQA : Hid (Kept R none w (wr.alloc OX) ∧ RowR Q w.heap.size v rs (wr.alloc OX) ∧ rs.length = j ∧ (∀ r, r ∈ rs → 0 ≤ r.n) ∧ readL ((x.l.take j).map TT.tm) (T.l.map Tr.ty) c = some (rs.map tri)) := ⟨hk.trans (Kept.of_below hbA), hrow.below hbA, HQ.out.len, HQ.out.nn, HQ.out.rd⟩
      have HY : Hid (x.l[j] = y ∧ ((x.l.take (j + 1)).map TT.sz).sum = ((x.l.take j).map TT.sz).sum + y.sz) := ⟨hye, hsz⟩
      have hvs : rs.length ≤ 1000 := by have := HQ.out.len; omega
      clear h7 hyi0 hk hbR hym hyb hyi hTi hyl hTl hbA hsz hszl hws hrow HQ ea hye
      subst hOX
      go_wp2_with fail
      clear d0 d1 d2 d3 d4 d5 d6
      refine HC.out.mono ?_
      rintro e w2 ⟨hk2, ⟨hno, rfl⟩ | ⟨r, hyes, rfl, hn, hyi, hii, hyb, hib, hcs⟩⟩
      · have HN : Hid (RaPost Q R x.l c (T.l.map Tr.ty) w (.returned (.tuple #[.slice none 0 0, .bool false])) (w2.alloc (.cells #[.int .i64 0, .int .i64 0, .int .i64 0, .int .i64 0, .slice none 0 0, .int .i64 0, .slice none 0 0, .slice none 0 0, .int .i64 0, .slice none 0 0] 71))) := by
          refine ⟨(HQA.out.1.trans hk2).trans (Kept.of_below ((Below.refl _ _).alloc (Nat.le_refl _) _)), .inl ⟨?_, rfl⟩⟩
          have hsplit : x.l.map TT.tm = (x.l.take j).map TT.tm ++ y.tm :: (x.l.drop (j + 1)).map TT.tm := by
            conv => lhs; rw [← List.take_append_drop j x.l]
            rw [List.map_append, List.drop_eq_getElem_cons hlt, List.map_cons, HY.out.1]
          rw [hsplit]
          refine readL_stop ?_
          rw [sz_map]
          exact hno
        clear hno hk2 HC HQA
        go_wp2_with fail
        exact bodyPost_ret (v := .tuple #[.slice none 0 0, .bool false]) (by simp [results, Tryz.results64, go_sem]) rfl HN.out
      · obtain ⟨OR, hOR⟩ : ∃ O, O = Obj.cells #[.int .i64 r.n, .int .i64 r.y.k, .int .i64 r.y.n, .int .i64 r.y.t.k, .slice r.y.t.a r.y.t.l.length r.y.t.c, .int .i64 r.y.f.k, .slice r.y.f.a r.y.f.l.length r.y.f.c, .slice r.y.a r.y.l.length r.y.c, .int .i64 r.i.k, .slice r.i.a r.i.l.length r.i.c] 71 := ⟨_, rfl⟩
        have hbR : Below w2.heap.size w2 (w2.alloc OR) := (Below.refl _ _).alloc (Nat.le_refl _) _
        have hrow2 : RowR Q w.heap.size v rs (w2.alloc OR) := (HQA.out.2.1.kept hk2 hRl HP.out.2.2.2.2.2.2).below hbR
        obtain ⟨N, hN⟩ : ∃ N, rs.length = N := ⟨_, rfl⟩
        obtain ⟨xs, hxs⟩ : ∃ xs, cells10 rs = xs := ⟨_, rfl⟩
        have uo : (w2.alloc OR).ownsRow w.heap.size 71 10 v N xs := by rw [← hN, ← hxs]; exact hrow2.own
        have hnew := heap_alloc_new (w2.alloc OR) OR
        simp only [World.size_alloc] at hnew
        have HW : Hid (Kept R none w (w2.alloc OR) ∧ RowR Q w.heap.size v rs (w2.alloc OR) ∧ r.y.In (w2.alloc OR) ∧ r.i.In (w2.alloc OR) ∧ CS R (c + ((x.l.take j).map TT.sz).sum + y.sz) (w2.alloc OR)) := ⟨(HQA.out.1.trans hk2).trans (Kept.of_below hbR), hrow2, hyi.below hbR, hii.below hbR, hcs.below hbR⟩
        have HB : Hid (r.y.Bl (fun b => Q b ∧ some b ≠ v.ownBlock) ∧ r.i.Bl (fun b => Q b ∧ some b ≠ v.ownBlock) ∧ r.n = ((c + ((x.l.take j).map TT.sz).sum : Nat) : Int) ∧ readS y.tm (T.l.map Tr.ty) (c + ((x.l.take j).map TT.sz).sum) = some (r.y.tm, r.i.ty)) := ⟨hyb, hib, hn, hyes⟩
        have HNX : Hid (rs.length = N ∧ cells10 rs = xs) := ⟨hN, hxs⟩
        have hNb : N ≤ 1000 := by omega
        have hw2 : w.heap.size ≤ w2.heap.size := by have h1 := HQA.out.1.size; have h2 := hk2.size; omega
        clear hyes hn hyi hii hyb hib hcs hk2 HC hbR hrow2 hN hxs
        subst hOR
        go_wp2_with (at_builtin; refine wpList_append_lies _ rfl _ _ _ rfl w.heap.size 71 i0 _ 10 144 Tryz.underlying111 hi0 hz0 hz1 hz2 rfl (by omega) v N xs rfl (uo.alloc _) ⟨w2.heap.size + 1, 0, none⟩ 1 1 [.int .i64 r.n, .int .i64 r.y.k, .int .i64 r.y.n, .int .i64 r.y.t.k, .slice r.y.t.a r.y.t.l.length r.y.t.c, .int .i64 r.y.f.k, .slice r.y.f.a r.y.f.l.length r.y.f.c, .slice r.y.a r.y.l.length r.y.c, .int .i64 r.i.k, .slice r.i.a r.i.l.length r.i.c] rfl rfl (World.news_of_block (cs := #[.int .i64 r.n, .int .i64 r.y.k, .int .i64 r.y.n, .int .i64 r.y.t.k, .slice r.y.t.a r.y.t.l.length r.y.t.c, .int .i64 r.y.f.k, .slice r.y.f.a r.y.f.l.length r.y.f.c, .slice r.y.a r.y.l.length r.y.c, .int .i64 r.i.k, .slice r.i.a r.i.l.length r.i.c]) (t := 71) (fr := (0, 0)) hnew) (by simp [Value.oneCell']) (by omega) (by unfold maxLen; omega) (by omega) (by simp; omega) (w2.heap.size + 1 + 1) (by simp) ?_; intro gg cap1 w3 hown1 hgrow hat hlt3)
        have hov : ∀ q, v.ownBlock = some q → w.heap.size ≤ q := fun q hq => (uo.lt q hq).1
        obtain ⟨OR, hOR⟩ : ∃ O, O = Obj.cells #[.int .i64 r.n, .int .i64 r.y.k, .int .i64 r.y.n, .int .i64 r.y.t.k, .slice r.y.t.a r.y.t.l.length r.y.t.c, .int .i64 r.y.f.k, .slice r.y.f.a r.y.f.l.length r.y.f.c, .slice r.y.a r.y.l.length r.y.c, .int .i64 r.i.k, .slice r.i.a r.i.l.length r.i.c] 71 := ⟨_, rfl⟩
        rw [← hOR] at hgrow HW
        have HN : Hid (RaInv Q R x c T w (j + 1) (.slice (some ⟨gg, 0, none⟩) (N + 1) cap1) (rs ++ [r]) w3) := by
          obtain ⟨hkw, hrw, hyw, hiw, hcw⟩ := HW.out
          obtain ⟨eN, exs⟩ := HNX.out
          have hst := hrw.step (gg := gg) (cap1 := cap1) (w3 := w3) (X := OR) hyw hiw HB.out.1 HB.out.2.1 (by rw [eN, exs, cells10_one]; exact hown1) hgrow (by simpa using hat)
          have hR2 : R < (w2.alloc OR).heap.size := hcw.lt
          have hRv : some R ≠ v.ownBlock := fun e => by have := hov R e.symm; omega
          have hs := hgrow.size
          simp only [World.size_alloc] at hs hR2
          have hk3 : Kept R none w w3 := by
            refine ⟨(hgrow.os.trans rfl).trans hkw.os, (hgrow.tape.trans rfl).trans hkw.tape, (hgrow.output.trans rfl).trans hkw.output, by omega, fun q hq hqR hq2 => ?_⟩
            exact (hst.2 q (by simp; omega) (fun e => by have := hov q e.symm; omega)).trans (hkw.block q hq hqR hq2)
          have hc3 : CS R (c + ((x.l.take j).map TT.sz).sum + y.sz) w3 :=
            ⟨(World.cell?_of_block (a := ⟨R, 0, none⟩) (hst.2 R (by simp; omega) hRv)).trans hcw.c, (World.frozen?_of_block (a := ⟨R, 0, none⟩) (hst.2 R (by simp; omega) hRv)).trans hcw.f⟩
          have hst1 := hst.1
          rw [eN] at hst1
          refine ⟨hk3, hst1, by rw [List.length_append, HQA.out.2.2.1]; rfl, fun q hq => ?_, ?_, ?_⟩
          · rcases List.mem_append.1 hq with hq | hq
            · exact HQA.out.2.2.2.1 q hq
            · rcases List.mem_singleton.1 hq with rfl
              rw [HB.out.2.2.1]; omega
          · rw [take_snoc _ _ hlt, HY.out.1, List.map_append, List.map_append]
            have := readL_snoc HQA.out.2.2.2.2 (by rw [sz_map]; exact HB.out.2.2.2)
            rw [sz_map] at this
            have e : tri r = (c + ((x.l.take j).map TT.sz).sum, r.y.tm, r.i.ty) := by
              unfold tri
              rw [HB.out.2.2.1]
              rfl
            simpa [e] using this
          · rw [HY.out.2, ← Nat.add_assoc]
            exact hc3
        clear hown1 hgrow hat hlt3 hov HW uo hnew hOR HB HQA HNX
        go_wp2_with fail
        rw [← HEA.out]
        go_roundg (x.l.length - (j + 1))
        case measure => omega
        case rel => exact ⟨j + 1, _, rs ++ [r], by omega, by go_num, rfl, HN⟩
    · have hje : j = x.l.length := by omega
      have HN : Hid (∃ a cap, v = .slice a rs.length cap ∧ RaPost Q R x.l c (T.l.map Tr.ty) w (.returned (.tuple #[v, .bool true])) wr) := by
        obtain ⟨a, cap, hv, hrl⟩ := HQ.out.row.list
        refine ⟨a, cap, hv, HQ.out.kp, .inr ⟨rs, a, cap, ?_, by rw [hv], HQ.out.nn, hrl, fun r hr => ⟨(HQ.out.row.ins r hr).2.2.1.mono fun b hb => hb.1, (HQ.out.row.ins r hr).2.2.2.mono fun b hb => hb.1⟩, ?_⟩⟩
        · have := HQ.out.rd
          rwa [List.take_of_length_le (by omega)] at this
        · have := HQ.out.cs
          rwa [List.take_of_length_le (by omega)] at this
      obtain ⟨a, cap, rfl, hpost⟩ := HN.out
      have HF : Hid (RaPost Q R x.l c (T.l.map Tr.ty) w (.returned (.tuple #[.slice a rs.length cap, .bool true])) wr) := hpost
      clear HQ HN hpost
      go_wp2_with fail
      exact bodyPost_ret (v := .tuple #[.slice a rs.length cap, .bool true]) (by simp [results, Tryz.results64, go_sem]) rfl HF.out
end Go.Proofs.YtnddkmccagiclaaGreatDoor
