/-
  What the calls of term.alikeAtTop and term.Same answer at two terms that are alike.
-/
import Derived.Test.YtnddkmccagiclabGreatDoorLot59e900709f
import Derived.Test.YtnddkmccagiclabGreatDoorLot2ebbd2cd4c
import Derived.Test.YtnddkmccagiclabGreatDoorLot198e6357ab
import Derived.Test.YtnddkmccagiclabGreatDoorLotd76c694fc3
import Derived.Deep.LoopGhost
import Derived.Deep.RegionHeld3
import Derived.Deep.DeepCutAuto
namespace Go.Proofs.YtnddkmccagiclabGreatDoor
open Go.RowKit
theorem relY_refl : ∀ t : Ty, relY escSame t t = true := by
  intro t
  induction t using Ty.ind with
  | h k l ih =>
    rw [relY_mk]
    simp only [escSame, Bool.false_or, beq_self_eq_true, Bool.true_and]
    exact relL_all escSame l l rfl fun j h _ => ih _ (List.getElem_mem h)
/-- Its types are of at most a thousand levels. -/
def TT.tok : TT → Prop
  | ⟨_, _, t, f, _, _, l⟩ => (t.hgt ≤ 1000 ∧ t.sm) ∧ (f.hgt ≤ 1000 ∧ f.sm) ∧ ∀ x, x ∈ l → x.tok
theorem TT.tok_mk {k n : Int} {t f : Tr} {a : Option Addr} {c : Nat} {l : List TT} : (TT.mk k n t f a c l).tok ↔ (t.hgt ≤ 1000 ∧ t.sm) ∧ (f.hgt ≤ 1000 ∧ f.sm) ∧ ∀ x, x ∈ l → x.tok := by
  rw [TT.tok]
theorem TT.tok.t {x : TT} (h : x.tok) : x.t.hgt ≤ 1000 ∧ x.t.sm := by cases x; exact (TT.tok_mk.1 h).1
theorem TT.tok.f {x : TT} (h : x.tok) : x.f.hgt ≤ 1000 ∧ x.f.sm := by cases x; exact (TT.tok_mk.1 h).2.1
theorem TT.tok.mem {x y : TT} (h : x.tok) (hy : y ∈ x.l) : y.tok := by
  obtain ⟨k, n, t, f, a, c, l⟩ := x
  exact (TT.tok_mk.1 h).2.2 y hy
theorem ownsRow_low {w w' : World} {B e size n : Nat} {v : Value} {xs : List Value} (h : w.ownsRow B e size v n xs) (hb : Below w.heap.size w w') : w'.ownsRow B e size v n xs := by
  refine ⟨h.1, ?_⟩
  rcases h.2 with hn | ⟨g, cap, cur, hv, hb', hg, rest⟩
  · exact .inl hn
  · exact .inr ⟨g, cap, cur, hv, hb', (hb.block g (Array.getElem?_eq_some_iff.1 hg).1).trans hg, rest⟩
theorem sum_take_le (f : TT → Nat) : ∀ (l : List TT) (j : Nat), ((l.take j).map f).sum ≤ (l.map f).sum
  | [], j => by simp
  | x :: l, 0 => by simp
  | x :: l, j + 1 => by
    have := sum_take_le f l j
    simp only [List.take_succ_cons, List.map_cons, List.sum_cons]; omega
/-! ### The stack -/
def TT.sz : TT → Nat
  | ⟨_, _, _, _, _, _, l⟩ => (l.map fun t => t.sz).sum + 1
theorem TT.sz_mk (k n : Int) (t f : Tr) (a : Option Addr) (c : Nat) (l : List TT) : (TT.mk k n t f a c l).sz = (l.map TT.sz).sum + 1 := by
  rw [TT.sz]
theorem TT.sz_eq (x : TT) : x.sz = (x.l.map TT.sz).sum + 1 := by cases x; rw [TT.sz_mk]
theorem TT.sz_pos (x : TT) : 1 ≤ x.sz := by rw [TT.sz_eq]; omega
def cells2 (ps : List (TT × TT)) : List Value := ps.flatMap fun p => [.slice p.1.a p.1.l.length p.1.c, .slice p.2.a p.2.l.length p.2.c]
/-- Two lists of terms, each with each. -/
def Pr (B : Nat) (w : World) (p : TT × TT) : Prop := p.1.In w ∧ p.2.In w ∧ p.1.Bl (· < B) ∧ p.2.Bl (· < B) ∧ p.1.tok ∧ p.1.l.map TT.tm = p.2.l.map TT.tm
theorem Pr.low {B : Nat} {w w' : World} {p : TT × TT} (h : Pr B w p) (hb : Below B w w') : Pr B w' p :=
  ⟨h.1.congr (P := (· < B)) (fun b hb' o => hb.cell (p := ⟨b, o, none⟩) hb') h.2.2.1, h.2.1.congr (P := (· < B)) (fun b hb' o => hb.cell (p := ⟨b, o, none⟩) hb') h.2.2.2.1, h.2.2⟩
def mass (ps : List (TT × TT)) : Nat := (ps.map fun p => p.1.sz).sum
structure Stk (B : Nat) (v : Value) (ps : List (TT × TT)) (w : World) : Prop where
  own : w.ownsRow B 59 2 v ps.length (cells2 ps)
  ins : ∀ p, p ∈ ps → Pr B w p
theorem Stk.len {ps : List (TT × TT)} : ps.length ≤ mass ps := by
  induction ps with
  | nil => simp
  | cons p r ih => have := p.1.sz_pos; simp only [mass, List.map_cons, List.sum_cons, List.length_cons] at ih ⊢; omega
theorem tm_parts {x y : TT} (h : x.tm = y.tm) : x.k = y.k ∧ x.n = y.n ∧ x.l.length = y.l.length ∧ x.t.ty = y.t.ty ∧ x.f.ty = y.f.ty ∧ x.l.map TT.tm = y.l.map TT.tm := by
  have hk := congrArg Tm.k h
  have hn := congrArg Tm.n h
  have ht := congrArg Tm.t h
  have hf := congrArg Tm.f h
  have hl := congrArg Tm.l h
  rw [TT.tm_k, TT.tm_k] at hk
  rw [TT.tm_n, TT.tm_n] at hn
  rw [TT.tm_t, TT.tm_t] at ht
  rw [TT.tm_f, TT.tm_f] at hf
  rw [TT.tm_l, TT.tm_l] at hl
  exact ⟨hk, hn, by have := congrArg List.length hl; simpa using this, ht, hf, hl⟩
end Go.Proofs.YtnddkmccagiclabGreatDoor

/-
  Good terms: few levels of types, few terms; how many terms; the plain mathematics that several texts lean on; no program's run in it.
-/
namespace Go.Proofs.YtnddkmccagiclabGreatDoor
open Go.RowKit
theorem goodS_top {ar : Int} {n : Nat} {ins : Int} {x : Tm} {r r' : Nat} (h : goodS ar n ins x r = some r') : ∃ m q, n = m + 1 ∧ r = q + 1 ∧ okTop ar ins x = true ∧ bindL (fun y r' => goodS ar m (insOf x.k ins) y r') x.l q = some r' := by
  match n, r, h with
  | 0, _, h => simp [goodS] at h
  | m + 1, 0, h => simp [goodS] at h
  | m + 1, q + 1, h =>
    simp only [goodS] at h
    split at h
    · exact ⟨m, q, rfl, rfl, by assumption, h⟩
    · cases h
theorem okTop_parts {ar ins : Int} {x : Tm} (h : okTop ar ins x = true) : 1 ≤ x.k ∧ x.k ≤ 9 ∧ x.l.length = partsOf x.k ∧ okTypes x.k x.t x.f = true ∧ okNum ar ins x.k x.n = true := by
  simp only [okTop, Bool.and_eq_true, decide_eq_true_eq, beq_iff_eq] at h
  exact ⟨h.1.1.1, h.1.1.2, h.1.2, h.2.1, h.2.2⟩
theorem isAny_eq {t : Ty} (h : isAnyY t = true) : t = anyY := by
  obtain ⟨k, l⟩ := t
  simp only [isAnyY, anyY, relY_mk, escSame, Bool.false_or, Bool.and_eq_true, beq_iff_eq] at h
  obtain ⟨rfl, h⟩ := h
  cases l with
  | nil => rfl
  | cons x r => simp [relL] at h
theorem any_tok {t : Tr} (h : isAnyY t.ty = true) : t.hgt ≤ 1000 ∧ t.sm := by
  have e := isAny_eq h
  obtain ⟨k, a, c, l⟩ := t
  rw [Tr.ty_mk] at e
  have hl : l = [] := by
    have := congrArg Ty.l e
    simpa [anyY] using this
  subst hl
  refine ⟨?_, Tr.sm_mk.2 ⟨by simp, fun t h => by cases h⟩⟩
  rw [Tr.hgt_mk]; simp
theorem bindL_all {f : TT → Nat → Option Nat} (hf : ∀ y q q', f y q = some q' → y.tok ∧ y.sz + q' = q) : ∀ (l : List TT) (r r' : Nat), bindL f l r = some r' → (∀ y, y ∈ l → y.tok) ∧ (l.map TT.sz).sum + r' = r
  | [], r, r', h => by simp [bindL] at h; exact ⟨(fun y hy => by cases hy), by simpa using h.symm⟩
  | x :: l, r, r', h => by
    simp only [bindL] at h
    cases hq : f x r with
    | none => rw [hq] at h; cases h
    | some q =>
      rw [hq] at h
      have h1 := hf x r q hq
      have h2 := bindL_all hf l q r' h
      refine ⟨fun y hy => ?_, ?_⟩
      · rcases List.mem_cons.1 hy with rfl | hy
        · exact h1.1
        · exact h2.1 y hy
      · simp only [List.map_cons, List.sum_cons]; omega
/-- A good term has types of few levels, and as many terms as the room that it took. -/
theorem goodS_tok (ar : Int) : ∀ (n : Nat) (ins : Int) (x : TT) (r r' : Nat), goodS ar n ins x.tm r = some r' → x.tok ∧ x.sz + r' = r
  | 0, _, _, _, _, h => by simp [goodS] at h
  | n + 1, ins, x, r, r', h => by
    obtain ⟨m, q, hm, rfl, hok, hb⟩ := goodS_top h
    obtain rfl : n = m := by omega
    obtain ⟨_, _, _, hty, _⟩ := okTop_parts hok
    rw [TT.tm_l, TT.tm_k, bindL_map] at hb
    have hall := bindL_all (fun y q q' h => goodS_tok ar n _ y q q' h) x.l q r' hb
    rw [TT.tm_t, TT.tm_f, TT.tm_k] at hty
    simp only [okTypes, Bool.and_eq_true] at hty
    have ht : x.t.hgt ≤ 1000 ∧ x.t.sm := by
      by_cases hk : tells x.k = true
      · have := hty.2
        rw [hk, if_pos rfl, ← goodT_eq] at this
        exact ⟨Nat.le_trans (Tr.hgt_good 4 _ this) (by omega), Tr.sm_good 4 _ this⟩
      · have hk' : tells x.k = false := by simpa using hk
        have := hty.2
        rw [hk', if_neg (by simp)] at this
        exact any_tok this
    have hs := x.sz_eq
    refine ⟨?_, by omega⟩
    obtain ⟨k, n', t, f, a, c, l⟩ := x
    exact TT.tok_mk.2 ⟨ht, any_tok hty.1, hall.1⟩
theorem goodM_tok {ar : Int} {x : TT} (h : goodM ar x.tm = true) : x.tok ∧ x.sz ≤ 40 := by
  obtain ⟨r', hr⟩ := Option.isSome_iff_exists.1 h
  have := goodS_tok ar 40 0 x 40 r' hr
  exact ⟨this.1, by omega⟩
def Tm.sz : Tm → Nat
  | ⟨_, _, _, _, l⟩ => (l.map fun t => t.sz).sum + 1
theorem Tm.sz_mk (k n : Int) (t f : Ty) (l : List Tm) : (Tm.mk k n t f l).sz = (l.map Tm.sz).sum + 1 := by
  rw [Tm.sz]
theorem TT.sz_tm (x : TT) : x.sz = x.tm.sz := by
  induction x using TT.ind with
  | h k n t f a c l ih =>
    rw [TT.tm_mk, TT.sz_mk, Tm.sz_mk, List.map_map]
    have : l.map TT.sz = l.map (Tm.sz ∘ TT.tm) := List.map_congr_left fun x hx => ih x hx
    rw [this]
end Go.Proofs.YtnddkmccagiclabGreatDoor

/-
  What check's Check makes of a term, in plain mathematics: the term with its casts, and its type; that these types are good; no program in it.
-/
namespace Go.Proofs.YtnddkmccagiclabGreatDoor
/-- The parts, cast to what they are used as. -/
def castL : List (Nat × Tm × Ty) → List Ty → List Tm
  | p :: r, u :: s => castY (p.1 : Int) p.2.1 p.2.2 u :: castL r s
  | _, _ => []
theorem castL_length : ∀ (ps : List (Nat × Tm × Ty)) (us : List Ty), ps.length = us.length → (castL ps us).length = ps.length
  | [], [], _ => rfl
  | p :: r, u :: s, h => by simp [castL, castL_length r s (by simpa using h)]
  | [], _ :: _, h => by simp at h
  | _ :: _, [], h => by simp at h
/-- What the functions around a term's parts take. -/
def takesIn (k : Int) (t : Ty) (takes : List Ty) : List Ty := if k = 7 then t :: takes else takes
/-- Each part's reading, by its number; none: one has none. -/
def mapR : (l : List Tm) → ((x : Tm) → x ∈ l → Nat → Option (Tm × Ty)) → Nat → Option (List (Nat × Tm × Ty))
  | [], _, _ => some []
  | x :: r, f, c => (f x List.mem_cons_self c).bind fun p => (mapR r (fun z h c => f z (List.mem_cons_of_mem _ h) c) (c + x.sz)).bind fun q => some ((c, p.1, p.2) :: q)
/-- The term with its casts, and its type. -/
def readS : Tm → List Ty → Nat → Option (Tm × Ty)
  | ⟨k, n, t, _, l⟩, takes, c =>
    (mapR l (fun x _ c => readS x (takesIn k t takes) c) (c + 1)).bind fun ps =>
      (ruleY k n t (ps.map fun p => p.2.2) (takesIn k t takes)).bind fun r =>
        if fitL (ps.map fun p => p.2.2) r.2 = true then some (⟨k, n, t, anyY, castL ps r.2⟩, r.1) else none
def readL : List Tm → List Ty → Nat → Option (List (Nat × Tm × Ty))
  | [], _, _ => some []
  | x :: r, takes, c => (readS x takes c).bind fun p => (readL r takes (c + x.sz)).bind fun q => some ((c, p.1, p.2) :: q)
theorem mapR_read (takes : List Ty) : ∀ (l : List Tm) (c : Nat), mapR l (fun x _ c => readS x takes c) c = readL l takes c
  | [], _ => rfl
  | x :: r, c => by simp only [mapR, readL, mapR_read takes r]
theorem readS_mk (k n : Int) (t f : Ty) (l : List Tm) (takes : List Ty) (c : Nat) : readS ⟨k, n, t, f, l⟩ takes c =
    (readL l (takesIn k t takes) (c + 1)).bind fun ps => (ruleY k n t (ps.map fun p => p.2.2) (takesIn k t takes)).bind fun r => if fitL (ps.map fun p => p.2.2) r.2 = true then some (⟨k, n, t, anyY, castL ps r.2⟩, r.1) else none := by
  rw [readS, mapR_read]
theorem readS_some {k n : Int} {t f : Ty} {l : List Tm} {takes : List Ty} {c : Nat} {y : Tm} {i : Ty} (h : readS ⟨k, n, t, f, l⟩ takes c = some (y, i)) :
    ∃ ps us, readL l (takesIn k t takes) (c + 1) = some ps ∧ ruleY k n t (ps.map fun p => p.2.2) (takesIn k t takes) = some (i, us) ∧ fitL (ps.map fun p => p.2.2) us = true ∧ y = ⟨k, n, t, anyY, castL ps us⟩ := by
  rw [readS_mk] at h
  cases h1 : readL l (takesIn k t takes) (c + 1) with
  | none => rw [h1] at h; cases h
  | some ps =>
    rw [h1] at h
    simp only [Option.bind_some] at h
    cases h2 : ruleY k n t (ps.map fun p => p.2.2) (takesIn k t takes) with
    | none => rw [h2] at h; cases h
    | some r =>
      rw [h2] at h
      simp only [Option.bind_some] at h
      split at h
      · rename_i h3
        cases h
        exact ⟨ps, r.2, rfl, h2, h3, rfl⟩
      · cases h
theorem readL_cons {x : Tm} {r : List Tm} {takes : List Ty} {c : Nat} {ps : List (Nat × Tm × Ty)} (h : readL (x :: r) takes c = some ps) : ∃ y i q, readS x takes c = some (y, i) ∧ readL r takes (c + x.sz) = some q ∧ ps = (c, y, i) :: q := by
  rw [readL] at h
  cases h1 : readS x takes c with
  | none => rw [h1] at h; cases h
  | some p =>
    rw [h1] at h
    simp only [Option.bind_some] at h
    cases h2 : readL r takes (c + x.sz) with
    | none => rw [h2] at h; cases h
    | some q =>
      rw [h2] at h
      simp only [Option.bind_some] at h
      cases h
      exact ⟨p.1, p.2, q, rfl, rfl, rfl⟩
theorem readL_length : ∀ (l : List Tm) (takes : List Ty) (c : Nat) (ps : List (Nat × Tm × Ty)), readL l takes c = some ps → ps.length = l.length
  | [], _, _, ps, h => by rw [readL] at h; cases h; rfl
  | x :: r, takes, c, ps, h => by
    obtain ⟨y, i, q, _, h2, rfl⟩ := readL_cons h
    simp [readL_length r takes _ q h2]
/-- What is true of each part's reading is true of all. -/
theorem readL_all {takes : List Ty} {Q : Tm → Nat → Tm → Ty → Prop} : ∀ (l : List Tm) (c : Nat) (ps : List (Nat × Tm × Ty)), readL l takes c = some ps → (∀ x, x ∈ l → ∀ c y i, readS x takes c = some (y, i) → Q x c y i) →
    ∀ j (h : j < ps.length) (h' : j < l.length), Q l[j] ps[j].1 ps[j].2.1 ps[j].2.2
  | [], c, ps, h, _, j, hj, h' => by simp at h'
  | x :: r, c, ps, h, hQ, j, hj, h' => by
    obtain ⟨y, i, q, h1, h2, rfl⟩ := readL_cons h
    match j with
    | 0 => exact hQ x (by simp) c y i h1
    | j + 1 => exact readL_all r _ q h2 (fun z hz => hQ z (by simp [hz])) j (by simpa using hj) (by simpa using h')
/-- All that is asked of a good term, and of its parts. -/
def okTm : Tm → Nat → Prop
  | ⟨k, n, t, f, l⟩, ins => okTop 0 (ins : Int) ⟨k, n, t, f, l⟩ = true ∧ ∀ x, x ∈ l → okTm x (if k = 7 then ins + 1 else ins)
theorem okTm_mk {k n : Int} {t f : Ty} {l : List Tm} {ins : Nat} : okTm ⟨k, n, t, f, l⟩ ins ↔ okTop 0 (ins : Int) ⟨k, n, t, f, l⟩ = true ∧ ∀ x, x ∈ l → okTm x (if k = 7 then ins + 1 else ins) := by
  rw [okTm]
theorem bindL_ok {f : Tm → Nat → Option Nat} {Q : Tm → Prop} (hf : ∀ y q q', f y q = some q' → Q y ∧ y.sz + q' = q) : ∀ (l : List Tm) (r r' : Nat), bindL f l r = some r' → (∀ y, y ∈ l → Q y) ∧ (l.map Tm.sz).sum + r' = r
  | [], r, r', h => by simp [bindL] at h; exact ⟨(fun y hy => by cases hy), by simpa using h.symm⟩
  | x :: l, r, r', h => by
    simp only [bindL] at h
    cases hq : f x r with
    | none => rw [hq] at h; cases h
    | some q =>
      rw [hq] at h
      have h1 := hf x r q hq
      have h2 := bindL_ok hf l q r' h
      refine ⟨fun y hy => ?_, by simp; omega⟩
      rcases List.mem_cons.1 hy with rfl | hy
      · exact h1.1
      · exact h2.1 y hy
theorem goodS_ok : ∀ (n : Nat) (ins : Nat) (x : Tm) (r r' : Nat), goodS 0 n (ins : Int) x r = some r' → okTm x ins ∧ x.sz + r' = r
  | 0, _, _, _, _, h => by simp [goodS] at h
  | _ + 1, _, _, 0, _, h => by simp [goodS] at h
  | n + 1, ins, ⟨k, m, t, f, l⟩, r + 1, r', h => by
    simp only [goodS] at h
    split at h
    · rename_i ht
      have hi : insOf k (ins : Int) = ((if k = 7 then ins + 1 else ins : Nat) : Int) := by
        unfold insOf; split <;> simp
      rw [hi] at h
      have h2 := bindL_ok (fun y q q' => goodS_ok n (if k = 7 then ins + 1 else ins) y q q') l r r' h
      exact ⟨okTm_mk.2 ⟨ht, h2.1⟩, by rw [Tm.sz_mk]; omega⟩
    · cases h
theorem goodM_ok {x : Tm} (h : goodM 0 x = true) : okTm x 0 ∧ x.sz ≤ 40 := by
  obtain ⟨r', hr⟩ := Option.isSome_iff_exists.1 h
  have := goodS_ok 40 0 x 40 r' hr
  exact ⟨this.1, by omega⟩
theorem goodY_more : ∀ (n m : Nat) (t : Ty), n ≤ m → goodY n t = true → goodY m t = true
  | 0, _, _, _, h => by simp [goodY] at h
  | n + 1, 0, _, hm, _ => by omega
  | n + 1, m + 1, t, hm, h => by
    rcases goodY_cases h with ⟨k, rfl, hk⟩ | ⟨x, y, rfl, hx, hy⟩
    · rcases hk with rfl | rfl | rfl <;> simp [goodY]
    · simp [goodY, goodY_more n m x (by omega) hx, goodY_more n m y (by omega) hy]
theorem goodY_any (n : Nat) : goodY (n + 1) ⟨0, []⟩ = true := by simp [goodY]
theorem goodY_num (n : Nat) : goodY (n + 1) ⟨1, []⟩ = true := by simp [goodY]
theorem goodY_truth (n : Nat) : goodY (n + 1) ⟨2, []⟩ = true := by simp [goodY]
/-- What okTop asks, one by one. -/
theorem okTop_all {k n : Int} {t f : Ty} {l : List Tm} {ins : Nat} (h : okTop 0 (ins : Int) ⟨k, n, t, f, l⟩ = true) :
    1 ≤ k ∧ k ≤ 9 ∧ l.length = partsOf k ∧ isAnyY f = true ∧ goodY 4 t = true ∧ (tells k = false → isAnyY t = true) ∧ (k = 1 → 0 ≤ n ∧ n < (ins : Int)) := by
  simp only [okTop, okTypes, Bool.and_eq_true, decide_eq_true_eq, beq_iff_eq] at h
  obtain ⟨⟨⟨h1, h2⟩, h3⟩, ⟨h4, h5⟩, h6⟩ := h
  refine ⟨h1, h2, h3, h4, ?_, fun hk => ?_, fun hk => ?_⟩
  · split at h5
    · exact h5
    · rw [isAny_eq h5]; exact goodY_any 3
  · rw [if_neg (by rw [hk]; simp)] at h5; exact h5
  · subst hk
    simp [okNum] at h6
    omega
theorem takesIn_length (k : Int) (t : Ty) (takes : List Ty) : (takesIn k t takes).length = if k = 7 then takes.length + 1 else takes.length := by
  unfold takesIn; split <;> simp
theorem takesIn_good {k : Int} {t : Ty} {takes : List Ty} (ht : goodY 4 t = true) (h : ∀ u, u ∈ takes → goodY 4 u = true) : ∀ u, u ∈ takesIn k t takes → goodY 4 u = true := by
  intro u hu
  unfold takesIn at hu
  split at hu
  · rcases List.mem_cons.1 hu with rfl | hu
    · exact ht
    · exact h u hu
  · exact h u hu
theorem getD_good {m : Nat} {l : List Ty} (h : ∀ u, u ∈ l → goodY m u = true) (hm : 1 ≤ m) (j : Nat) : goodY m (l.getD j ⟨0, []⟩) = true := by
  rw [List.getD_eq_getElem?_getD]
  cases hj : l[j]? with
  | none => obtain ⟨m, rfl⟩ : ∃ q, m = q + 1 := ⟨m - 1, by omega⟩; exact goodY_any m
  | some u => exact h u (List.mem_of_getElem? hj)
/-- The types of a rule are good, and there is one use for each part. -/
theorem rule_good {k n : Int} {t : Ty} {ps takes : List Ty} {i : Ty} {us : List Ty} (m : Nat) (hm : 4 ≤ m) (h1 : 1 ≤ k) (h9 : k ≤ 9) (hl : ps.length = partsOf k) (ht : goodY 4 t = true) (hT : ∀ u, u ∈ takes → goodY 4 u = true) (hp : ∀ u, u ∈ ps → goodY m u = true)
    (h : ruleY k n t ps takes = some (i, us)) : us.length = ps.length ∧ goodY (m + 1) i = true ∧ ∀ u, u ∈ us → goodY (m + 1) u = true := by
  have hk : k = 1 ∨ k = 2 ∨ k = 3 ∨ k = 4 ∨ k = 5 ∨ k = 6 ∨ k = 7 ∨ k = 8 ∨ k = 9 := by omega
  have up : ∀ u, goodY m u = true → goodY (m + 1) u = true := fun u => goodY_more m (m + 1) u (by omega)
  have up4 : ∀ u, goodY 4 u = true → goodY (m + 1) u = true := fun u => goodY_more 4 (m + 1) u (by omega)
  rcases hk with rfl | rfl | rfl | rfl | rfl | rfl | rfl | rfl | rfl
  · simp [ruleY] at h
    obtain ⟨rfl, rfl⟩ := h
    refine ⟨by rw [hl]; rfl, up4 _ ?_, fun u hu => by cases hu⟩
    have := getD_good hT (by omega) n.toNat
    simpa [List.getD_eq_getElem?_getD] using this
  · simp [ruleY] at h
    obtain ⟨rfl, rfl⟩ := h
    exact ⟨by rw [hl]; rfl, goodY_num _, fun u hu => by cases hu⟩
  · simp [ruleY] at h
    obtain ⟨rfl, rfl⟩ := h
    exact ⟨by rw [hl]; rfl, goodY_truth _, fun u hu => by cases hu⟩
  · simp [ruleY] at h
    obtain ⟨rfl, rfl⟩ := h
    exact ⟨by rw [hl]; rfl, goodY_num _, fun u hu => by simp at hu; subst hu; exact goodY_num _⟩
  · simp [ruleY] at h
    obtain ⟨rfl, rfl⟩ := h
    exact ⟨by rw [hl]; rfl, goodY_truth _, fun u hu => by simp at hu; subst hu; exact goodY_num _⟩
  · have h' : ifY ⟨2, []⟩ (ps.getD 1 ⟨0, []⟩) (ps.getD 2 ⟨0, []⟩) = some (i, us) := by simpa [ruleY] using h
    have g1 := getD_good hp (by omega) 1
    have g2 := getD_good hp (by omega) 2
    have gj := (join_facts m _ _ g1 g2).1
    unfold ifY at h'
    split at h'
    · cases h'
      refine ⟨by rw [hl]; rfl, up _ gj, fun u hu => ?_⟩
      simp only [List.mem_cons, List.not_mem_nil, or_false] at hu
      rcases hu with rfl | rfl | rfl
      · exact goodY_truth _
      · exact up _ gj
      · exact up _ gj
    · cases h'
  · have h' : i = ⟨3, [t, ps.getD 0 ⟨0, []⟩]⟩ ∧ us = ps := by
      have : some (Ty.mk 3 [t, ps.getD 0 ⟨0, []⟩], ps) = some (i, us) := by simpa [ruleY] using h
      cases this; exact ⟨rfl, rfl⟩
    obtain ⟨rfl, rfl⟩ := h'
    have g1 := getD_good hp (by omega) 0
    refine ⟨rfl, ?_, fun u hu => up _ (hp u hu)⟩
    rw [goodY, g1, goodY_more 4 m t (by omega) ht]; rfl
  · have h' : callY (ps.getD 0 ⟨0, []⟩) = some (i, us) := by simpa [ruleY] using h
    have g1 := getD_good hp (by omega) 0
    generalize ps.getD 0 ⟨0, []⟩ = q at h' g1
    obtain ⟨m, rfl⟩ : ∃ r, m = r + 1 := ⟨m - 1, by omega⟩
    rcases goodY_cases g1 with ⟨k, rfl, hk⟩ | ⟨x, y, rfl, hx, hy⟩
    · rcases hk with rfl | rfl | rfl
      · simp [callY] at h'
        obtain ⟨rfl, rfl⟩ := h'
        refine ⟨by rw [hl]; rfl, goodY_any _, fun u hu => ?_⟩
        simp only [List.mem_cons, List.not_mem_nil, or_false] at hu
        rcases hu with rfl | rfl
        · simp [goodY]
        · exact goodY_any _
      · simp [callY] at h'
      · simp [callY] at h'
    · simp [callY] at h'
      obtain ⟨rfl, rfl⟩ := h'
      refine ⟨by rw [hl]; rfl, goodY_more m _ _ (by omega) hy, fun u hu => ?_⟩
      simp only [List.mem_cons, List.not_mem_nil, or_false] at hu
      rcases hu with rfl | rfl
      · exact up _ g1
      · exact goodY_more m _ _ (by omega) hx
  · have h' : i = t ∧ us = [t] := by
      have : some (t, [t]) = some (i, us) := by simpa [ruleY] using h
      cases this; exact ⟨rfl, rfl⟩
    obtain ⟨rfl, rfl⟩ := h'
    exact ⟨by rw [hl]; rfl, up4 _ ht, fun u hu => by simp at hu; subst hu; exact up4 _ ht⟩
/-- A part has less nodes. -/
theorem sz_mem : ∀ (l : List Tm) (x : Tm), x ∈ l → x.sz ≤ (l.map Tm.sz).sum
  | [], _, h => by cases h
  | y :: r, x, h => by
    rcases List.mem_cons.1 h with rfl | h
    · simp
    · have := sz_mem r x h
      simp; omega
theorem Tm.sz_pos (x : Tm) : 1 ≤ x.sz := by cases x; rw [Tm.sz_mk]; omega
/-- The type of a good term is good. -/
theorem read_good : ∀ (x : Tm) (takes : List Ty) (c : Nat) (y : Tm) (i : Ty), okTm x takes.length → (∀ u, u ∈ takes → goodY 4 u = true) → readS x takes c = some (y, i) → goodY (x.sz + 4) i = true := by
  intro x
  induction x using Tm.ind with
  | h k n t f l ih =>
    intro takes c y i hok hT h
    obtain ⟨h0, h1⟩ := okTm_mk.1 hok
    obtain ⟨k1, k9, hl, _, ht, _, _⟩ := okTop_all h0
    obtain ⟨ps, us, e1, e2, _, _⟩ := readS_some h
    have hlen := readL_length _ _ _ _ e1
    have hp : ∀ u, u ∈ ps.map (fun p => p.2.2) → goodY ((l.map Tm.sz).sum + 4) u = true := by
      intro u hu
      obtain ⟨j, hj, rfl⟩ := List.getElem_of_mem hu
      have hj' : j < ps.length := by simpa using hj
      have := readL_all (Q := fun x _ _ i => goodY (x.sz + 4) i = true) l _ ps e1 (fun x hx c y i hr => ih x hx _ c y i (by rw [takesIn_length]; exact h1 x hx) (takesIn_good ht hT) hr) j hj' (by omega)
      have hs := sz_mem l l[j] (List.getElem_mem _)
      simpa using goodY_more _ ((l.map Tm.sz).sum + 4) _ (by omega) this
    have := rule_good ((l.map Tm.sz).sum + 4) (by omega) k1 k9 (by simpa using hlen.trans hl) ht (takesIn_good ht hT) hp e2
    rw [Tm.sz_mk]
    exact goodY_more _ _ _ (by omega) this.2.1
end Go.Proofs.YtnddkmccagiclabGreatDoor

/-
  Things are of the types that they were told to be; no run of the program in it.
-/
namespace Go.Proofs.YtnddkmccagiclabGreatDoor
open Go.RowKit
theorem castOf_tyN {f t : Ty} {o : Out} (hf : goodY 46 f = true) (ht : goodY 46 t = true) (h : relY escFits f t = true) (ho : o.k = 4) : tyC (castOf f t o) f t := tyC_new 100 46 f t o hf ht h ho (by split <;> omega)
theorem with_ty {U : Val} {g a : Option Ca} {s1 s2 t1 t2 : Ty} (h : tyV U (funY s1 s2)) (hg : tyC g t1 s1) (ha : tyC a s2 t2) : tyV (withV U g a) (funY t1 t2) := by
  rcases withV_or U g a with ⟨rfl, rfl, e⟩ | e
  · rw [e]
    rw [tyC_none] at hg ha
    rw [hg, ← ha]
    exact h
  · rw [e]
    exact tyV_accomp (c := ⟨false, out0, 3, out0, g, a, false⟩) h hg ha
theorem fun_of {t : Ty} (hg : goodY 46 t = true) (hk : t.k = 3) : ∃ a b, t = funY a b ∧ goodY 45 a = true ∧ goodY 45 b = true := by
  rcases goodY_cases hg with ⟨k, rfl, h⟩ | ⟨a, b, rfl, ha, hb⟩
  · simp only at hk; omega
  · exact ⟨a, b, rfl, ha, hb⟩
theorem pro_ty {R : Nat} {Q : Nat → Prop} {w : World} {h v : Th} (hw : h.wy = 2) (p : Pro R Q w h v) : tyV h.cv h.t.ty := by
  obtain ⟨t0, t1, ht, g1, g2⟩ := fun_of p.tg (by rw [Tr.ty_k]; exact p.tk)
  obtain ⟨f0, f1, hf, g3, g4⟩ := fun_of p.fg (by rw [Tr.ty_k]; exact p.fk)
  have hfit := p.fits
  rw [hf, ht, funY, funY, two _ _ _ _ _ rfl] at hfit
  obtain ⟨hfit0, hfit1⟩ : relY escFits f0 t0 = true ∧ relY escFits f1 t1 = true := by simpa using hfit
  have hfit0' : relY escFits t0 f0 = true := by rw [fits_sym 45 _ _ g1 g3]; exact hfit0
  have hU := p.ty
  rw [Th.cv_eq, hw, if_neg (by decide), if_pos rfl, p.inn, ht, hf]
  rw [hf] at hU
  exact with_ty hU (castOf_tyN (goodY_more 45 46 _ (by omega) g1) (goodY_more 45 46 _ (by omega) g3) hfit0' rfl) (castOf_tyN (goodY_more 45 46 _ (by omega) g4) (goodY_more 45 46 _ (by omega) g2) hfit1 rfl)
/-- Its value is of its type. -/
theorem Th.In.cty {m : Bool} {M R : Nat} {Q : Nat → Prop} {w : World} {h : Th} : h.In m M R Q w → h.ok → tyV h.cv h.t.ty ∧ tyV h.val h.tyo := by
  induction h using Th.ind with
  | h h ie ii =>
    intro hi ho
    obtain ⟨ht, hw⟩ := Th.ok_iff.1 ho
    have hcv : tyV h.cv h.t.ty := by
      rcases Th.In_iff.1 hi with ⟨h0, p⟩ | ⟨h1, c, he⟩ | ⟨h2, _, ⟨v, p⟩, _⟩
      · rw [Th.cv_eq, h0, if_neg (by decide), if_neg (by decide)]
        rcases hw with ⟨_, ⟨hk, e⟩ | ⟨hk, e⟩⟩ | ⟨h', _⟩ | ⟨h', _⟩
        · rw [hk, if_pos rfl, e]; exact tyV_mkNum _
        · rw [hk, if_neg (by decide), e]; exact tyV_mkTruth _
        · omega
        · omega
      · rw [Th.cv_eq, h1, if_pos rfl]
        rcases hw with ⟨h', _⟩ | ⟨_, ⟨A, B, e, hM⟩, hok⟩ | ⟨h', _⟩
        · omega
        · rw [e]
          refine tyV_mkFun hM ⟨by simp, fun j l l' => ?_⟩
          simp only [List.getElem_map]
          have hm : h.env[j]'(by simpa using l) ∈ h.env := List.getElem_mem _
          exact (ie _ hm (he _ hm) (hok _ hm)).2
        · omega
      · exact pro_ty h2 p
    refine ⟨hcv, ?_⟩
    unfold Th.val Th.tyo
    rcases ht with h0 | ⟨hs, hg⟩
    · rw [if_pos h0, if_pos h0]; exact hcv
    · rw [if_neg (by omega), if_neg (by omega)]
      exact tyV_mkKnown hs (hg ▸ hcv)
/-- A scope's values are of its types. -/
theorem Env.tys {m : Bool} {M R : Nat} {Q : Nat → Prop} {w : World} {ea : Option Addr} {E : List Th} (h : Env m M R Q w ea E) (ho : ∀ e, e ∈ E → e.ok) : tyE (E.map Th.val) (E.map Th.tyo) := by
  refine ⟨by simp, fun j l l' => ?_⟩
  simp only [List.getElem_map]
  have hm : E[j]'(by simpa using l) ∈ E := List.getElem_mem _
  exact ((h.ins _ hm).cty (ho _ hm)).2
/-- What a cast makes of a thing of the one type is of the other. -/
def caP (v : Th) (f t : Tr) (h : Th) : Prop := v.ok → v.tyo = f.ty → h.ok ∧ h.tyo = t.ty
/-- Which kind of thing, and what it stands for. -/
theorem Th.In.kinds {m : Bool} {M R : Nat} {Q : Nat → Prop} {w : World} {h : Th} (hi : h.In m M R Q w) : (h.tag ≠ 0 ∧ h.val.k = 5) ∨ (h.tag = 0 ∧ h.val = h.cv ∧ ((h.k = 1 ∧ h.val = numV h.n) ∨ (h.k = 2 ∧ h.val = truthV h.n) ∨ (h.k = 3 ∧ (h.val.k = 3 ∨ h.val.k = 4) ∧ (h.wy = 1 ∨ h.wy = 2)))) := by
  by_cases h0 : h.tag = 0
  · refine .inr ⟨h0, by unfold Th.val; rw [if_pos h0], ?_⟩
    have e : h.val = h.cv := by unfold Th.val; rw [if_pos h0]
    rw [e]
    rcases Th.In_iff.1 hi with ⟨hw0, p⟩ | ⟨h1, c, he⟩ | ⟨h2, _, ⟨v, p⟩, _⟩
    · rw [Th.cv_eq, hw0, if_neg (by decide), if_neg (by decide)]
      rcases p.k with hk | hk
      · rw [hk, if_pos rfl]; exact .inl ⟨rfl, rfl⟩
      · rw [hk, if_neg (by decide)]; exact .inr (.inl ⟨rfl, rfl⟩)
    · refine .inr (.inr ⟨c.k, .inl ?_, .inl h1⟩)
      rw [Th.cv_eq, h1, if_pos rfl]
      rfl
    · have := pro_ty h2 p
      obtain ⟨t0, t1, ht, _, _⟩ := fun_of p.tg (by rw [Tr.ty_k]; exact p.tk)
      rw [ht] at this
      refine .inr (.inr ⟨p.k, ?_, .inr h2⟩)
      rcases tyV_fun this with ⟨h, _⟩ | ⟨h, _⟩
      · exact .inl h
      · exact .inr h
  · refine .inl ⟨h0, ?_⟩
    unfold Th.val
    rw [if_neg h0]
    rfl
end Go.Proofs.YtnddkmccagiclabGreatDoor

/-
  What the call of chaperoneref.SameType answers at two trees that lie in memory.
-/
namespace Go.Proofs.YtnddkmccagiclabGreatDoor
open Go.RowKit
set_option maxHeartbeats 1000000 in
theorem sameType_step (n : Nat) (x y : Tr) (w : World) (hx : x.In w) (hy : y.In w) (hh : x.hgt ≤ n + 1) (hs : x.sm)
    (ih : Hid (∀ (x y : Tr) (w : World), x.In w → y.In w → x.hgt ≤ n → x.sm → Calls Tryz.prog 39 #[.agg #[.int .i64 x.k, .slice x.a x.l.length x.c], .agg #[.int .i64 y.k, .slice y.a y.l.length y.c]] w fun e w' => e = .returned (.bool (relY escSame x.ty y.ty)) ∧ Below w.heap.size w w')) :
    Calls Tryz.prog 39 #[.agg #[.int .i64 x.k, .slice x.a x.l.length x.c], .agg #[.int .i64 y.k, .slice y.a y.l.length y.c]] w fun e w' => e = .returned (.bool (relY escSame x.ty y.ty)) ∧ Below w.heap.size w w' := by
  have hlen := hs.len
  obtain ⟨tk, htk⟩ : ∃ b, (x.k == y.k) = b := ⟨_, rfl⟩
  obtain ⟨tl, htl⟩ : ∃ b, ((x.l.length : Int) == (y.l.length : Int)) = b := ⟨_, rfl⟩
  have HK : Hid ((x.k == y.k) = tk) := htk
  have HL : Hid (((x.l.length : Int) == (y.l.length : Int)) = tl) := htl
  have p1 : ((w.alloc (.cells #[.int .i64 x.k, .slice x.a x.l.length x.c] 24)).alloc (.cells #[.int .i64 y.k, .slice y.a y.l.length y.c] 24)).cell? ⟨w.heap.size, 1, none⟩ = some (.slice x.a x.l.length x.c) := by simp [go_sem]
  have p3 : ((w.alloc (.cells #[.int .i64 x.k, .slice x.a x.l.length x.c] 24)).alloc (.cells #[.int .i64 y.k, .slice y.a y.l.length y.c] 24)).cell? ⟨w.heap.size + 1, 1, none⟩ = some (.slice y.a y.l.length y.c) := by simp [go_sem]
  have HP : Hid (((w.alloc (.cells #[.int .i64 x.k, .slice x.a x.l.length x.c] 24)).alloc (.cells #[.int .i64 y.k, .slice y.a y.l.length y.c] 24)).cell? ⟨w.heap.size, 1, none⟩ = some (.slice x.a x.l.length x.c) ∧ ((w.alloc (.cells #[.int .i64 x.k, .slice x.a x.l.length x.c] 24)).alloc (.cells #[.int .i64 y.k, .slice y.a y.l.length y.c] 24)).cell? ⟨w.heap.size + 1, 1, none⟩ = some (.slice y.a y.l.length y.c)) := ⟨p1, p3⟩
  clear p1 p3
  have hb0 : Below w.heap.size w ((w.alloc (.cells #[.int .i64 x.k, .slice x.a x.l.length x.c] 24)).alloc (.cells #[.int .i64 y.k, .slice y.a y.l.length y.c] 24)) := ((Below.refl _ _).alloc (Nat.le_refl _) _).alloc (by simp) _
  cases tk
  · have HT : Hid ((x.k == y.k && (x.l.length : Int) == (y.l.length : Int)) = false) := by show _ = false; rw [HK.out]; rfl
    clear htl HL HK
    go_enter Tryz.func39, Tryz.ntmps39
    go_wp2_with fail
    go_loopw [5, 6] (fun b i wr => b = .bool false ∧ i = .int .i64 0 ∧ wr = ((w.alloc (.cells #[.int .i64 x.k, .slice x.a x.l.length x.c] 24)).alloc (.cells #[.int .i64 y.k, .slice y.a y.l.length y.c] 24))) (fun _ _ _ => 0)
    case atStart => exact ⟨rfl, rfl, rfl⟩
    case round =>
      obtain ⟨rfl, rfl, rfl⟩ := hrel
      go_wp2_with fail
      go_ret
      exact ⟨by rw [relY_top escSame x y rfl HT.out]; rfl, hb0⟩
  · cases tl
    · have HT : Hid ((x.k == y.k && (x.l.length : Int) == (y.l.length : Int)) = false) := by show _ = false; rw [HK.out, HL.out]; rfl
      clear HL HK
      go_enter Tryz.func39, Tryz.ntmps39
      go_wp2_with fail
      go_loopw [5, 6] (fun b i wr => b = .bool false ∧ i = .int .i64 0 ∧ wr = ((w.alloc (.cells #[.int .i64 x.k, .slice x.a x.l.length x.c] 24)).alloc (.cells #[.int .i64 y.k, .slice y.a y.l.length y.c] 24))) (fun _ _ _ => 0)
      case atStart => exact ⟨rfl, rfl, rfl⟩
      case round =>
        obtain ⟨rfl, rfl, rfl⟩ := hrel
        go_wp2_with fail
        go_ret
        exact ⟨by rw [relY_top escSame x y rfl HT.out]; rfl, hb0⟩
    · have hk : Hid (x.k = y.k) := by show x.k = y.k; have h := HK.out; simpa using h
      have hl : Hid (x.l.length = y.l.length) := by have h := HL.out; simp at h; exact Int.ofNat.inj h
      clear HL HK
      go_enter Tryz.func39, Tryz.ntmps39
      go_wp2_with fail
      clear htk htl
      go_loopg [5, 6] (x.l.length + 1) (fun g b i wr => ∃ (j : Nat) (c : Bool), j ≤ x.l.length ∧ g = (if c then x.l.length - j + 1 else 0) ∧ b = .bool c ∧ i = .int .i64 (j : Int) ∧ Below w.heap.size w wr ∧ wr.cell? ⟨w.heap.size, 1, none⟩ = some (.slice x.a x.l.length x.c) ∧ wr.cell? ⟨w.heap.size + 1, 1, none⟩ = some (.slice y.a y.l.length y.c) ∧
        Hid (c = true → ∀ q (h : q < x.l.length) (h' : q < y.l.length), q < j → relY escSame x.l[q].ty y.l[q].ty = true) ∧ Hid (c = false → relY escSame x.ty y.ty = false))
      case atStart => exact ⟨0, true, Nat.zero_le _, rfl, rfl, rfl, hb0, HP.out.1, HP.out.2, fun _ q _ _ h => absurd h (by omega), fun h => by cases h⟩
      case round =>
        obtain ⟨j, c, hj, hg, rfl, rfl, hbwr, p1, p3, HA, HB⟩ := hrel
        cases c
        · have HB1 : Hid (relY escSame x.ty y.ty = false) := HB.out rfl
          clear HA HB hg
          go_wp2_with fail
          go_ret
          exact ⟨by rw [HB1.out]; rfl, hbwr⟩
        · have HA1 : Hid (∀ q (h : q < x.l.length) (h' : q < y.l.length), q < j → relY escSame x.l[q].ty y.l[q].ty = true) := HA.out rfl
          clear HA HB
          by_cases hlt : j < x.l.length
          · have hlt' : j < y.l.length := hl.out ▸ hlt
            obtain ⟨b, o, ea, x0, x1, hxj⟩ := hx.part j hlt
            obtain ⟨b', o', eb, y0, y1, hyj⟩ := hy.part j hlt'
            have q1 : wr.cell? ⟨w.heap.size, 1, none⟩ = some (.slice (some ⟨b, o, none⟩) x.l.length x.c) := by rw [← ea]; exact p1
            have q3 : wr.cell? ⟨w.heap.size + 1, 1, none⟩ = some (.slice (some ⟨b', o', none⟩) y.l.length y.c) := by rw [← eb]; exact p3
            have HPP : Hid (wr.cell? ⟨w.heap.size, 1, none⟩ = some (.slice x.a x.l.length x.c) ∧ wr.cell? ⟨w.heap.size + 1, 1, none⟩ = some (.slice y.a y.l.length y.c)) := ⟨p1, p3⟩
            replace x0 := cell_later hbwr x0
            replace x1 := cell_later hbwr x1
            replace y0 := cell_later hbwr y0
            replace y1 := cell_later hbwr y1
            have i1 : (j : Int) < (x.l.length : Int) := by omega
            have i2 : (j : Int) < (y.l.length : Int) := by omega
            have i0 : (0 : Int) ≤ (j : Int) := by omega
            obtain ⟨r, hr⟩ : ∃ r, relY escSame x.l[j].ty y.l[j].ty = r := ⟨_, rfl⟩
            have HC : Hid (∀ (w : World), x.l[j].In w → y.l[j].In w → Calls Tryz.prog 39 #[.agg #[.int .i64 x.l[j].k, .slice x.l[j].a x.l[j].l.length x.l[j].c], .agg #[.int .i64 y.l[j].k, .slice y.l[j].a y.l[j].l.length y.l[j].c]] w fun e w' => e = .returned (.bool r) ∧ Below w.heap.size w w') := by
              intro w h1 h2
              have := ih.out x.l[j] y.l[j] w h1 h2 (Tr.hgt_part hh j hlt) (hs.part j hlt)
              rw [hr] at this
              exact this
            have HR : Hid (relY escSame x.l[j].ty y.l[j].ty = r) := hr
            have HG : Hid (gk = if true then x.l.length - j + 1 else 0) := hg
            clear hr p1 p3 ea eb hx hy hg
            go_wp2_with fail
            go_region_held3 (fun w' => w'.cell? ⟨w.heap.size, 1, none⟩ = some (.slice (some ⟨b, o, none⟩) x.l.length x.c) ∧ w'.cell? ⟨w.heap.size + 1, 1, none⟩ = some (.slice (some ⟨b', o', none⟩) y.l.length y.c) ∧ w'.cell? ⟨b, o + j * 2, none⟩ = some (.int .i64 x.l[j].k) ∧ w'.cell? ⟨b, o + j * 2 + 1, none⟩ = some (.slice x.l[j].a x.l[j].l.length x.l[j].c) ∧ w'.cell? ⟨b', o' + j * 2, none⟩ = some (.int .i64 y.l[j].k) ∧ w'.cell? ⟨b', o' + j * 2 + 1, none⟩ = some (.slice y.l[j].a y.l[j].l.length y.l[j].c))
              (first | exact ⟨cell_later hb2 q1, cell_later hb2 q3, cell_later hb2 x0, cell_later hb2 x1, cell_later hb2 y0, cell_later hb2 y1⟩ | go_keep)
              (first | (go_at_call 39; refine (HC.out _ (hxj.below hbwr.drew) (hyj.below hbwr.drew)).mono ?_; rintro e w2 ⟨rfl, hb2⟩))
            have hbr2 : Below w.heap.size w w2 := hbwr.drew.trans (hb2.mono hbwr.size)
            have s1 := cell_later hb2 HPP.out.1
            have s3 := cell_later hb2 HPP.out.2
            clear hb2 q1 q3 x0 x1 y0 y1 HC HPP
            go_wp2_with fail
            go_roundg (if r then x.l.length - (j + 1) + 1 else 0)
            case measure => rw [HG.out]; cases r <;> simp <;> omega
            case rel =>
              refine ⟨j + 1, r, by omega, rfl, rfl, by go_num, hbr2, s1, s3, fun h q h1 h2 hq => ?_, fun h => ?_⟩
              · by_cases e : q = j
                · subst e; rw [HR.out, h]
                · exact HA1.out q h1 h2 (by omega)
              · exact relY_part_not escSame x y rfl j hlt hlt' (by rw [HR.out, h])
          · go_wp2_with fail
            go_ret
            refine ⟨?_, hbwr⟩
            rw [relY_parts escSame x y hk.out hl.out fun q h h' => HA1.out q h h' (by omega)]
            rfl
/-- chaperoneref.SameType. -/
theorem sameType_any (n : Nat) : ∀ (x y : Tr) (w : World), x.In w → y.In w → x.hgt ≤ n → x.sm → Calls Tryz.prog 39 #[.agg #[.int .i64 x.k, .slice x.a x.l.length x.c], .agg #[.int .i64 y.k, .slice y.a y.l.length y.c]] w fun e w' => e = .returned (.bool (relY escSame x.ty y.ty)) ∧ Below w.heap.size w w' := by
  induction n with
  | zero =>
    intro x y w _ _ h
    have := x.hgt_pos
    omega
  | succ n ih =>
    intro x y w hx hy h hs
    exact sameType_step n x y w hx hy h hs (fun x y w hx hy h hs => ih x y w hx hy h hs)
end Go.Proofs.YtnddkmccagiclabGreatDoor

/-
  What the call of ref's cast leaves; the variables that it makes ahead; no run of the program in it.
-/
namespace Go.Proofs.YtnddkmccagiclabGreatDoor
open Go.RowKit
/-- What a cast leaves: the run has ended, or the thing that was made. -/
def CaPost (M R n : Nat) (Q : Nat → Prop) (w : World) (o : Out × Val) (P : Th → Prop) (e : Ending) (w' : World) : Prop :=
  Kept R none w w' ∧ ((o.1.k ≠ 0 ∧ e = .returned noV ∧ Wl R n o.1 w') ∨ (o.1 = out0 ∧ Wl R n out0 w' ∧ ∃ h : Th, e = .returned h.ag ∧ h.In true M R Q w' ∧ h.val = o.2 ∧ P h))
/-- A type's two cells. -/
structure At2 (w : World) (b o : Nat) (t : Tr) : Prop where
  c0 : w.cell? ⟨b, o, none⟩ = some (.int .i64 t.k)
  c1 : w.cell? ⟨b, o + 1, none⟩ = some (.slice t.a t.l.length t.c)
/-- Behind the entry of cast: the boxes. -/
structure LB (R : Nat) (v : Th) (f t : Tr) (no : Int) (back : Bool) (w W : World) : Prop where
  sz : w.heap.size + 6 < W.heap.size
  w0 : W.cell? ⟨w.heap.size, 0, none⟩ = some (.pointer (some ⟨R, 0, none⟩))
  v4 : At4 W (w.heap.size + 1) 0 v
  f2 : At2 W (w.heap.size + 1 + 1) 0 f
  t2 : At2 W (w.heap.size + 1 + 1 + 1) 0 t
  n0 : W.cell? ⟨w.heap.size + 1 + 1 + 1 + 1, 0, none⟩ = some (.int .i64 no)
  b0 : W.cell? ⟨w.heap.size + 1 + 1 + 1 + 1 + 1, 0, none⟩ = some (.bool back)
  r : Rb W (w.heap.size + 1 + 1 + 1 + 1 + 1 + 1)
  z : ∀ i, W.frozen? ⟨w.heap.size + 1, i, none⟩ = false
/-- The world behind the entry. -/
def lbW (R : Nat) (v : Th) (f t : Tr) (no : Int) (back : Bool) (w : World) : World :=
  ((((((w.alloc (.cells #[.pointer (some ⟨R, 0, none⟩)] 98)).alloc (.cells #[.int .i64 v.k, .int .i64 v.n, v.fn, .int .i64 v.tag] 103)).alloc (.cells #[.int .i64 f.k, .slice f.a f.l.length f.c] 24)).alloc (.cells #[.int .i64 t.k, .slice t.a t.l.length t.c] 24)).alloc (.cells #[.int .i64 no] 3)).alloc (.cells #[.bool back] 4)).alloc (.cells #[.int .i64 0, .int .i64 0, .nilFunc, .int .i64 0] 103)
theorem lb_low (R : Nat) (v : Th) (f t : Tr) (no : Int) (back : Bool) (w : World) : Below w.heap.size w (lbW R v f t no back w) := by
  unfold lbW
  exact (((((((Below.refl _ _).alloc (Nat.le_refl _) _).alloc (by simp) _).alloc (by simp; omega) _).alloc (by simp; omega) _).alloc (by simp; omega) _).alloc (by simp; omega) _).alloc (by simp; omega) _
theorem lb_start (R : Nat) (v : Th) (f t : Tr) (no : Int) (back : Bool) (w : World) : LB R v f t no back w (lbW R v f t no back w) := by
  refine ⟨?_, ?_, ⟨?_, ?_, ?_, ?_⟩, ⟨?_, ?_⟩, ⟨?_, ?_⟩, ?_, ?_, ⟨?_, ?_, ?_, ?_, ?_, ?_, ?_, ?_⟩, ?_⟩
  · unfold lbW; simp
  all_goals (try intro i)
  all_goals (unfold lbW; simp [go_sem])
theorem LB.below {R : Nat} {v : Th} {f t : Tr} {no : Int} {back : Bool} {w W V : World} (h : LB R v f t no back w W) (hb : Below W.heap.size W V) : LB R v f t no back w V := by
  have hs := h.sz
  have c : ∀ b i, b ≤ w.heap.size + 6 → V.cell? ⟨b, i, none⟩ = W.cell? ⟨b, i, none⟩ := fun b i h => hb.cell (p := ⟨b, i, none⟩) (show b < _ by omega)
  have fz : ∀ b i, b ≤ w.heap.size + 6 → V.frozen? ⟨b, i, none⟩ = W.frozen? ⟨b, i, none⟩ := fun b i h => hb.frozen (p := ⟨b, i, none⟩) (show b < _ by omega)
  exact ⟨by have := hb.size; omega, (c _ _ (by omega)).trans h.w0, h.v4.of fun i => c _ i (by omega), ⟨(c _ _ (by omega)).trans h.f2.c0, (c _ _ (by omega)).trans h.f2.c1⟩, ⟨(c _ _ (by omega)).trans h.t2.c0, (c _ _ (by omega)).trans h.t2.c1⟩, (c _ _ (by omega)).trans h.n0, (c _ _ (by omega)).trans h.b0, h.r.below hb, fun i => (fz _ _ (by omega)).trans (h.z i)⟩
theorem LB.kept {R : Nat} {v : Th} {f t : Tr} {no : Int} {back : Bool} {w W V : World} (h : LB R v f t no back w W) (hk : Kept R none W V) (lr : R < w.heap.size) : LB R v f t no back w V := by
  have hs := h.sz
  have c : ∀ b i u, W.cell? ⟨b, i, none⟩ = some u → w.heap.size ≤ b → V.cell? ⟨b, i, none⟩ = some u := fun b i u h hb => hk.cell h (by omega)
  exact ⟨by have := hk.size; omega, c _ _ _ h.w0 (by omega), ⟨c _ _ _ h.v4.c0 (by omega), c _ _ _ h.v4.c1 (by omega), c _ _ _ h.v4.c2 (by omega), c _ _ _ h.v4.c3 (by omega)⟩, ⟨c _ _ _ h.f2.c0 (by omega), c _ _ _ h.f2.c1 (by omega)⟩, ⟨c _ _ _ h.t2.c0 (by omega), c _ _ _ h.t2.c1 (by omega)⟩, c _ _ _ h.n0 (by omega), c _ _ _ h.b0 (by omega), h.r.kept hk (by omega), fun i => hk.fz (h.z i) (by omega) (by omega)⟩
/-- Another thing in its place. -/
theorem LB.put {R : Nat} {v : Th} {f t : Tr} {no : Int} {back : Bool} {w W : World} (h : LB R v f t no back w W) (x : Th) : LB R x f t no back w ((((W.setCell ⟨w.heap.size + 1, 0, none⟩ (.int .i64 x.k)).setCell ⟨w.heap.size + 1, 1, none⟩ (.int .i64 x.n)).setCell ⟨w.heap.size + 1, 2, none⟩ x.fn).setCell ⟨w.heap.size + 1, 3, none⟩ (.int .i64 x.tag)) ∧ Kept (w.heap.size + 1) none W ((((W.setCell ⟨w.heap.size + 1, 0, none⟩ (.int .i64 x.k)).setCell ⟨w.heap.size + 1, 1, none⟩ (.int .i64 x.n)).setCell ⟨w.heap.size + 1, 2, none⟩ x.fn).setCell ⟨w.heap.size + 1, 3, none⟩ (.int .i64 x.tag)) := by
  have hk : Kept (w.heap.size + 1) none W ((((W.setCell ⟨w.heap.size + 1, 0, none⟩ (.int .i64 x.k)).setCell ⟨w.heap.size + 1, 1, none⟩ (.int .i64 x.n)).setCell ⟨w.heap.size + 1, 2, none⟩ x.fn).setCell ⟨w.heap.size + 1, 3, none⟩ (.int .i64 x.tag)) := ((setR_kept.trans setR_kept).trans setR_kept).trans setR_kept
  obtain ⟨v0, v1, v2, v3⟩ := h.v4
  simp only [Nat.zero_add] at v1 v2 v3
  have hz := h.z
  refine ⟨⟨?_, hk.cell h.w0 (by omega), ⟨?_, ?_, ?_, ?_⟩, ⟨hk.cell h.f2.c0 (by omega), hk.cell h.f2.c1 (by omega)⟩, ⟨hk.cell h.t2.c0 (by omega), hk.cell h.t2.c1 (by omega)⟩, hk.cell h.n0 (by omega), hk.cell h.b0 (by omega), h.r.kept hk (by omega), fun i => ?_⟩, hk⟩
  · have := h.sz; have := hk.size; omega
  all_goals simp [go_sem, v0, v1, v2, v3, hz]
/-- Its mark. -/
theorem LB.mark {R : Nat} {v : Th} {f t : Tr} {no : Int} {back : Bool} {w W : World} (h : LB R v f t no back w W) (s : Int) : LB R {v with tag := s} f t no back w (W.setCell ⟨w.heap.size + 1, 3, none⟩ (.int .i64 s)) ∧ Kept (w.heap.size + 1) none W (W.setCell ⟨w.heap.size + 1, 3, none⟩ (.int .i64 s)) := by
  have hk : Kept (w.heap.size + 1) none W (W.setCell ⟨w.heap.size + 1, 3, none⟩ (.int .i64 s)) := setR_kept
  obtain ⟨v0, v1, v2, v3⟩ := h.v4
  simp only [Nat.zero_add] at v1 v2 v3
  have hz := h.z
  refine ⟨⟨?_, hk.cell h.w0 (by omega), ⟨?_, ?_, ?_, ?_⟩, ⟨hk.cell h.f2.c0 (by omega), hk.cell h.f2.c1 (by omega)⟩, ⟨hk.cell h.t2.c0 (by omega), hk.cell h.t2.c1 (by omega)⟩, hk.cell h.n0 (by omega), hk.cell h.b0 (by omega), h.r.kept hk (by omega), fun i => ?_⟩, hk⟩
  · have := h.sz; have := hk.size; omega
  all_goals simp [go_sem, v0, v1, v2, v3, hz]
/-- But for two blocks, what lay there lies there. -/
def SK (R b0 : Nat) (W1 W : World) : Prop := ∀ b i u, W1.cell? ⟨b, i, none⟩ = some u → b ≠ R → b ≠ b0 → W.cell? ⟨b, i, none⟩ = some u
theorem SK.refl (R b0 : Nat) (W : World) : SK R b0 W W := fun _ _ _ h _ _ => h
theorem SK.drew {R b0 : Nat} {W1 W : World} (h : SK R b0 W1 W) : SK R b0 W1 W.drew := h
theorem SK.kept {R b0 : Nat} {W1 W V : World} (h : SK R b0 W1 W) (hk : Kept R none W V) : SK R b0 W1 V := fun b i u e h1 h2 => hk.cell (h b i u e h1 h2) h1
theorem SK.set {R b0 : Nat} {W1 W : World} (h : SK R b0 W1 W) (i : Nat) (v : Value) : SK R b0 W1 (W.setCell ⟨b0, i, none⟩ v) := fun b j u e h1 h2 => by
  rw [World.cell?_setCell_far _ _ _ _ (by intro e; exact h2 e.symm)]
  exact h b j u e h1 h2
/-- The answer's four cells, filled with a thing. -/
theorem th_end {m : Bool} {M R n b : Nat} {Q Q1 : Nat → Prop} {w w2 : World} {h : Th} {o : Out} (hr : Rb w2 b) (hb : w.heap.size ≤ b) (lr : R < w.heap.size) (hk : Kept R none w w2) (hW : Wl R n o w2) (hh : h.In m M R Q1 w2) (hq : ∀ x, Q1 x → Q x ∧ x ≠ b) :
    (((((w2.setCell ⟨b, 0, none⟩ (.int .i64 h.k)).setCell ⟨b, 1, none⟩ (.int .i64 h.n)).setCell ⟨b, 2, none⟩ h.fn).setCell ⟨b, 3, none⟩ (.int .i64 h.tag)).cell? ⟨b, 0, none⟩ = some (.int .i64 h.k) ∧ ((((w2.setCell ⟨b, 0, none⟩ (.int .i64 h.k)).setCell ⟨b, 1, none⟩ (.int .i64 h.n)).setCell ⟨b, 2, none⟩ h.fn).setCell ⟨b, 3, none⟩ (.int .i64 h.tag)).cell? ⟨b, 1, none⟩ = some (.int .i64 h.n) ∧ ((((w2.setCell ⟨b, 0, none⟩ (.int .i64 h.k)).setCell ⟨b, 1, none⟩ (.int .i64 h.n)).setCell ⟨b, 2, none⟩ h.fn).setCell ⟨b, 3, none⟩ (.int .i64 h.tag)).cell? ⟨b, 2, none⟩ = some h.fn ∧ ((((w2.setCell ⟨b, 0, none⟩ (.int .i64 h.k)).setCell ⟨b, 1, none⟩ (.int .i64 h.n)).setCell ⟨b, 2, none⟩ h.fn).setCell ⟨b, 3, none⟩ (.int .i64 h.tag)).cell? ⟨b, 3, none⟩ = some (.int .i64 h.tag)) ∧
    Kept R none w ((((w2.setCell ⟨b, 0, none⟩ (.int .i64 h.k)).setCell ⟨b, 1, none⟩ (.int .i64 h.n)).setCell ⟨b, 2, none⟩ h.fn).setCell ⟨b, 3, none⟩ (.int .i64 h.tag)) ∧ Wl R n o ((((w2.setCell ⟨b, 0, none⟩ (.int .i64 h.k)).setCell ⟨b, 1, none⟩ (.int .i64 h.n)).setCell ⟨b, 2, none⟩ h.fn).setCell ⟨b, 3, none⟩ (.int .i64 h.tag)) ∧ h.In m M R Q ((((w2.setCell ⟨b, 0, none⟩ (.int .i64 h.k)).setCell ⟨b, 1, none⟩ (.int .i64 h.n)).setCell ⟨b, 2, none⟩ h.fn).setCell ⟨b, 3, none⟩ (.int .i64 h.tag)) := by
  obtain ⟨hc, hs⟩ := hr.set (.int .i64 h.k) (.int .i64 h.n) h.fn (.int .i64 h.tag)
  exact ⟨hc, hk.new hs hb, hW.same hs (by omega), (hh.same (Same.of_kept hs fun e => (hq b e).2 rfl)).mono fun x _ hx => (hq x hx).1⟩
/-- The function that a cast makes of one. -/
def proT (s : Nat) (v : Th) (f t : Tr) (no : Int) (back : Bool) : Th :=
  ⟨3, 0, .func (.func 131) #[] #[.pointer (some ⟨s, 0, none⟩), .pointer (some ⟨s + 1 + 1 + 1, 0, none⟩), .pointer (some ⟨s + 1 + 1, 0, none⟩), .pointer (some ⟨s + 1 + 1 + 1 + 1, 0, none⟩), .pointer (some ⟨s + 1 + 1 + 1 + 1 + 1, 0, none⟩), .pointer (some ⟨s + 1, 0, none⟩)], 0, 2, s, s + 1 + 1 + 1, s + 1 + 1, s + 1 + 1 + 1 + 1, s + 1 + 1 + 1 + 1 + 1, s + 1, v.x, none, 0, [], f, t, no, back, [v]⟩
theorem proT_val (s : Nat) (v : Th) (f t : Tr) (no : Int) (back : Bool) : (proT s v f t no back).val = withV v.cv (castOf (t.ty.l.getD 0 anyY) (f.ty.l.getD 0 anyY) (turnO ⟨4, no, back⟩)) (castOf (f.ty.l.getD 1 anyY) (t.ty.l.getD 1 anyY) ⟨4, no, back⟩) := by
  unfold Th.val
  rw [if_pos (show (proT s v f t no back).tag = 0 from rfl), Th.cv_eq]
  rfl
theorem proT_in {M R : Nat} {Q : Nat → Prop} {v : Th} {f t : Tr} {no : Int} {back : Bool} {w W : World} (hB : LB R v f t no back w W) (hl : Below w.heap.size w W) (hv : v.In true M R Q w) (hf : f.In w) (ht : t.In w) (fb : f.Bl Q) (tb : t.Bl Q) (hfk : f.k = 3) (htk : t.k = 3) (hfg : goodY 46 f.ty = true) (htg : goodY 46 t.ty = true) (hfit : relY escFits f.ty t.ty = true) (hvt : tyV v.cv f.ty) (hv0 : v.tag = 0) (nw : ∀ b, w.heap.size ≤ b → Q b) :
    (proT w.heap.size v f t no back).In true M R (fun x => Q x ∧ x ≠ w.heap.size + 1 + 1 + 1 + 1 + 1 + 1) W := by
  refine Th.In_iff.2 (.inr (.inr ⟨rfl, rfl, ⟨v, ?_⟩, fun e he => ?_⟩))
  · refine ⟨rfl, rfl, rfl, ⟨nw _ ?_, ?_⟩, ⟨nw _ ?_, ?_⟩, ⟨nw _ ?_, ?_⟩, ⟨nw _ ?_, ?_⟩, ⟨nw _ ?_, ?_⟩, ⟨nw _ ?_, ?_⟩, hB.w0, hB.t2.c0, hB.t2.c1, hB.f2.c0, hB.f2.c1, hB.n0, hB.b0, hB.v4, ht.below hl, hf.below hl, (tb.and ht.bl).mono fun b h => ⟨h.1, by omega⟩, (fb.and hf.bl).mono fun b h => ⟨h.1, by omega⟩, htg, hfg, htk, hfk, hfit, hvt, hv0⟩
    all_goals (simp only [proT]; omega)
  · have : e = v := by simpa [proT] using he
    subst this
    exact (hv.mono (Q' := fun x => Q x ∧ x ≠ w.heap.size + 1 + 1 + 1 + 1 + 1 + 1) fun x h1 h2 => ⟨h2, by omega⟩).same (Same.of_below hl)
/-- Two that may come up. -/
theorem twoHL {P : Program} {md : Region.Mode} {ops : Array Oper} {Q : Exit → Act → World → Prop} {S : World → Prop} {i j : Nat} {o o' : Oper} {fuel : Nat} {listed : Array Bool} {a : Act} {w : World} (ho : ops.toList[i]? = some o) (ho' : ops.toList[j]? = some o') (hr : Region.ready md ops listed = [i, j])
    (h : ∀ K' : Act → World → Prop, Shut (∀ a w, S w → (S w → wpAnyH P md ops Q S fuel (listed.setIfInBounds i true) a w) → K' a w) → if Region.wanted o (yielded ops a.tmps) = true then Oper.wp P o a w K' Q else K' (a.put o.dst undef) w)
    (h' : ∀ K' : Act → World → Prop, Shut (∀ a w, S w → (S w → wpAnyH P md ops Q S fuel (listed.setIfInBounds j true) a w) → K' a w) → if Region.wanted o' (yielded ops a.tmps) = true then Oper.wp P o' a w K' Q else K' (a.put o'.dst undef) w) : wpAnyH P md ops Q S (fuel + 1) listed a w :=
  wpAnyH_ready hr (by simp) (AllReadyH.cons (o := o) (by simpa using ho) h (AllReadyH.cons (o := o') (by simpa using ho') h' AllReadyH.nil))
theorem takeHL {P : Program} {md : Region.Mode} {ops : Array Oper} {Q : Exit → Act → World → Prop} {S : World → Prop} {i : Nat} {o : Oper} {v : Value} {fuel : Nat} {listed : Array Bool} {a : Act} {w : World} (ho : ops.toList[i]? = some o)
    (hs : Region.noSelect ops = true) (hf : Region.free md ops listed i = true) (hr : (Region.ready md ops listed).contains i = true)
    (hQ : ∀ c a w, Q (.panic c) (a.put o.dst v) w → Q (.panic c) a w) (hy : YieldsIf P ops S o v a) (hS : S w)
    (h : wpAnyH P md ops Q S fuel (listed.setIfInBounds i true) (a.put o.dst v) w) : wpAnyH P md ops Q S (fuel + 1) listed a w :=
  wpAnyH_take (i := i) (oi := o) (by simpa using ho) hs hf hr hQ hy hS h
theorem oneHL {P : Program} {md : Region.Mode} {ops : Array Oper} {Q : Exit → Act → World → Prop} {S : World → Prop} {i : Nat} {o : Oper} {fuel : Nat} {listed : Array Bool} {a : Act} {w : World} (ho : ops.toList[i]? = some o) (hr : Region.ready md ops listed = [i])
    (h : ∀ K' : Act → World → Prop, Shut (∀ a w, S w → (S w → wpAnyH P md ops Q S fuel (listed.setIfInBounds i true) a w) → K' a w) → if Region.wanted o (yielded ops a.tmps) = true then Oper.wp P o a w K' Q else K' (a.put o.dst undef) w) : wpAnyH P md ops Q S (fuel + 1) listed a w :=
  wpAnyH_ready hr (by simp) (AllReadyH.cons (o := o) (by simpa using ho) h AllReadyH.nil)
theorem run_storeOne {P : Program} {w : World} {a : Addr} {v : Value} {m : Mode} (h : v.oneCell' = true) : (store a v m).run P w = stored P w a v m := run_store P w a v m h
end Go.Proofs.YtnddkmccagiclabGreatDoor

/-
  What the call of ref's cast answers where neither type is Any.
-/
namespace Go.Proofs.YtnddkmccagiclabGreatDoor
open Go.RowKit
set_option maxRecDepth 20000 in
set_option maxHeartbeats 2000000 in
theorem flat_same (M R n : Nat) (Q : Nat → Prop) (v : Th) (f t : Tr) (no : Int) (back : Bool) (w : World) (hv : v.In true M R Q w) (hf : f.In w) (ht : t.In w) (hs : relY escSame f.ty t.ty = true) (hh : f.hgt ≤ 1000) (hm : f.sm) (hw : Wl R n out0 w) (hQ : ¬ Q R) (nw : ∀ b, w.heap.size ≤ b → Q b) :
    Calls Tryz.prog 97 #[.pointer (some ⟨R, 0, none⟩), .agg #[.int .i64 v.k, .int .i64 v.n, v.fn, .int .i64 v.tag], .agg #[.int .i64 f.k, .slice f.a f.l.length f.c], .agg #[.int .i64 t.k, .slice t.a t.l.length t.c], .int .i64 no, .bool back] w (CaPost M R n Q w (chg (castOf f.ty t.ty ⟨4, no, back⟩) v.val) (caP v f t)) := by
  obtain ⟨W1, hW1⟩ : ∃ W, W = lbW R v f t no back w := ⟨_, rfl⟩
  have hB : LB R v f t no back w W1 := by rw [hW1]; exact lb_start R v f t no back w
  have hl1 : Below w.heap.size w W1 := by rw [hW1]; exact lb_low R v f t no back w
  have HB : Hid (LB R v f t no back w W1 ∧ Below w.heap.size w W1) := ⟨hB, hl1⟩
  have hone := hv.one
  have hst : ∀ (a : Addr) (m : Mode) (W : World), (store a v.fn m).run Tryz.prog W = stored Tryz.prog W a v.fn m := fun a m W => run_storeOne hone
  have HS : Hid (∀ W, Below W1.heap.size W1 W → Calls Tryz.prog 39 #[.agg #[.int .i64 f.k, .slice f.a f.l.length f.c], .agg #[.int .i64 t.k, .slice t.a t.l.length t.c]] W fun e w' => e = .returned (.bool true) ∧ Below W.heap.size W w') := fun W hb => by
    have hb2 := hl1.trans (hb.mono hl1.size)
    have := sameType_any 1000 f t W (hf.below hb2) (ht.below hb2) hh hm
    rw [hs] at this
    exact this
  have HV : Hid (v.In true M R Q w ∧ Wl R n out0 w ∧ ¬ Q R ∧ (∀ b, w.heap.size ≤ b → Q b)) := ⟨hv, hw, hQ, nw⟩
  have HC : Hid (chg (castOf f.ty t.ty ⟨4, no, back⟩) v.val = (out0, v.val)) := chg_same hs
  have HPP : Hid (caP v f t v) := fun ho he => ⟨ho, he.trans (same_eq _ _ hs)⟩
  have lr := hw.lt
  have hw1 := hw.below hl1
  obtain ⟨c0, c1, c2, c3, z0, z1, z2, z3⟩ := hw1
  replace c1 : W1.cell? ⟨R, 1, none⟩ = some (.int .i64 0) := c1
  clear hv hw hQ nw hs hf ht hm hh hone
  obtain ⟨ls, q0, ⟨v0, v1, v2, v3⟩, ⟨f0, f1⟩, ⟨t0, t1⟩, n0, b0, ⟨r0, r1, r2, r3, y0, y1, y2, y3⟩, _⟩ := hB
  simp only [Nat.zero_add] at v1 v2 v3 f1 t1
  go_enter Tryz.func97, Tryz.ntmps97
  go_upto_region 1 with fail
  unfold lbW at hW1
  rw [← hW1]
  clear hW1
  go_wp2_with (go_at_call 39; refine (HS.out _ (Below.refl _ _)).mono ?_; rintro e w2 ⟨rfl, h2⟩; have HB2 : Hid (LB R v f t no back w w2 ∧ Below w.heap.size w w2) := ⟨HB.out.1.below h2, HB.out.2.trans (h2.mono HB.out.2.size)⟩; clear h2 v0 v1 v2 v3 f0 f1 t0 t1 n0 b0 r0 r1 r2 r3 y0 y1 y2 y3 q0 c0 c1 c2 c3 z0 z1 z2 z3; obtain ⟨ls2, q0, ⟨v0, v1, v2, v3⟩, _, _, _, _, ⟨r0, r1, r2, r3, y0, y1, y2, y3⟩, _⟩ := HB2.out.1; simp only [Nat.zero_add] at v1 v2 v3)
  have hend := th_end (m := true) (M := M) (Q := Q) (Q1 := fun x => Q x ∧ x < w.heap.size) (h := v) HB2.out.1.r (by omega) lr (Kept.of_below HB2.out.2) (HV.out.2.1.below HB2.out.2) ((HV.out.1.mono (Q' := fun x => Q x ∧ x < w.heap.size) fun x h1 h2 => ⟨h2, h1⟩).same (Same.of_below HB2.out.2)) (fun x hx => ⟨hx.1, by omega⟩)
  obtain ⟨⟨e0, e1, e2, e3⟩, hk, hW, hi⟩ := hend
  refine bodyPost_ret (v := v.ag) ?_ rfl ⟨hk, .inr ⟨by rw [HC.out], hW, v, rfl, hi, by rw [HC.out], HPP.out⟩⟩
  simp [results, Tryz.results97, go_sem, Th.ag, e0, e1, e2, e3]
set_option maxRecDepth 20000 in
set_option maxHeartbeats 2000000 in
theorem flat_fun (M R n : Nat) (Q : Nat → Prop) (v : Th) (f t : Tr) (no : Int) (back : Bool) (w : World) (hv : v.In true M R Q w) (hf : f.In w) (ht : t.In w) (hs : relY escSame f.ty t.ty = false) (hfk : f.k = 3) (htk : t.k = 3) (hfg : goodY 46 f.ty = true) (htg : goodY 46 t.ty = true) (hfit : relY escFits f.ty t.ty = true) (hvt : tyV v.val f.ty) (fb : f.Bl Q) (tb : t.Bl Q) (hh : f.hgt ≤ 1000) (hm : f.sm) (hw : Wl R n out0 w) (hQ : ¬ Q R) (nw : ∀ b, w.heap.size ≤ b → Q b) :
    Calls Tryz.prog 97 #[.pointer (some ⟨R, 0, none⟩), .agg #[.int .i64 v.k, .int .i64 v.n, v.fn, .int .i64 v.tag], .agg #[.int .i64 f.k, .slice f.a f.l.length f.c], .agg #[.int .i64 t.k, .slice t.a t.l.length t.c], .int .i64 no, .bool back] w (CaPost M R n Q w (chg (castOf f.ty t.ty ⟨4, no, back⟩) v.val) (caP v f t)) := by
  obtain ⟨W1, hW1⟩ : ∃ W, W = lbW R v f t no back w := ⟨_, rfl⟩
  have hB : LB R v f t no back w W1 := by rw [hW1]; exact lb_start R v f t no back w
  have hl1 : Below w.heap.size w W1 := by rw [hW1]; exact lb_low R v f t no back w
  have HB : Hid (LB R v f t no back w W1 ∧ Below w.heap.size w W1) := ⟨hB, hl1⟩
  have hone := hv.one
  have hst : ∀ (a : Addr) (m : Mode) (W : World), (store a v.fn m).run Tryz.prog W = stored Tryz.prog W a v.fn m := fun a m W => run_storeOne hone
  have HS : Hid (∀ W, Below W1.heap.size W1 W → Calls Tryz.prog 39 #[.agg #[.int .i64 f.k, .slice f.a f.l.length f.c], .agg #[.int .i64 t.k, .slice t.a t.l.length t.c]] W fun e w' => e = .returned (.bool false) ∧ Below W.heap.size W w') := fun W hb => by
    have hb2 := hl1.trans (hb.mono hl1.size)
    have := sameType_any 1000 f t W (hf.below hb2) (ht.below hb2) hh hm
    rw [hs] at this
    exact this
  obtain ⟨f0, f1, hfy⟩ : ∃ f0 f1, f.ty = funY f0 f1 ∧ goodY 45 f0 = true ∧ goodY 45 f1 = true := by
    rcases goodY_cases hfg with ⟨k, e, hk⟩ | ⟨a, b, e, ha, hb⟩
    · have := f.ty_k; rw [e, hfk] at this; simp only at this; omega
    · exact ⟨a, b, e, ha, hb⟩
  obtain ⟨t0, t1, hty⟩ : ∃ t0 t1, t.ty = funY t0 t1 ∧ goodY 45 t0 = true ∧ goodY 45 t1 = true := by
    rcases goodY_cases htg with ⟨k, e, hk⟩ | ⟨a, b, e, ha, hb⟩
    · have := t.ty_k; rw [e, htk] at this; simp only at this; omega
    · exact ⟨a, b, e, ha, hb⟩
  have hv0 : v.tag = 0 := by
    by_cases h0 : v.tag = 0
    · exact h0
    · rw [hfy.1] at hvt
      unfold Th.val at hvt
      rw [if_neg h0] at hvt
      rcases tyV_fun hvt with ⟨h, _⟩ | ⟨h, _⟩ <;> cases h
  have hvv : v.val = v.cv := by unfold Th.val; rw [if_pos hv0]
  have HC : Hid (chg (castOf f.ty t.ty ⟨4, no, back⟩) v.val = (out0, withV v.cv (castOf (t.ty.l.getD 0 anyY) (f.ty.l.getD 0 anyY) (turnO ⟨4, no, back⟩)) (castOf (f.ty.l.getD 1 anyY) (t.ty.l.getD 1 anyY) ⟨4, no, back⟩))) := by
    show _ = _
    rw [hfy.1, hty.1, castOf_fun hfy.2.1 hfy.2.2 hty.2.1 hty.2.2 (by omega) (by rw [← hfy.1, ← hty.1, hs]; decide), chg_prox, hvv]
    rfl
  have HV : Hid (v.In true M R Q w ∧ Wl R n out0 w ∧ ¬ Q R ∧ (∀ b, w.heap.size ≤ b → Q b)) := ⟨hv, hw, hQ, nw⟩
  have HP : Hid (f.In w ∧ t.In w ∧ f.Bl Q ∧ t.Bl Q ∧ goodY 46 f.ty = true ∧ goodY 46 t.ty = true ∧ f.k = 3 ∧ t.k = 3 ∧ relY escFits f.ty t.ty = true ∧ tyV v.cv f.ty ∧ v.tag = 0) := ⟨hf, ht, fb, tb, hfg, htg, hfk, htk, hfit, hvv ▸ hvt, hv0⟩
  have HPP : Hid (caP v f t (proT w.heap.size v f t no back)) := fun ho he => by
    refine ⟨Th.ok_iff.2 ⟨.inl rfl, .inr (.inr ⟨rfl, fun e hm => ?_⟩)⟩, rfl⟩
    have : e = v := by simpa [proT] using hm
    subst this
    unfold Th.tyo at he
    rw [if_pos hv0] at he
    exact ⟨ho, he⟩
  have k3 : (f.k == 3) = true := by simpa using hfk
  have k4 : (t.k == 3) = true := by simpa using htk
  have hmf : ∀ (fn : Fn) (first cap : Array Value) (w : World), (Instr.makeFunc fn first cap).run Tryz.prog w = .ok (.func fn first cap) w := fun _ _ _ _ => rfl
  clear hfy hty hv0 hvv hfk htk hfg htg hfit hvt fb tb f0 f1 t0 t1
  have lr := hw.lt
  have hw1 := hw.below hl1
  obtain ⟨c0, c1, c2, c3, z0, z1, z2, z3⟩ := hw1
  replace c1 : W1.cell? ⟨R, 1, none⟩ = some (.int .i64 0) := c1
  clear hv hw hQ nw hs hf ht hm hh hone
  obtain ⟨ls, q0, ⟨v0, v1, v2, v3⟩, ⟨f0, f1⟩, ⟨t0, t1⟩, n0, b0, ⟨r0, r1, r2, r3, y0, y1, y2, y3⟩, _⟩ := hB
  simp only [Nat.zero_add] at v1 v2 v3 f1 t1
  go_enter Tryz.func97, Tryz.ntmps97
  go_upto_region 1 with fail
  unfold lbW at hW1
  rw [← hW1]
  clear hW1
  go_wp2_with (go_at_call 39; refine (HS.out _ (Below.refl _ _)).mono ?_; rintro e w2 ⟨rfl, h2⟩; have HB2 : Hid (LB R v f t no back w w2 ∧ Below w.heap.size w w2) := ⟨HB.out.1.below h2, HB.out.2.trans (h2.mono HB.out.2.size)⟩; clear h2 v0 v1 v2 v3 f0 f1 t0 t1 n0 b0 r0 r1 r2 r3 y0 y1 y2 y3 q0 c0 c1 c2 c3 z0 z1 z2 z3; obtain ⟨ls2, q0, ⟨v0, v1, v2, v3⟩, ⟨f0, f1⟩, ⟨t0, t1⟩, _, _, ⟨r0, r1, r2, r3, y0, y1, y2, y3⟩, _⟩ := HB2.out.1; simp only [Nat.zero_add] at v1 v2 v3 f1 t1)
  obtain ⟨p1, p2, p3, p4, p5, p6, p7, p8, p9, p10, p11⟩ := HP.out
  have hpi := proT_in HB2.out.1 HB2.out.2 HV.out.1 p1 p2 p3 p4 p7 p8 p5 p6 p9 p10 p11 HV.out.2.2.2
  have hend := th_end (m := true) (M := M) (Q := Q) (h := proT w.heap.size v f t no back) HB2.out.1.r (by omega) lr (Kept.of_below HB2.out.2) (HV.out.2.1.below HB2.out.2) hpi (fun x hx => hx)
  obtain ⟨⟨e0, e1, e2, e3⟩, hk, hW, hi⟩ := hend
  refine bodyPost_ret (v := (proT w.heap.size v f t no back).ag) ?_ rfl ⟨hk, .inr ⟨by rw [HC.out], hW, proT w.heap.size v f t no back, rfl, hi, by rw [HC.out, proT_val], HPP.out⟩⟩
  simp only [proT] at e0 e1 e2 e3
  simp [results, Tryz.results97, go_sem, Th.ag, proT, e0, e1, e2, e3]
/-- Where neither type is Any, or both are the same. -/
theorem flat_any (M R n : Nat) (Q : Nat → Prop) (v : Th) (f t : Tr) (no : Int) (back : Bool) (w : World) (hv : v.In true M R Q w) (hf : f.In w) (ht : t.In w) (hk : f.k = t.k) (hfg : goodY 46 f.ty = true) (htg : goodY 46 t.ty = true) (hfit : relY escFits f.ty t.ty = true) (hvt : tyV v.val f.ty) (fb : f.Bl Q) (tb : t.Bl Q) (hh : f.hgt ≤ 1000) (hm : f.sm) (hw : Wl R n out0 w) (hQ : ¬ Q R) (nw : ∀ b, w.heap.size ≤ b → Q b) :
    Calls Tryz.prog 97 #[.pointer (some ⟨R, 0, none⟩), .agg #[.int .i64 v.k, .int .i64 v.n, v.fn, .int .i64 v.tag], .agg #[.int .i64 f.k, .slice f.a f.l.length f.c], .agg #[.int .i64 t.k, .slice t.a t.l.length t.c], .int .i64 no, .bool back] w (CaPost M R n Q w (chg (castOf f.ty t.ty ⟨4, no, back⟩) v.val) (caP v f t)) := by
  by_cases hs : relY escSame f.ty t.ty = true
  · exact flat_same M R n Q v f t no back w hv hf ht hs hh hm hw hQ nw
  have hk3 : f.k = 3 := by
    rcases goodY_cases hfg with ⟨k, e, h1⟩ | ⟨a, b, e, _⟩
    · rcases goodY_cases htg with ⟨k', e', h2⟩ | ⟨a, b, e', _⟩
      · have h3 := f.ty_k
        have h4 := t.ty_k
        rw [e] at h3
        rw [e'] at h4
        simp only at h3 h4
        exfalso
        apply hs
        rw [e, e', h3, h4, hk]
        exact same_refl _
      · rw [hk, ← t.ty_k, e']
    · rw [← f.ty_k, e]
  exact flat_fun M R n Q v f t no back w hv hf ht (by simpa using hs) hk3 (hk ▸ hk3) hfg htg hfit hvt fb tb hh hm hw hQ nw
end Go.Proofs.YtnddkmccagiclabGreatDoor

/-
  What the call of ref's cast answers where the type that is cast to is Any.
-/
namespace Go.Proofs.YtnddkmccagiclabGreatDoor
open Go.RowKit
theorem gr_ground {t : Ty} (h : goodY 46 t = true) : gr t.k = groundY t := by
  rcases goodY_cases h with ⟨k, rfl, hk⟩ | ⟨a, b, rfl, _⟩
  · unfold gr groundY
    rfl
  · rfl
theorem ground_fits {n : Nat} {t : Ty} (h : goodY (n + 1) t = true) : relY escFits t (groundY t) = true ∧ relY escFits (groundY t) t = true := by
  rcases goodY_cases h with ⟨k, rfl, hk⟩ | ⟨a, b, rfl, _⟩
  · have : groundY ⟨k, []⟩ = ⟨k, []⟩ := by unfold groundY; rw [if_neg (by simp only; omega)]
    rw [this]
    exact ⟨fits_refl _ _ h, fits_refl _ _ h⟩
  · have : groundY ⟨3, [a, b]⟩ = ⟨3, [anyY, anyY]⟩ := rfl
    rw [this, two _ _ _ _ _ rfl, two _ _ _ _ _ rfl]
    exact ⟨by rw [show anyY = ⟨0, []⟩ from rfl, any_right, any_right]; rfl, by rw [show anyY = ⟨0, []⟩ from rfl, any_left, any_left]; rfl⟩
/-- A value of a type that is not Any bears no mark. -/
theorem tag_none {v : Th} {T : Ty} (hT : T.k ≠ 0) (h : tyV v.val T) : v.tag = 0 ∧ v.val = v.cv := by
  by_cases h0 : v.tag = 0
  · exact ⟨h0, by unfold Th.val; rw [if_pos h0]⟩
  · exfalso
    unfold Th.val at h
    rw [if_neg h0] at h
    rcases tyV_mk.1 h with ⟨h, _⟩ | ⟨h, _⟩ | ⟨h, _⟩ | ⟨h, _⟩ | ⟨_, h, _⟩
    · cases h
    · cases h
    · cases h
    · cases h
    · rw [h] at hT; exact hT rfl
theorem castOf_ty {f t : Ty} {o : Out} (hf : goodY 46 f = true) (ht : goodY 46 t = true) (h : relY escFits f t = true) (ho : o.k = 4) : tyC (castOf f t o) f t := tyC_new 100 46 f t o hf ht h ho (by split <;> omega)
set_option maxRecDepth 20000 in
set_option maxHeartbeats 4000000 in
theorem hide_any (M R n : Nat) (Q : Nat → Prop) (v : Th) (f t : Tr) (no : Int) (back : Bool) (w : World) (hv : v.In true M R Q w) (hf : f.In w) (ht : t.In w) (hfk : f.k ≠ 0) (htk : t.k = 0) (hfg : goodY 46 f.ty = true) (htg : goodY 46 t.ty = true) (hvt : tyV v.val f.ty) (fb : f.Bl Q) (hh : f.hgt ≤ 1000) (hm : f.sm) (hw : Wl R n out0 w) (hQ : ¬ Q R) (nw : ∀ b, w.heap.size ≤ b → Q b) :
    Calls Tryz.prog 97 #[.pointer (some ⟨R, 0, none⟩), .agg #[.int .i64 v.k, .int .i64 v.n, v.fn, .int .i64 v.tag], .agg #[.int .i64 f.k, .slice f.a f.l.length f.c], .agg #[.int .i64 t.k, .slice t.a t.l.length t.c], .int .i64 no, .bool back] w (CaPost M R n Q w (chg (castOf f.ty t.ty ⟨4, no, back⟩) v.val) (caP v f t)) := by
  obtain ⟨W1, hW1⟩ : ∃ W, W = lbW R v f t no back w := ⟨_, rfl⟩
  have hB : LB R v f t no back w W1 := by rw [hW1]; exact lb_start R v f t no back w
  have hl1 : Below w.heap.size w W1 := by rw [hW1]; exact lb_low R v f t no back w
  have HB : Hid (LB R v f t no back w W1 ∧ Below w.heap.size w W1) := ⟨hB, hl1⟩
  have hone := hv.one
  have hst : ∀ (a : Addr) (m : Mode) (W : World), (store a v.fn m).run Tryz.prog W = stored Tryz.prog W a v.fn m := fun a m W => run_storeOne hone
  have hty : t.ty = anyY := by
    rcases goodY_cases htg with ⟨k, e, hk⟩ | ⟨a, b, e, ha, hb⟩
    · have := t.ty_k; rw [e, htk] at this; simp only at this; rw [e, this]; rfl
    · have := t.ty_k; rw [e, htk] at this; cases this
  have hfy : f.ty.k ≠ 0 := by rw [f.ty_k]; exact hfk
  have HS : Hid (∀ W, Below W1.heap.size W1 W → Calls Tryz.prog 39 #[.agg #[.int .i64 f.k, .slice f.a f.l.length f.c], .agg #[.int .i64 t.k, .slice t.a t.l.length t.c]] W fun e w' => e = .returned (.bool false) ∧ Below W.heap.size W w') := fun W hb => by
    have hb2 := hl1.trans (hb.mono hl1.size)
    have := sameType_any 1000 f t W (hf.below hb2) (ht.below hb2) hh hm
    rw [show relY escSame f.ty t.ty = false from by
      cases h : relY escSame f.ty t.ty with
      | false => rfl
      | true => have := same_eq _ _ h; rw [this, hty] at hfy; exact absurd rfl hfy] at this
    exact this
  have HC : Hid (chg (castOf f.ty t.ty ⟨4, no, back⟩) v.val = (out0, knownV (chg (castOf f.ty (groundY f.ty) ⟨4, no, back⟩) v.val).2 f.k)) := by
    show _ = _
    rw [hty, chg_hide hfg (by omega) hfy, f.ty_k]
  have HI : Hid (∀ (W : World) (u : Tr), Kept R none W1 W → Wl R n out0 W → u.ty = groundY f.ty → u.In W → u.Bl (W1.heap.size ≤ ·) → Calls Tryz.prog 97 #[.pointer (some ⟨R, 0, none⟩), .agg #[.int .i64 v.k, .int .i64 v.n, v.fn, .int .i64 v.tag], .agg #[.int .i64 f.k, .slice f.a f.l.length f.c], .agg #[.int .i64 u.k, .slice u.a u.l.length u.c], .int .i64 no, .bool back] W fun e w' => Kept R none W w' ∧ Wl R n out0 w' ∧ ∃ h : Th, e = .returned (.agg #[.int .i64 h.k, .int .i64 h.n, h.fn, .int .i64 h.tag]) ∧ h.In true M R (fun x => Q x ∧ x ≠ w.heap.size + 1 ∧ x ≠ w.heap.size + 1 + 1 + 1 + 1 + 1 + 1) w' ∧ (h.val = (chg (castOf f.ty (groundY f.ty) ⟨4, no, back⟩) v.val).2 ∧ (v.ok → v.tyo = f.ty → h.ok ∧ h.tyo = groundY f.ty))) := by
    intro W u hk hw2 hu hui hub
    have hgk : f.k = u.k := by rw [← f.ty_k, ← u.ty_k, hu, ground_k]
    have hs1 := hB.sz
    have hfit : relY escFits f.ty u.ty = true := by rw [hu]; exact (ground_fits hfg).1
    have hsm : Same Q w W := fun b hb hq => by
      rw [hk.block b (by omega) (fun e => hQ (e ▸ hq)) (by simp)]
      exact hl1.block b hb
    have hsz := hk.size
    have := flat_any M R n (fun x => Q x ∧ x ≠ w.heap.size + 1 ∧ x ≠ w.heap.size + 1 + 1 + 1 + 1 + 1 + 1) v f u no back W ((hv.mono (Q' := fun x => (Q x ∧ x ≠ w.heap.size + 1 ∧ x ≠ w.heap.size + 1 + 1 + 1 + 1 + 1 + 1)) fun x h1 h2 => ⟨h2, by omega, by omega⟩).same fun b h1 h2 => hsm b h1 h2.1) (hf.same hsm fb) hui hgk hfg (by rw [hu]; exact ground_good hfg) hfit hvt ((fb.and hf.bl).mono fun b h => ⟨h.1, by omega, by omega⟩) (hub.mono fun b h => ⟨nw b (by omega), by omega, by omega⟩) hh hm hw2 (fun h => hQ h.1) (fun b hb => ⟨nw b (by omega), by omega, by omega⟩)
    rw [hu] at this
    refine this.mono ?_
    rintro e w' ⟨h1, h2 | ⟨h2, h3, h, h4, h5, h6⟩⟩
    · exact absurd (by rw [(chg_flat hfg (ground_good hfg) (by omega) (ground_k _).symm).1]; rfl) h2.1
    · exact ⟨h1, h3, h, h4, h5, h6.1, fun ho he => ⟨(h6.2 ho he).1, (h6.2 ho he).2.trans hu⟩⟩
  have HT : Hid (∀ h : Th, h.val = (chg (castOf f.ty (groundY f.ty) ⟨4, no, back⟩) v.val).2 → h.tag = 0 ∧ h.val = h.cv) := fun h e => by
    have h1 := (chg_ty (castOf_ty (o := ⟨4, no, back⟩) hfg (ground_good hfg) (ground_fits hfg).1 rfl) hvt).1 (by rw [(chg_flat hfg (ground_good hfg) (by omega) (ground_k _).symm).1]; rfl)
    rw [← e] at h1
    exact tag_none (by rw [ground_k]; exact hfy) h1
  have HV : Hid (Wl R n out0 w ∧ ¬ Q R ∧ (∀ b, w.heap.size ≤ b → Q b) ∧ f.k ≠ 0) := ⟨hw, hQ, nw, hfk⟩
  have HPP : Hid (∀ h : Th, h.tag = 0 → (v.ok → v.tyo = f.ty → h.ok ∧ h.tyo = groundY f.ty) → caP v f t {h with tag := f.k}) := fun h h0 hp ho he => by
    obtain ⟨a, b⟩ := hp ho he
    unfold Th.tyo at b
    rw [if_pos h0] at b
    have hf3 : f.k = 1 ∨ f.k = 2 ∨ f.k = 3 := by
      rcases goodY_cases hfg with ⟨k, e, hk⟩ | ⟨x, y, e, _⟩
      · have := f.ty_k; rw [e] at this; simp only at this; omega
      · have := f.ty_k; rw [e] at this; simp only at this; omega
    refine ⟨a.mark (.inr ⟨hf3, ?_⟩), ?_⟩
    · rw [b, ← gr_ground hfg, f.ty_k]
    · unfold Th.tyo
      rw [if_neg hfk, hty]
  have HK : Hid (∀ W, SK R (w.heap.size + 1) W1 W → W.cell? ⟨w.heap.size, 0, none⟩ = some (.pointer (some ⟨R, 0, none⟩)) ∧ W.cell? ⟨w.heap.size + 1 + 1, 0, none⟩ = some (.int .i64 f.k) ∧ W.cell? ⟨w.heap.size + 1 + 1, 1, none⟩ = some (.slice f.a f.l.length f.c) ∧ W.cell? ⟨w.heap.size + 1 + 1 + 1 + 1, 0, none⟩ = some (.int .i64 no) ∧ W.cell? ⟨w.heap.size + 1 + 1 + 1 + 1 + 1, 0, none⟩ = some (.bool back)) := fun W h => by
    have lr := hw.lt
    exact ⟨h _ _ _ hB.w0 (by omega) (by omega), h _ _ _ hB.f2.c0 (by omega) (by omega), h _ _ _ hB.f2.c1 (by omega) (by omega), h _ _ _ hB.n0 (by omega) (by omega), h _ _ _ hB.b0 (by omega) (by omega)⟩
  have lr := hw.lt
  have hw1 := hw.below hl1
  obtain ⟨c0, c1, c2, c3, z0, z1, z2, z3⟩ := hw1
  replace c1 : W1.cell? ⟨R, 1, none⟩ = some (.int .i64 0) := c1
  have k4 : (t.k == 3) = false := by rw [htk]; decide
  have k0 : (t.k == 0) = true := by rw [htk]; decide
  clear hv hw hQ nw hf ht hm hh hone hfy hty hfg htg hvt fb hfk htk
  obtain ⟨ls, q0, ⟨v0, v1, v2, v3⟩, ⟨f0, f1⟩, ⟨t0, t1⟩, n0, b0, ⟨r0, r1, r2, r3, y0, y1, y2, y3⟩, _⟩ := hB
  simp only [Nat.zero_add] at v1 v2 v3 f1 t1
  obtain ⟨b3, hb3⟩ : ∃ b3, (f.k == 3) = b3 := ⟨_, rfl⟩
  cases b3
  all_goals
    go_enter Tryz.func97, Tryz.ntmps97
    go_upto_region 1 with fail
    unfold lbW at hW1
    rw [← hW1]
    clear hW1
    go_upto_region 6 with (go_at_call 39; refine (HS.out _ (Below.refl _ _)).mono ?_; rintro e w2 ⟨rfl, h2⟩; have HB2 : Hid (LB R v f t no back w w2 ∧ Below w.heap.size w w2 ∧ Kept R none W1 w2 ∧ SK R (w.heap.size + 1) W1 w2) := ⟨HB.out.1.below h2, HB.out.2.trans (h2.mono HB.out.2.size), Kept.of_below h2, (SK.refl _ _ _).kept (Kept.of_below h2)⟩; clear h2 v0 v1 v2 v3 f0 f1 t0 t1 n0 b0 r0 r1 r2 r3 y0 y1 y2 y3 q0 c0 c1 c2 c3 z0 z1 z2 z3; obtain ⟨ls2, q0, ⟨v0, v1, v2, v3⟩, ⟨f0, f1⟩, ⟨t0, t1⟩, n0, b0, ⟨r0, r1, r2, r3, y0, y1, y2, y3⟩, _⟩ := HB2.out.1; simp only [Nat.zero_add] at v1 v2 v3 f1 t1)
    have HD : Hid (LB R v f t no back w w2.drew ∧ Below w.heap.size w w2.drew ∧ Kept R none W1 w2.drew ∧ SK R (w.heap.size + 1) W1 w2.drew ∧ Wl R n out0 w2.drew) := by
      have hd : Below w2.heap.size w2 w2.drew := (Below.refl _ _).drew
      exact ⟨HB2.out.1.below hd, HB2.out.2.1.trans (hd.mono HB2.out.2.1.size), HB2.out.2.2.1.trans (Kept.of_below hd), HB2.out.2.2.2.kept (Kept.of_below hd), HV.out.1.below (HB2.out.2.1.trans (hd.mono HB2.out.2.1.size))⟩
    have hsk := HD.out.2.2.2.1
    clear v0 v1 v2 v3 f0 f1 t0 t1 n0 b0 r0 r1 r2 r3 y0 y1 y2 y3 q0
    obtain ⟨ls3, q0, ⟨v0, v1, v2, v3⟩, _, _, _, _, _, _⟩ := HD.out.1
    simp only [Nat.zero_add] at v1 v2 v3
    refine wp_region_held_drew (S := (fun W => W.cell? ⟨w.heap.size, 0, none⟩ = some (.pointer (some ⟨R, 0, none⟩)) ∧ W.cell? ⟨w.heap.size + 1 + 1, 0, none⟩ = some (.int .i64 f.k) ∧ W.cell? ⟨w.heap.size + 1 + 1, 1, none⟩ = some (.slice f.a f.l.length f.c) ∧ W.cell? ⟨w.heap.size + 1 + 1 + 1 + 1, 0, none⟩ = some (.int .i64 no) ∧ W.cell? ⟨w.heap.size + 1 + 1 + 1 + 1 + 1, 0, none⟩ = some (.bool back))) (by kernel_rfl) (HK.out _ hsk) (fun hHeld => ?_)
    refine takeHL (i := 0) (v := ?_) rfl (by kernel_rfl) (by kernel_rfl) (by kernel_rfl) (fun _ _ _ h => h) (Or.inl ⟨by rfl, ?_⟩) hHeld ?_; rotate_left; (focus (intro w' hSw; (try dsimp only at hSw); go_split_ands; first | (go_simp; done) | (go_simp; with_reducible rfl))); simp only [Act.put, List.setIfInBounds_toArray, List.set_cons_zero, List.set_cons_succ]
    refine takeHL (i := 2) (v := ?_) rfl (by kernel_rfl) (by kernel_rfl) (by kernel_rfl) (fun _ _ _ h => h) (Or.inl ⟨by rfl, ?_⟩) hHeld ?_; rotate_left; (focus (intro w' hSw; (try dsimp only at hSw); go_split_ands; first | (go_simp; done) | (go_simp; with_reducible rfl))); simp only [Act.put, List.setIfInBounds_toArray, List.set_cons_zero, List.set_cons_succ]
    refine takeHL (i := 3) (v := ?_) rfl (by kernel_rfl) (by kernel_rfl) (by kernel_rfl) (fun _ _ _ h => h) (Or.inl ⟨by rfl, ?_⟩) hHeld ?_; rotate_left; (focus (intro w' hSw; (try dsimp only at hSw); go_split_ands; first | (go_simp; done) | (go_simp; with_reducible rfl))); simp only [Act.put, List.setIfInBounds_toArray, List.set_cons_zero, List.set_cons_succ]
    refine takeHL (i := 5) (v := ?_) rfl (by kernel_rfl) (by kernel_rfl) (by kernel_rfl) (fun _ _ _ h => h) (Or.inl ⟨by rfl, ?_⟩) hHeld ?_; rotate_left; (focus (intro w' hSw; (try dsimp only at hSw); go_split_ands; first | (go_simp; done) | (go_simp; with_reducible rfl))); simp only [Act.put, List.setIfInBounds_toArray, List.set_cons_zero, List.set_cons_succ]
    refine takeHL (i := 6) (v := ?_) rfl (by kernel_rfl) (by kernel_rfl) (by kernel_rfl) (fun _ _ _ h => h) (Or.inl ⟨by rfl, ?_⟩) hHeld ?_; rotate_left; (focus (intro w' hSw; (try dsimp only at hSw); go_split_ands; first | (go_simp; done) | (go_simp; with_reducible rfl))); simp only [Act.put, List.setIfInBounds_toArray, List.set_cons_zero, List.set_cons_succ]
    refine twoHL (i := 1) (j := 4) rfl rfl (by kernel_rfl) (fun K hK => ?_) (fun K hK => ?_)
    · go_simp
      refine hK.out _ _ (HK.out _ hsk) (fun hHeld => ?_)
      clear hK K
      (try simp only [Act.put, List.setIfInBounds_toArray, List.set_cons_zero, List.set_cons_succ])
      refine oneHL (i := 4) rfl (by kernel_rfl) (fun K hK => ?_)
      go_simp
      refine (rground_any f _).mono ?_
      rintro e w3 ⟨u, rfl, hu, hui, hub, h3⟩
      have HE : Hid (LB R v f t no back w w3 ∧ Kept R none W1 w3 ∧ Wl R n out0 w3 ∧ u.ty = groundY f.ty ∧ u.In w3 ∧ u.Bl (W1.heap.size ≤ ·)) := ⟨HD.out.1.below h3, HD.out.2.2.1.trans (Kept.of_below h3), HD.out.2.2.2.2.below h3, hu, hui, hub.mono fun b hb => Nat.le_trans HD.out.2.2.1.size hb⟩
      replace hsk := hsk.kept (Kept.of_below h3)
      clear h3 hu hui hub v0 v1 v2 v3 q0
      obtain ⟨_, q0, ⟨v0, v1, v2, v3⟩, _, _, _, _, _, _⟩ := HE.out.1
      simp only [Nat.zero_add] at v1 v2 v3
      dsimp only
      refine hK.out _ _ (HK.out _ hsk) (fun hHeld => ?_)
      clear hK K
      (try simp only [Act.put, List.setIfInBounds_toArray, List.set_cons_zero, List.set_cons_succ])
      refine oneHL (i := 7) rfl (by kernel_rfl) (fun K hK => ?_)
      go_simp
      refine (HI.out _ u HE.out.2.1 HE.out.2.2.1 HE.out.2.2.2.1 HE.out.2.2.2.2.1 HE.out.2.2.2.2.2).mono ?_
      rintro e w4 ⟨h4, hw4, h, rfl, hin, hval⟩
      have HG : Hid (LB R v f t no back w w4 ∧ Kept R none W1 w4 ∧ Wl R n out0 w4 ∧ h.In true M R (fun x => Q x ∧ x ≠ w.heap.size + 1 ∧ x ≠ w.heap.size + 1 + 1 + 1 + 1 + 1 + 1) w4 ∧ (h.val = (chg (castOf f.ty (groundY f.ty) ⟨4, no, back⟩) v.val).2 ∧ (v.ok → v.tyo = f.ty → h.ok ∧ h.tyo = groundY f.ty))) := ⟨HE.out.1.kept h4 lr, HE.out.2.1.trans h4, hw4, hin, hval⟩
      have hst2 : ∀ (a : Addr) (m : Mode) (W : World), (store a h.fn m).run Tryz.prog W = stored Tryz.prog W a h.fn m := fun a m W => run_storeOne hin.one
      replace hsk := hsk.kept h4
      clear h4 hw4 hin hval v0 v1 v2 v3 q0
      obtain ⟨_, q0, ⟨v0, v1, v2, v3⟩, ⟨f0, f1⟩, _, _, _, ⟨r0, r1, r2, r3, y0, y1, y2, y3⟩, zz⟩ := HG.out.1
      have z0 := zz 0
      have z1 := zz 1
      have z2 := zz 2
      have z3 := zz 3
      clear zz
      simp only [Nat.zero_add] at v1 v2 v3 f1
      dsimp only
      refine hK.out _ _ (HK.out _ hsk) (fun hHeld => ?_)
      clear hK K
      (try simp only [Act.put, List.setIfInBounds_toArray, List.set_cons_zero, List.set_cons_succ])
      refine oneHL (i := 8) rfl (by kernel_rfl) (fun K hK => ?_)
      go_simp
      refine hK.out _ _ (HK.out _ ((((hsk.set _ _).set _ _).set _ _).set _ _)) (fun hHeld => ?_)
      clear hK K
      (try simp only [Act.put, List.setIfInBounds_toArray, List.set_cons_zero, List.set_cons_succ])
      refine wpAnyH_done (by kernel_rfl) ?_ _
      have HM : Hid _ := HG.out.1.put h
      clear hHeld hsk hb3 k4 k0 hst v0 v1 v2 v3 q0 f0 f1 r0 r1 r2 r3 y0 y1 y2 y3 z0 z1 z2 z3
      obtain ⟨w5, hw5⟩ : ∃ W, W = ((((w4.setCell ⟨w.heap.size + 1, 0, none⟩ (.int .i64 h.k)).setCell ⟨w.heap.size + 1, 1, none⟩ (.int .i64 h.n)).setCell ⟨w.heap.size + 1, 2, none⟩ h.fn).setCell ⟨w.heap.size + 1, 3, none⟩ (.int .i64 h.tag)) := ⟨_, rfl⟩
      rw [← hw5] at HM
      rw [← hw5]
      clear hw5
      obtain ⟨_, q0, ⟨v0, v1, v2, v3⟩, ⟨f0, f1⟩, _, _, _, ⟨r0, r1, r2, r3, y0, y1, y2, y3⟩, zz⟩ := HM.out.1
      have z3 := zz 3
      clear zz
      simp only [Nat.zero_add] at v1 v2 v3 f1
      go_upto_region 8 with fail
      have HM2 : Hid _ := HM.out.1.mark f.k
      clear v0 v1 v2 v3 q0 f0 f1 r0 r1 r2 r3 y0 y1 y2 y3 z3
      obtain ⟨w6, hw6⟩ : ∃ W, W = w5.setCell ⟨w.heap.size + 1, 3, none⟩ (.int .i64 f.k) := ⟨_, rfl⟩
      rw [← hw6] at HM2
      rw [← hw6]
      clear hw6
      obtain ⟨_, q0, ⟨v0, v1, v2, v3⟩, _, _, _, _, ⟨r0, r1, r2, r3, y0, y1, y2, y3⟩, _⟩ := HM2.out.1
      simp only [Nat.zero_add] at v1 v2 v3
      go_wp2_with fail
      obtain ⟨g1, g2, g3, g4, g5⟩ := HG.out
      have m1 := HM.out.2
      have m2 := HM2.out.2
      have hQs : ¬ (fun x => Q x ∧ x ≠ w.heap.size + 1 ∧ x ≠ w.heap.size + 1 + 1 + 1 + 1 + 1 + 1) (w.heap.size + 1) := fun hx => hx.2.1 rfl
      have hi6 := (((g4.same (Same.of_kept m1 hQs)).same (Same.of_kept m2 hQs)).tag f.k)
      obtain ⟨ht0, htv⟩ := HT.out h g5.1
      have hend := th_end (m := true) (M := M) (Q := Q) (h := {h with tag := f.k}) HM2.out.1.r (by omega) lr ((((Kept.of_below HB.out.2).trans g2).new m1 (by omega)).new m2 (by omega)) ((g3.same m1 (by omega)).same m2 (by omega)) hi6 (fun x hx => ⟨hx.1, hx.2.2⟩)
      obtain ⟨⟨e0, e1, e2, e3⟩, hk, hW, hi⟩ := hend
      refine bodyPost_ret (v := ({h with tag := f.k} : Th).ag) ?_ rfl ⟨hk, .inr ⟨by rw [HC.out], hW, {h with tag := f.k}, rfl, hi, ?_, HPP.out h ht0 g5.2⟩⟩
      · simp only at e0 e1 e2 e3
        simp [results, Tryz.results97, go_sem, Th.ag, e0, e1, e2, e3]
      · rw [HC.out, ← g5.1, htv]
        unfold Th.val
        rw [if_neg HV.out.2.2.2, Th.cv_tag]
    · go_simp
      refine (rground_any f _).mono ?_
      rintro e w3 ⟨u, rfl, hu, hui, hub, h3⟩
      have HE : Hid (LB R v f t no back w w3 ∧ Kept R none W1 w3 ∧ Wl R n out0 w3 ∧ u.ty = groundY f.ty ∧ u.In w3 ∧ u.Bl (W1.heap.size ≤ ·)) := ⟨HD.out.1.below h3, HD.out.2.2.1.trans (Kept.of_below h3), HD.out.2.2.2.2.below h3, hu, hui, hub.mono fun b hb => Nat.le_trans HD.out.2.2.1.size hb⟩
      replace hsk := hsk.kept (Kept.of_below h3)
      clear h3 hu hui hub v0 v1 v2 v3 q0
      obtain ⟨_, q0, ⟨v0, v1, v2, v3⟩, _, _, _, _, _, _⟩ := HE.out.1
      simp only [Nat.zero_add] at v1 v2 v3
      dsimp only
      refine hK.out _ _ (HK.out _ hsk) (fun hHeld => ?_)
      clear hK K
      (try simp only [Act.put, List.setIfInBounds_toArray, List.set_cons_zero, List.set_cons_succ])
      refine oneHL (i := 1) rfl (by kernel_rfl) (fun K hK => ?_)
      go_simp
      refine hK.out _ _ (HK.out _ hsk) (fun hHeld => ?_)
      clear hK K
      (try simp only [Act.put, List.setIfInBounds_toArray, List.set_cons_zero, List.set_cons_succ])
      refine oneHL (i := 7) rfl (by kernel_rfl) (fun K hK => ?_)
      go_simp
      refine (HI.out _ u HE.out.2.1 HE.out.2.2.1 HE.out.2.2.2.1 HE.out.2.2.2.2.1 HE.out.2.2.2.2.2).mono ?_
      rintro e w4 ⟨h4, hw4, h, rfl, hin, hval⟩
      have HG : Hid (LB R v f t no back w w4 ∧ Kept R none W1 w4 ∧ Wl R n out0 w4 ∧ h.In true M R (fun x => Q x ∧ x ≠ w.heap.size + 1 ∧ x ≠ w.heap.size + 1 + 1 + 1 + 1 + 1 + 1) w4 ∧ (h.val = (chg (castOf f.ty (groundY f.ty) ⟨4, no, back⟩) v.val).2 ∧ (v.ok → v.tyo = f.ty → h.ok ∧ h.tyo = groundY f.ty))) := ⟨HE.out.1.kept h4 lr, HE.out.2.1.trans h4, hw4, hin, hval⟩
      have hst2 : ∀ (a : Addr) (m : Mode) (W : World), (store a h.fn m).run Tryz.prog W = stored Tryz.prog W a h.fn m := fun a m W => run_storeOne hin.one
      replace hsk := hsk.kept h4
      clear h4 hw4 hin hval v0 v1 v2 v3 q0
      obtain ⟨_, q0, ⟨v0, v1, v2, v3⟩, ⟨f0, f1⟩, _, _, _, ⟨r0, r1, r2, r3, y0, y1, y2, y3⟩, zz⟩ := HG.out.1
      have z0 := zz 0
      have z1 := zz 1
      have z2 := zz 2
      have z3 := zz 3
      clear zz
      simp only [Nat.zero_add] at v1 v2 v3 f1
      dsimp only
      refine hK.out _ _ (HK.out _ hsk) (fun hHeld => ?_)
      clear hK K
      (try simp only [Act.put, List.setIfInBounds_toArray, List.set_cons_zero, List.set_cons_succ])
      refine oneHL (i := 8) rfl (by kernel_rfl) (fun K hK => ?_)
      go_simp
      refine hK.out _ _ (HK.out _ ((((hsk.set _ _).set _ _).set _ _).set _ _)) (fun hHeld => ?_)
      clear hK K
      (try simp only [Act.put, List.setIfInBounds_toArray, List.set_cons_zero, List.set_cons_succ])
      refine wpAnyH_done (by kernel_rfl) ?_ _
      have HM : Hid _ := HG.out.1.put h
      clear hHeld hsk hb3 k4 k0 hst v0 v1 v2 v3 q0 f0 f1 r0 r1 r2 r3 y0 y1 y2 y3 z0 z1 z2 z3
      obtain ⟨w5, hw5⟩ : ∃ W, W = ((((w4.setCell ⟨w.heap.size + 1, 0, none⟩ (.int .i64 h.k)).setCell ⟨w.heap.size + 1, 1, none⟩ (.int .i64 h.n)).setCell ⟨w.heap.size + 1, 2, none⟩ h.fn).setCell ⟨w.heap.size + 1, 3, none⟩ (.int .i64 h.tag)) := ⟨_, rfl⟩
      rw [← hw5] at HM
      rw [← hw5]
      clear hw5
      obtain ⟨_, q0, ⟨v0, v1, v2, v3⟩, ⟨f0, f1⟩, _, _, _, ⟨r0, r1, r2, r3, y0, y1, y2, y3⟩, zz⟩ := HM.out.1
      have z3 := zz 3
      clear zz
      simp only [Nat.zero_add] at v1 v2 v3 f1
      go_upto_region 8 with fail
      have HM2 : Hid _ := HM.out.1.mark f.k
      clear v0 v1 v2 v3 q0 f0 f1 r0 r1 r2 r3 y0 y1 y2 y3 z3
      obtain ⟨w6, hw6⟩ : ∃ W, W = w5.setCell ⟨w.heap.size + 1, 3, none⟩ (.int .i64 f.k) := ⟨_, rfl⟩
      rw [← hw6] at HM2
      rw [← hw6]
      clear hw6
      obtain ⟨_, q0, ⟨v0, v1, v2, v3⟩, _, _, _, _, ⟨r0, r1, r2, r3, y0, y1, y2, y3⟩, _⟩ := HM2.out.1
      simp only [Nat.zero_add] at v1 v2 v3
      go_wp2_with fail
      obtain ⟨g1, g2, g3, g4, g5⟩ := HG.out
      have m1 := HM.out.2
      have m2 := HM2.out.2
      have hQs : ¬ (fun x => Q x ∧ x ≠ w.heap.size + 1 ∧ x ≠ w.heap.size + 1 + 1 + 1 + 1 + 1 + 1) (w.heap.size + 1) := fun hx => hx.2.1 rfl
      have hi6 := (((g4.same (Same.of_kept m1 hQs)).same (Same.of_kept m2 hQs)).tag f.k)
      obtain ⟨ht0, htv⟩ := HT.out h g5.1
      have hend := th_end (m := true) (M := M) (Q := Q) (h := {h with tag := f.k}) HM2.out.1.r (by omega) lr ((((Kept.of_below HB.out.2).trans g2).new m1 (by omega)).new m2 (by omega)) ((g3.same m1 (by omega)).same m2 (by omega)) hi6 (fun x hx => ⟨hx.1, hx.2.2⟩)
      obtain ⟨⟨e0, e1, e2, e3⟩, hk, hW, hi⟩ := hend
      refine bodyPost_ret (v := ({h with tag := f.k} : Th).ag) ?_ rfl ⟨hk, .inr ⟨by rw [HC.out], hW, {h with tag := f.k}, rfl, hi, ?_, HPP.out h ht0 g5.2⟩⟩
      · simp only at e0 e1 e2 e3
        simp [results, Tryz.results97, go_sem, Th.ag, e0, e1, e2, e3]
      · rw [HC.out, ← g5.1, htv]
        unfold Th.val
        rw [if_neg HV.out.2.2.2, Th.cv_tag]
end Go.Proofs.YtnddkmccagiclabGreatDoor
