/-
  Terms without addresses, their text and its words, and how words are read: the plain mathematics of package term; no program in it.
-/
import Derived.Test.YtibjnkpmnimgoaaDoorMath
import Derived.Test.YtibjnkpmnimgoaaDoorFields
import Derived.Lib.AtoiTie
import Derived.Lib.ItoaNum
import Derived.Lib.ItoaLen
namespace Go.Proofs.YtibjnkpmnimgoaaDoor

/-- tellsType. -/
def tells (k : Int) : Bool := k == 7 || k == 9

/-- Which of the words it is. -/
def atWord (x : ByteArray) : List ByteArray → Nat → Option Nat
  | [], _ => none
  | y :: r, i => if y = x then some i else atWord x r (i + 1)

def truthWs : List ByteArray := [⟨#[110, 111]⟩, ⟨#[121, 101, 115]⟩]
def typeWs : List ByteArray := [⟨#[97, 110, 121]⟩, ⟨#[110, 117, 109]⟩, ⟨#[116, 114, 117, 116, 104]⟩]
def kindWs : List ByteArray := [⟨#[97, 100, 100]⟩, ⟨#[108, 101, 115, 115]⟩, ⟨#[105, 102]⟩, ⟨#[102, 117, 110]⟩, ⟨#[99, 97, 108, 108]⟩, ⟨#[97, 115]⟩]
/-- The kind of a word that opens brackets. -/
def kindAt (x : ByteArray) : Option Nat := atWord x kindWs 4

/-- The number that a word tells, as it is printed. -/
def numOf (d : ByteArray) : Option Int :=
  match Lib.atoiAll d.data.toList with
  | .ok v => if (⟨(Lib.itoa v).toArray⟩ : ByteArray) = d then some v else none
  | _ => none

def opB : ByteArray := ⟨#[40]⟩
def clB : ByteArray := ⟨#[41]⟩
def toB : ByteArray := ⟨#[116, 111]⟩

/-- The words behind that one; none: it isn't the first. -/
def behind (x : ByteArray) : List ByteArray → Option (List ByteArray)
  | y :: r => if y = x then some r else none
  | [] => none

/-- The type that the words tell, and the words behind it. -/
def readTy : Nat → List ByteArray → Option (Ty × List ByteArray)
  | 0, _ => none
  | _ + 1, [] => none
  | n + 1, x :: r =>
    if x = opB then
      (behind toB r).bind fun r1 => (readTy n r1).bind fun p => (readTy n p.2).bind fun q => (behind clB q.2).map fun r4 => (⟨3, [p.1, q.1]⟩, r4)
    else (atWord x typeWs 0).map fun (k : Nat) => (Ty.mk (k : Int) [], r)

/-- A term: its kind, its number, its two types, its parts. -/
structure Tm where
  k : Int
  n : Int
  t : Ty
  f : Ty
  l : List Tm

theorem Tm.ind {P : Tm → Prop} (h : ∀ k n t f l, (∀ x, x ∈ l → P x) → P ⟨k, n, t, f, l⟩) : ∀ t, P t
  | ⟨k, n, t, f, l⟩ => h k n t f l fun x _ => Tm.ind h x

def anyY : Ty := ⟨0, []⟩

/-- How many parts a term of a kind has. -/
def partsOf (k : Int) : Nat := if k = 4 ∨ k = 5 ∨ k = 8 then 2 else if k = 6 then 3 else if k = 7 ∨ k = 9 then 1 else 0

/-- So many things, one behind the other. -/
def readN (f : List ByteArray → Option (Tm × List ByteArray)) : Nat → List ByteArray → Option (List Tm × List ByteArray)
  | 0, ws => some ([], ws)
  | m + 1, ws => (f ws).bind fun p => (readN f m p.2).map fun q => (p.1 :: q.1, q.2)

/-- A word that is no bracket. -/
def readWord (x : ByteArray) (r : List ByteArray) : Option (Tm × List ByteArray) :=
  match atWord x truthWs 0 with
  | some b => some (⟨3, (b : Int), anyY, anyY, []⟩, r)
  | none =>
    match x.data.toList with
    | 35 :: d => (numOf ⟨d.toArray⟩).map fun n => (⟨1, n, anyY, anyY, []⟩, r)
    | _ => (numOf x).map fun n => (⟨2, n, anyY, anyY, []⟩, r)

/-- The type that is told behind the word of a kind. -/
def readT (n : Nat) (k : Nat) (ws : List ByteArray) : Option (Ty × List ByteArray) := if tells (k : Int) = true then readTy n ws else some (anyY, ws)

/-- The term that the words tell, and the words behind it. -/
def readTm : Nat → List ByteArray → Option (Tm × List ByteArray)
  | 0, _ => none
  | _ + 1, [] => none
  | n + 1, x :: r =>
    if x = opB then
      match r with
      | [] => none
      | y :: r1 => (kindAt y).bind fun k => (readT n k r1).bind fun p => (readN (readTm n) (partsOf (k : Int)) p.2).bind fun q => (behind clB q.2).map fun r4 => (⟨(k : Int), 0, p.1, anyY, q.1⟩, r4)
    else readWord x r

/-! ### Good -/

def isAnyY (t : Ty) : Bool := relY escSame t anyY

def okNum (ar ins k n : Int) : Bool := if k = 1 then decide (0 ≤ n) && decide (n - ins < ar) else if k = 2 then decide (-1000000 ≤ n) && decide (n ≤ 1000000) else if k = 3 then n == 0 || n == 1 else n == 0

def okTypes (k : Int) (t f : Ty) : Bool := isAnyY f && (if tells k = true then goodY 4 t else isAnyY t)

/-- All that is asked of a term but of its parts. -/
def okTop (ar ins : Int) (x : Tm) : Bool := (decide (1 ≤ x.k) && decide (x.k ≤ 9) && (x.l.length == partsOf x.k)) && (okTypes x.k x.t x.f && okNum ar ins x.k x.n)

def bindL {α : Type} (f : α → Nat → Option Nat) : List α → Nat → Option Nat
  | [], r => some r
  | x :: xs, r => (f x r).bind fun r' => bindL f xs r'

def insOf (k ins : Int) : Int := if k = 7 then ins + 1 else ins

/-- Good, with the room that is left: none: it isn't. -/
def goodS (ar : Int) : Nat → Int → Tm → Nat → Option Nat
  | 0, _, _, _ => none
  | _ + 1, _, _, 0 => none
  | n + 1, ins, x, r + 1 => if okTop ar ins x = true then bindL (fun y r' => goodS ar n (insOf x.k ins) y r') x.l r else none

/-! ### Texts -/

def bw (w : List UInt8) : ByteArray := ⟨w.toArray⟩

theorem bw_data (w : List UInt8) : (bw w).data.toList = w := rfl
theorem bw_inj {a b : List UInt8} (h : bw a = bw b) : a = b := by
  have := congrArg (fun x : ByteArray => x.data.toList) h
  simpa [bw_data] using this
theorem bw_of (x : ByteArray) : bw x.data.toList = x := rfl

def kindW (k : Int) : List UInt8 := if k = 4 then [97, 100, 100] else if k = 5 then [108, 101, 115, 115] else if k = 6 then [105, 102] else if k = 7 then [102, 117, 110] else if k = 8 then [99, 97, 108, 108] else [97, 115]
def typeW (k : Int) : List UInt8 := if k = 1 then [110, 117, 109] else if k = 2 then [116, 114, 117, 116, 104] else [97, 110, 121]
def truthW (n : Int) : List UInt8 := if n = 1 then [121, 101, 115] else [110, 111]

def tyText : Nat → Ty → List UInt8
  | 0, _ => []
  | n + 1, ⟨k, l⟩ => if k = 3 then [40, 116, 111, 32] ++ tyText n (l.getD 0 anyY) ++ [32] ++ tyText n (l.getD 1 anyY) ++ [41] else typeW k

def tyWords : Nat → Ty → List (List UInt8)
  | 0, _ => []
  | n + 1, ⟨k, l⟩ => if k = 3 then [[40], [116, 111]] ++ tyWords n (l.getD 0 anyY) ++ tyWords n (l.getD 1 anyY) ++ [[41]] else [typeW k]

def tmText : Nat → Tm → List UInt8
  | 0, _ => []
  | n + 1, x => if x.k = 1 then 35 :: Lib.itoa x.n else if x.k = 2 then Lib.itoa x.n else if x.k = 3 then truthW x.n else
    40 :: kindW x.k ++ (if tells x.k = true then 32 :: tyText 4 x.t else []) ++ x.l.flatMap (fun y => 32 :: tmText n y) ++ [41]

def tmWords : Nat → Tm → List (List UInt8)
  | 0, _ => []
  | n + 1, x => if x.k = 1 then [35 :: Lib.itoa x.n] else if x.k = 2 then [Lib.itoa x.n] else if x.k = 3 then [truthW x.n] else
    [[40], kindW x.k] ++ (if tells x.k = true then tyWords 4 x.t else []) ++ x.l.flatMap (fun y => tmWords n y) ++ [[41]]

def brB (c : UInt8) : Bool := c == 40 || c == 41

/-- The words of a text: brackets are words, too. -/
def tokW (cur : List UInt8) : List UInt8 → List (List UInt8)
  | [] => flush cur
  | c :: r => if spB c = true then flush cur ++ tokW [] r else if brB c = true then flush cur ++ [[c]] ++ tokW [] r else tokW (cur ++ [c]) r

/-- Spaces around each such byte. -/
def around (c : UInt8) (s : List UInt8) : List UInt8 := s.flatMap fun x => if x = c then [32, c, 32] else [x]

theorem around_cons (c x : UInt8) (s : List UInt8) : around c (x :: s) = (if x = c then [32, c, 32] else [x]) ++ around c s := rfl
theorem around_append (c : UInt8) (a b : List UInt8) : around c (a ++ b) = around c a ++ around c b := by simp [around]

theorem split_tok : ∀ (s cur : List UInt8), splitW cur (around 41 (around 40 s)) = tokW cur s
  | [], cur => rfl
  | c :: r, cur => by
    by_cases h40 : c = 40
    · subst h40
      rw [around_cons, if_pos rfl, around_append]
      have e : around 41 [32, 40, 32] = [32, 40, 32] := rfl
      have e1 : spB 32 = true := rfl
      have e2 : spB 40 = false := rfl
      have e3 : brB 40 = true := rfl
      rw [e]
      simp only [List.cons_append, List.nil_append, splitW, tokW, e1, e2, e3, if_true]
      simp [flush, split_tok r []]
    · rw [around_cons, if_neg h40, around_append]
      by_cases h41 : c = 41
      · subst h41
        have e : around 41 [41] = [32, 41, 32] := rfl
        have e1 : spB 32 = true := rfl
        have e2 : spB 41 = false := rfl
        have e3 : brB 41 = true := rfl
        rw [e]
        simp only [List.cons_append, List.nil_append, splitW, tokW, e1, e2, e3, if_true]
        simp [flush, split_tok r []]
      · have e : around 41 [c] = [c] := by simp [around, h41]
        have eb : brB c = false := by simp [brB, h40, h41]
        rw [e]
        simp only [List.cons_append, List.nil_append, splitW, tokW, eb]
        cases spB c
        · simp [split_tok r (cur ++ [c])]
        · simp [split_tok r []]

def plainW (w : List UInt8) : Prop := w ≠ [] ∧ ∀ c ∈ w, spB c = false ∧ brB c = false
def delim (r : List UInt8) : Prop := r = [] ∨ ∃ c s, r = c :: s ∧ (spB c = true ∨ brB c = true)

theorem tok_run : ∀ (w cur r : List UInt8), (∀ c ∈ w, spB c = false ∧ brB c = false) → tokW cur (w ++ r) = tokW (cur ++ w) r
  | [], cur, r, _ => by simp
  | c :: w, cur, r, h => by
    have hc := h c (by simp)
    rw [List.cons_append, tokW, if_neg (by simp [hc.1]), if_neg (by simp [hc.2]), tok_run w (cur ++ [c]) r (fun d hd => h d (by simp [hd]))]
    simp

theorem tok_delim (cur r : List UInt8) (h : delim r) : tokW cur r = flush cur ++ tokW [] r := by
  rcases h with rfl | ⟨c, s, rfl, h⟩
  · simp [tokW, flush]
  · by_cases hs : spB c = true
    · rw [tokW, if_pos hs, tokW, if_pos hs]
      simp [flush]
    · have hb : brB c = true := by
        rcases h with h | h
        · exact absurd h hs
        · exact h
      rw [tokW, if_neg hs, if_pos hb, tokW, if_neg hs, if_pos hb]
      simp [flush]

theorem tok_plain (w r : List UInt8) (hw : plainW w) (h : delim r) : tokW [] (w ++ r) = w :: tokW [] r := by
  rw [tok_run w [] r hw.2, List.nil_append, tok_delim w r h, flush, if_neg hw.1]
  rfl

theorem tok_space (r : List UInt8) : tokW [] (32 :: r) = tokW [] r := by
  have e1 : spB 32 = true := rfl
  rw [tokW, if_pos e1]; simp [flush]
theorem tok_open (r : List UInt8) : tokW [] (40 :: r) = [40] :: tokW [] r := by
  have e1 : spB 40 = false := rfl
  have e2 : brB 40 = true := rfl
  rw [tokW, if_neg (by simp [e1]), if_pos e2]; simp [flush]
theorem tok_close (r : List UInt8) : tokW [] (41 :: r) = [41] :: tokW [] r := by
  have e1 : spB 41 = false := rfl
  have e2 : brB 41 = true := rfl
  rw [tokW, if_neg (by simp [e1]), if_pos e2]; simp [flush]

theorem delim_space (r : List UInt8) : delim (32 :: r) := .inr ⟨32, r, rfl, .inl rfl⟩
theorem delim_close (r : List UInt8) : delim (41 :: r) := .inr ⟨41, r, rfl, .inr rfl⟩

theorem plain_type (k : Int) : plainW (typeW k) := by
  unfold typeW
  split
  · exact ⟨by simp, by decide⟩
  · split
    · exact ⟨by simp, by decide⟩
    · exact ⟨by simp, by decide⟩
theorem plain_truth (k : Int) : plainW (truthW k) := by
  unfold truthW
  split
  · exact ⟨by simp, by decide⟩
  · exact ⟨by simp, by decide⟩
theorem plain_kind (k : Int) : plainW (kindW k) := by
  unfold kindW
  repeat' split
  all_goals exact ⟨by simp, by decide⟩

theorem tok_ty : ∀ (n : Nat) (t : Ty) (r : List UInt8), goodY n t = true → delim r → tokW [] (tyText n t ++ r) = tyWords n t ++ tokW [] r
  | 0, t, r, h, _ => by simp [goodY] at h
  | n + 1, ⟨k, l⟩, r, h, hr => by
    match l, h with
    | [], h =>
      have hk : k ≠ 3 := by
        intro e; subst e; simp [goodY] at h
      rw [tyText, if_neg hk, tyWords, if_neg hk, tok_plain _ _ (plain_type k) hr]
      rfl
    | [x], h => simp [goodY] at h
    | x :: y :: z :: s, h => simp [goodY] at h
    | [x, y], h =>
      simp only [goodY, Bool.and_eq_true, beq_iff_eq] at h
      obtain ⟨⟨rfl, hx⟩, hy⟩ := h
      rw [tyText, if_pos rfl, tyWords, if_pos rfl]
      have e1 : [40, 116, 111, 32] ++ tyText n ([x, y].getD 0 anyY) ++ [32] ++ tyText n ([x, y].getD 1 anyY) ++ [41] ++ r = 40 :: ([116, 111] ++ (32 :: (tyText n x ++ (32 :: (tyText n y ++ (41 :: r)))))) := by simp
      rw [e1, tok_open, tok_plain _ _ ⟨by simp, by decide⟩ (delim_space _), tok_space, tok_ty n x _ hx (delim_space _), tok_space, tok_ty n y _ hy (delim_close _), tok_close]
      simp

/-! ### Numbers -/

theorem decFrom_app : ∀ (a b : List UInt8) (acc : Nat), Lib.decFrom acc (a ++ b) = (Lib.decFrom acc a).bind fun m => Lib.decFrom m b
  | [], b, acc => rfl
  | c :: a, b, acc => by
    simp only [List.cons_append, Lib.decFrom]
    cases Lib.digitVal c with
    | none => rfl
    | some d => exact decFrom_app a b _

theorem digit_one (d : Nat) (h : d < 10) : Lib.digitVal (UInt8.ofNat (48 + d)) = some d := by
  have e : (UInt8.ofNat (48 + d)).toNat = 48 + d := by rw [UInt8.toNat_ofNat']; omega
  rw [Lib.digitVal, e, if_pos (by omega)]
  simp

theorem dec_digits (u : Nat) : Lib.decFrom 0 (Lib.decDigits u) = some u := by
  induction u using Nat.strongRecOn with
  | _ u ih =>
    by_cases h : u < 10
    · rw [Lib.decDigits, dif_pos h]
      simp only [Lib.decFrom, digit_one u h]
      simp
    · rw [Lib.decDigits, dif_neg h, decFrom_app, ih (u / 10) (by omega)]
      simp only [Option.bind_some, Lib.decFrom, digit_one (u % 10) (by omega)]
      congr 1; omega

theorem digits_are (u : Nat) : ∀ c ∈ Lib.decDigits u, 48 ≤ c.toNat ∧ c.toNat ≤ 57 := by
  intro c hc
  obtain ⟨i, hi, rfl⟩ := List.getElem_of_mem hc
  obtain ⟨d, hd⟩ := Lib.digit_of_decFrom _ 0 u (dec_digits u) i _ (List.getElem?_eq_getElem hi)
  have := Lib.digitVal_eq hd
  exact ⟨this.1, this.2.1⟩

theorem digits_ne (u : Nat) : Lib.decDigits u ≠ [] := by
  intro e
  have := dec_digits u
  rw [e] at this
  rw [Lib.decDigits] at e
  split at e
  · cases e
  · simp at e

theorem decNat_digits (u : Nat) : Lib.decNat (Lib.decDigits u) = some u := by
  have := digits_ne u
  cases h : Lib.decDigits u with
  | nil => exact absurd h this
  | cons c r =>
    rw [Lib.decNat, if_neg (by simp), ← h, dec_digits]

/-- The first byte of a number, and that all of them are signs of numbers. -/
theorem itoa_are (n : Int) : Lib.itoa n ≠ [] ∧ ∀ c ∈ Lib.itoa n, c = 45 ∨ (48 ≤ c.toNat ∧ c.toNat ≤ 57) := by
  unfold Lib.itoa
  split
  · exact ⟨by simp, fun c hc => by
      rcases List.mem_cons.1 hc with rfl | hc
      · exact .inl rfl
      · exact .inr (digits_are _ c hc)⟩
  · exact ⟨digits_ne _, fun c hc => .inr (digits_are _ c hc)⟩

theorem num_sign (c : UInt8) (h : c = 45 ∨ (48 ≤ c.toNat ∧ c.toNat ≤ 57)) : spB c = false ∧ brB c = false ∧ c ≠ 35 ∧ c ≠ 110 ∧ c ≠ 121 := by
  rcases h with rfl | h
  · decide
  · refine ⟨?_, ?_, ?_, ?_, ?_⟩
    · simp only [spB, Bool.or_eq_false_iff, beq_eq_false_iff_ne]
      constructor
      · rintro rfl; simp at h
      · rintro rfl; simp at h
    · simp only [brB, Bool.or_eq_false_iff, beq_eq_false_iff_ne]
      constructor
      · rintro rfl; simp at h
      · rintro rfl; simp at h
    · rintro rfl; simp at h
    · rintro rfl; simp at h
    · rintro rfl; simp at h

theorem plain_itoa (n : Int) : plainW (Lib.itoa n) :=
  ⟨(itoa_are n).1, fun c hc => ⟨(num_sign c ((itoa_are n).2 c hc)).1, (num_sign c ((itoa_are n).2 c hc)).2.1⟩⟩

theorem itoa_short (n : Int) (h : -1000000 ≤ n) (h' : n ≤ 1000000) : (Lib.itoa n).length ≤ 8 := by
  have key : ∀ u : Nat, u ≤ 1000000 → (Lib.decDigits u).length ≤ 7 := by
    intro u hu
    rw [Lib.decDigits_length]
    apply Nat.le_of_not_lt
    intro hl
    have hp : ∀ k, k ≤ 7 → ∀ v : Nat, v < 10 ^ k → 1 ≤ k → Lib.nDigits v ≤ k := by
      intro k
      induction k with
      | zero => intro _ v _ h; omega
      | succ k ih =>
        intro hk v hv _
        by_cases hs : v < 10
        · rw [Lib.nDigits_small hs]; omega
        · rw [Lib.nDigits_big hs]
          rw [Nat.pow_succ] at hv
          have h1 : 1 ≤ k := by
            apply Nat.one_le_iff_ne_zero.2
            rintro rfl
            simp at hv; omega
          have := ih (by omega) (v / 10) (by omega) h1
          omega
    have := hp 7 (by omega) u (by omega) (by omega)
    omega
  unfold Lib.itoa
  split
  · have := key n.natAbs (by omega)
    simp only [List.length_cons]; omega
  · have := key n.toNat (by omega)
    omega

theorem num_itoa (n : Int) (h : -1000000 ≤ n) (h' : n ≤ 1000000) : numOf (bw (Lib.itoa n)) = some n := by
  have hl := itoa_short n h h'
  have ha : Lib.atoiAll (Lib.itoa n) = .ok n := by
    rw [Lib.atoiAll_short _ (by omega)]
    unfold Lib.itoa
    by_cases hn : n < 0
    · rw [if_pos hn]
      have : Lib.atoi (45 :: Lib.decDigits n.natAbs) = (Lib.decNat (Lib.decDigits n.natAbs)).map fun (m : Nat) => -(m : Int) := by simp [Lib.atoi]
      rw [this, decNat_digits]
      simp only [Option.map_some, Lib.NumEnd.ofOption]
      congr 1; omega
    · rw [if_neg hn]
      have hd := digits_are n.toNat
      cases hc : Lib.decDigits n.toNat with
      | nil => exact absurd hc (digits_ne _)
      | cons c r =>
        rw [hc] at hd
        have hc1 := hd c (by simp)
        have h45 : c ≠ 45 := by rintro rfl; simp at hc1
        have h43 : c ≠ 43 := by rintro rfl; simp at hc1
        have : Lib.atoi (c :: r) = (Lib.decNat (c :: r)).map fun (m : Nat) => (m : Int) := by simp [Lib.atoi, h45, h43]
        rw [this, ← hc, decNat_digits]
        simp only [Option.map_some, Lib.NumEnd.ofOption]
        congr 1; omega
  rw [numOf, bw_data, ha]
  exact if_pos rfl

end Go.Proofs.YtibjnkpmnimgoaaDoor
