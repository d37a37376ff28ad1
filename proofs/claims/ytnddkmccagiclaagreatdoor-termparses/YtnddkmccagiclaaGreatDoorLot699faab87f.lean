/-
  The document's own way to read a text: brackets first, into trees of words, then terms: it comes to what the words, read one behind the other, come to; the plain mathematics, no program in it.
-/
import Derived.Test.YtnddkmccagiclaaGreatDoorLotf63a16e00c
namespace Go.Proofs.YtnddkmccagiclaaGreatDoor

/-- A tree of words: a word, or trees within brackets. -/
structure Tn where
  w : List UInt8
  l : List Tn
  o : Bool

theorem Tn.ind {P : Tn → Prop} (h : ∀ w l o, (∀ x, x ∈ l → P x) → P ⟨w, l, o⟩) : ∀ t, P t
  | ⟨w, l, o⟩ => h w l o fun x _ => Tn.ind h x

/-- Its words, one behind the other. -/
def Tn.flat : Tn → List (List UInt8)
  | ⟨w, l, o⟩ => if o = true then [40] :: ((l.map fun t => t.flat).flatten ++ [[41]]) else [w]
theorem Tn.flat_mk (w : List UInt8) (l : List Tn) (o : Bool) : (Tn.mk w l o).flat = if o = true then [40] :: ((l.map Tn.flat).flatten ++ [[41]]) else [w] := by
  rw [Tn.flat]

def flatL (l : List Tn) : List (List UInt8) := (l.map Tn.flat).flatten
theorem flatL_nil : flatL [] = [] := rfl
theorem flatL_cons (x : Tn) (l : List Tn) : flatL (x :: l) = x.flat ++ flatL l := rfl
theorem flat_open (w : List UInt8) (l : List Tn) : (Tn.mk w l true).flat = [40] :: (flatL l ++ [[41]]) := by
  rw [Tn.flat_mk, if_pos rfl]; rfl
theorem flat_word (w : List UInt8) (l : List Tn) : (Tn.mk w l false).flat = [w] := by
  rw [Tn.flat_mk, if_neg (by simp)]

theorem flat_pos (x : Tn) : 1 ≤ x.flat.length := by
  obtain ⟨w, l, o⟩ := x
  cases o
  · rw [flat_word]; simp
  · rw [flat_open]; simp

/-- Words are no brackets and not empty; words have no parts, brackets no word. -/
def Tn.nice : Tn → Prop
  | ⟨w, l, o⟩ => (o = true → w = []) ∧ (o = false → l = [] ∧ plainW w) ∧ ∀ x, x ∈ l → x.nice
theorem Tn.nice_mk {w : List UInt8} {l : List Tn} {o : Bool} : (Tn.mk w l o).nice ↔ (o = true → w = []) ∧ (o = false → l = [] ∧ plainW w) ∧ ∀ x, x ∈ l → x.nice := by
  rw [Tn.nice]
theorem nice_open {l : List Tn} : (Tn.mk [] l true).nice ↔ ∀ x, x ∈ l → x.nice := by
  rw [Tn.nice_mk]; exact ⟨fun h => h.2.2, fun h => ⟨fun _ => rfl, fun h => (by cases h), h⟩⟩
theorem nice_word {w : List UInt8} : (Tn.mk w [] false).nice ↔ plainW w := by
  rw [Tn.nice_mk]; exact ⟨fun h => (h.2.1 rfl).2, fun h => ⟨fun h => (by cases h), fun _ => ⟨rfl, h⟩, fun x h => by cases h⟩⟩
theorem nice_kind {x : Tn} (h : x.nice) : (∃ l, x = ⟨[], l, true⟩ ∧ ∀ y, y ∈ l → y.nice) ∨ ∃ w, x = ⟨w, [], false⟩ ∧ plainW w := by
  obtain ⟨w, l, o⟩ := x
  obtain ⟨h1, h2, h3⟩ := Tn.nice_mk.1 h
  cases o
  · obtain ⟨rfl, h'⟩ := h2 rfl
    exact .inr ⟨w, rfl, h'⟩
  · obtain rfl := h1 rfl
    exact .inl ⟨l, rfl, h3⟩

theorem plain_ne {w : List UInt8} (h : plainW w) : w ≠ [40] ∧ w ≠ [41] := by
  constructor
  · rintro rfl
    have := (h.2 40 (by simp)).2
    revert this; decide
  · rintro rfl
    have := (h.2 41 (by simp)).2
    revert this; decide

/-! ### Trees of words -/

/-- The trees of a row of words, up to its end, or within brackets up to their end. -/
def treesT : Nat → List (List UInt8) → Bool → Option (List Tn × List (List UInt8))
  | 0, _, _ => none
  | _ + 1, [], wi => if wi = true then none else some ([], [])
  | n + 1, x :: r, wi =>
    if x = [41] then (if wi = true then some ([], r) else none)
    else if x = [40] then (treesT n r true).bind fun p => (treesT n p.2 wi).map fun q => (⟨[], p.1, true⟩ :: q.1, q.2)
    else (treesT n r wi).map fun q => (⟨x, [], false⟩ :: q.1, q.2)

theorem treesT_more : ∀ (n m : Nat) (ws : List (List UInt8)) (wi : Bool) (q : List Tn × List (List UInt8)), n ≤ m → treesT n ws wi = some q → treesT m ws wi = some q
  | 0, _, _, _, _, _, h => by simp [treesT] at h
  | n + 1, 0, _, _, _, hm, _ => by omega
  | n + 1, m + 1, [], wi, q, hm, h => by simpa [treesT] using h
  | n + 1, m + 1, x :: r, wi, q, hm, h => by
    rw [treesT] at h ⊢
    by_cases h1 : x = [41]
    · rw [if_pos h1] at h ⊢; exact h
    · rw [if_neg h1] at h ⊢
      by_cases h2 : x = [40]
      · rw [if_pos h2] at h ⊢
        obtain ⟨p, hp, h⟩ := Option.bind_eq_some_iff.1 h
        obtain ⟨q', hq, rfl⟩ := Option.map_eq_some_iff.1 h
        rw [treesT_more n m r true p (by omega) hp, Option.bind_some, treesT_more n m p.2 wi q' (by omega) hq]
        rfl
      · rw [if_neg h2] at h ⊢
        obtain ⟨q', hq, rfl⟩ := Option.map_eq_some_iff.1 h
        rw [treesT_more n m r wi q' (by omega) hq]
        rfl

/-- Trees laid out are read as they were. -/
theorem treesT_flat : ∀ (N : Nat) (l : List Tn) (rest : List (List UInt8)) (wi : Bool) (m : Nat) (q : List Tn × List (List UInt8)), (flatL l).length ≤ N → (∀ x, x ∈ l → x.nice) → treesT m rest wi = some q → treesT ((flatL l).length + m) (flatL l ++ rest) wi = some (l ++ q.1, q.2)
  | _, [], rest, wi, m, q, _, _, h => by
    rw [flatL_nil]; simpa using h
  | 0, x :: l, rest, wi, m, q, hN, _, _ => by
    have := flat_pos x
    rw [flatL_cons, List.length_append] at hN
    omega
  | N + 1, x :: l, rest, wi, m, q, hN, hl, h => by
    rw [flatL_cons, List.length_append] at hN
    have hp := flat_pos x
    have h2 := treesT_flat N l rest wi m q (by omega) (fun y hy => hl y (List.mem_cons_of_mem _ hy)) h
    rcases nice_kind (hl x List.mem_cons_self) with ⟨l', rfl, hl'⟩ | ⟨w, rfl, hw⟩
    · rw [flatL_cons, flat_open]
      rw [flat_open] at hN
      simp only [List.length_cons, List.length_append, List.length_nil] at hN
      have h1 := treesT_flat N l' ([41] :: (flatL l ++ rest)) true 1 ([], flatL l ++ rest) (by omega) hl' (by simp [treesT])
      simp only [List.append_nil] at h1
      have e : ([40] :: (flatL l' ++ [[41]]) ++ flatL l ++ rest) = [40] :: (flatL l' ++ [41] :: (flatL l ++ rest)) := by simp
      rw [e]
      have hf : (([40] :: (flatL l' ++ [[41]])) ++ flatL l).length + m = ((flatL l').length + 1 + ((flatL l).length + m)) + 1 := by simp; omega
      rw [hf, treesT, if_neg (by simp), if_pos rfl]
      rw [treesT_more _ _ _ _ _ (by omega) h1, Option.bind_some, treesT_more _ _ _ _ _ (by omega) h2]
      rfl
    · rw [flatL_cons, flat_word]
      have hn := plain_ne hw
      have hf : (([w] : List (List UInt8)) ++ flatL l).length + m = ((flatL l).length + m) + 1 := by simp; omega
      rw [hf, List.append_assoc, List.singleton_append, treesT, if_neg hn.2, if_neg hn.1, h2]
      rfl

/-- What is read is laid out so. -/
theorem treesT_back : ∀ (n : Nat) (ws : List (List UInt8)) (wi : Bool) (l : List Tn) (rest : List (List UInt8)), (∀ x, x ∈ ws → x = [40] ∨ x = [41] ∨ plainW x) → treesT n ws wi = some (l, rest) → (∀ x, x ∈ l → x.nice) ∧ ws = flatL l ++ (if wi = true then [41] :: rest else []) ∧ (wi = false → rest = [])
  | 0, _, _, _, _, _, h => by simp [treesT] at h
  | n + 1, [], wi, l, rest, _, h => by
    cases wi
    · simp only [treesT, Bool.false_eq_true, if_false, Option.some.injEq, Prod.mk.injEq] at h
      obtain ⟨rfl, rfl⟩ := h
      exact ⟨(fun x h => by cases h), by simp [flatL], fun _ => rfl⟩
    · simp [treesT] at h
  | n + 1, x :: r, wi, l, rest, hws, h => by
    rw [treesT] at h
    by_cases h1 : x = [41]
    · rw [if_pos h1] at h
      cases wi
      · simp at h
      · simp only [if_true, Option.some.injEq, Prod.mk.injEq] at h
        obtain ⟨rfl, rfl⟩ := h
        exact ⟨(fun x h => by cases h), by simp [flatL, h1], fun h => by cases h⟩
    · rw [if_neg h1] at h
      have hr : ∀ y, y ∈ r → y = [40] ∨ y = [41] ∨ plainW y := fun y hy => hws y (List.mem_cons_of_mem _ hy)
      by_cases h2 : x = [40]
      · rw [if_pos h2] at h
        obtain ⟨p, hp, h⟩ := Option.bind_eq_some_iff.1 h
        obtain ⟨q, hq, he⟩ := Option.map_eq_some_iff.1 h
        obtain ⟨rfl, rfl⟩ := Prod.mk.inj he
        obtain ⟨a1, a2, _⟩ := treesT_back n r true p.1 p.2 hr hp
        rw [if_pos rfl] at a2
        have hp2 : ∀ y, y ∈ p.2 → y = [40] ∨ y = [41] ∨ plainW y := fun y hy => hr y (by rw [a2]; simp [hy])
        obtain ⟨b1, b2, b3⟩ := treesT_back n p.2 wi q.1 q.2 hp2 hq
        refine ⟨fun y hy => ?_, ?_, b3⟩
        · rcases List.mem_cons.1 hy with rfl | hy
          · exact nice_open.2 a1
          · exact b1 y hy
        · rw [flatL_cons, flat_open, h2, a2]
          rw [List.append_assoc, ← b2]
          simp
      · rw [if_neg h2] at h
        obtain ⟨q, hq, he⟩ := Option.map_eq_some_iff.1 h
        obtain ⟨rfl, rfl⟩ := Prod.mk.inj he
        obtain ⟨b1, b2, b3⟩ := treesT_back n r wi q.1 q.2 hr hq
        have hx : plainW x := by
          rcases hws x List.mem_cons_self with h | h | h
          · exact absurd h h2
          · exact absurd h h1
          · exact h
        refine ⟨fun y hy => ?_, ?_, b3⟩
        · rcases List.mem_cons.1 hy with rfl | hy
          · exact nice_word.2 hx
          · exact b1 y hy
        · rw [flatL_cons, flat_word, List.append_assoc, ← b2]
          rfl

/-! ### Of a text -/

def trimS : List UInt8 → List UInt8
  | [] => []
  | c :: r => if spB c = true then trimS r else c :: r

def midB (c : UInt8) : Bool := !(spB c || brB c)
def takeW (s : List UInt8) : List UInt8 := s.takeWhile midB
def dropW (s : List UInt8) : List UInt8 := s.dropWhile midB

/-- The trees of a text, and what is left. -/
def treesS : Nat → List UInt8 → Bool → Option (List Tn × List UInt8)
  | 0, _, _ => none
  | n + 1, s, wi =>
    match trimS s with
    | [] => if wi = true then none else some ([], [])
    | c :: r =>
      if c = 41 then (if wi = true then some ([], r) else none)
      else if c = 40 then (treesS n r true).bind fun p => (treesS n p.2 wi).map fun q => (⟨[], p.1, true⟩ :: q.1, q.2)
      else (treesS n (dropW (c :: r)) wi).map fun q => (⟨takeW (c :: r), [], false⟩ :: q.1, q.2)

theorem trim_tok : ∀ s, tokW [] (trimS s) = tokW [] s
  | [] => rfl
  | c :: r => by
    rw [trimS]
    by_cases h : spB c = true
    · rw [if_pos h, trim_tok r, tokW, if_pos h]; simp [flush]
    · rw [if_neg h]

theorem trim_head : ∀ (s : List UInt8) (c : UInt8) (r : List UInt8), trimS s = c :: r → spB c = false
  | [], c, r, h => by simp [trimS] at h
  | d :: s, c, r, h => by
    rw [trimS] at h
    by_cases hd : spB d = true
    · rw [if_pos hd] at h; exact trim_head s c r h
    · rw [if_neg hd] at h
      obtain ⟨rfl, rfl⟩ := List.cons.inj h
      simpa using hd

theorem trim_len : ∀ s, (trimS s).length ≤ s.length
  | [] => by simp [trimS]
  | c :: r => by
    rw [trimS]
    split
    · have := trim_len r; simp; omega
    · simp

theorem word_split (c : UInt8) (r : List UInt8) (h1 : spB c = false) (h2 : c ≠ 41) (h3 : c ≠ 40) : plainW (takeW (c :: r)) ∧ delim (dropW (c :: r)) ∧ takeW (c :: r) ++ dropW (c :: r) = c :: r ∧ (dropW (c :: r)).length ≤ r.length := by
  have hb : brB c = false := by simp [brB, h2, h3]
  have hm : midB c = true := by simp [midB, h1, hb]
  have e1 : takeW (c :: r) = c :: r.takeWhile midB := by simp [takeW, hm]
  have e2 : dropW (c :: r) = r.dropWhile midB := by simp [dropW, hm]
  refine ⟨⟨by rw [e1]; simp, fun d hd => ?_⟩, ?_, List.takeWhile_append_dropWhile, ?_⟩
  · have : midB d = true := List.all_eq_true.1 (List.all_takeWhile (p := midB) (l := c :: r)) d hd
    simpa [midB] using this
  · rw [e2]
    cases hd : r.dropWhile midB with
    | nil => exact .inl rfl
    | cons d s =>
      refine .inr ⟨d, s, rfl, ?_⟩
      have := List.head_dropWhile_not (p := midB) (l := r) (by rw [hd]; simp)
      simp only [hd, List.head_cons] at this
      simpa [midB, Classical.or_iff_not_imp_left] using this
  · rw [e2]
    exact (List.dropWhile_suffix (p := midB) (l := r)).length_le

theorem trees_tok : ∀ (n : Nat) (s : List UInt8) (wi : Bool), (treesS n s wi).map (fun p => (p.1, tokW [] p.2)) = treesT n (tokW [] s) wi
  | 0, _, _ => rfl
  | n + 1, s, wi => by
    rw [← trim_tok s, treesS]
    cases hs : trimS s with
    | nil =>
      cases wi
      · simp [treesT, tokW, flush]
      · simp [treesT, tokW, flush]
    | cons c r =>
      have hsp := trim_head s c r hs
      by_cases h1 : c = 41
      · subst h1
        simp only [if_true]
        rw [tok_close, treesT, if_pos rfl]
        cases wi <;> simp
      · by_cases h2 : c = 40
        · subst h2
          simp only [if_neg h1, if_true]
          rw [tok_open, treesT, if_neg (by decide), if_pos rfl, ← trees_tok n r true]
          cases treesS n r true with
          | none => rfl
          | some p =>
            simp only [Option.bind_some, Option.map_some]
            rw [← trees_tok n p.2 wi]
            cases treesS n p.2 wi <;> rfl
        · simp only [if_neg h1, if_neg h2]
          obtain ⟨a1, a2, a3, _⟩ := word_split c r hsp h1 h2
          have e : tokW [] (c :: r) = takeW (c :: r) :: tokW [] (dropW (c :: r)) := by
            conv => lhs; rw [← a3]
            exact tok_plain _ _ a1 a2
          rw [e, treesT, if_neg (plain_ne a1).2, if_neg (plain_ne a1).1, ← trees_tok n (dropW (c :: r)) wi]
          cases treesS n (dropW (c :: r)) wi <;> rfl

theorem tok_kinds : ∀ (s cur : List UInt8), (∀ c ∈ cur, spB c = false ∧ brB c = false) → ∀ x, x ∈ tokW cur s → x = [40] ∨ x = [41] ∨ plainW x := by
  have fl : ∀ cur : List UInt8, (∀ c ∈ cur, spB c = false ∧ brB c = false) → ∀ x, x ∈ flush cur → x = [40] ∨ x = [41] ∨ plainW x := by
    intro cur hc x hx
    rw [flush] at hx
    split at hx
    · cases hx
    · obtain rfl : x = cur := by simpa using hx
      exact .inr (.inr ⟨by assumption, hc⟩)
  intro s
  induction s with
  | nil => intro cur hc x hx; exact fl cur hc x hx
  | cons c r ih =>
    intro cur hc x hx
    rw [tokW] at hx
    split at hx
    · rcases List.mem_append.1 hx with h | h
      · exact fl cur hc x h
      · exact ih [] (fun _ h => by cases h) x h
    · rename_i hs
      split at hx
      · rename_i hb
        rcases List.mem_append.1 hx with h | h
        · rcases List.mem_append.1 h with h | h
          · exact fl cur hc x h
          · obtain rfl : x = [c] := by simpa using h
            simp only [brB, Bool.or_eq_true, beq_iff_eq] at hb
            rcases hb with rfl | rfl
            · exact .inl rfl
            · exact .inr (.inl rfl)
        · exact ih [] (fun _ h => by cases h) x h
      · rename_i hb
        refine ih (cur ++ [c]) (fun d hd => ?_) x hx
        rcases List.mem_append.1 hd with h | h
        · exact hc d h
        · obtain rfl : d = c := by simpa using h
          exact ⟨by simpa using hs, by simpa using hb⟩

/-- What is left is less. -/
theorem trees_less : ∀ (n : Nat) (s : List UInt8) (wi : Bool) (p : List Tn × List UInt8), treesS n s wi = some p → p.2.length ≤ s.length ∧ (wi = true → p.2.length + 1 ≤ s.length)
  | 0, _, _, _, h => by simp [treesS] at h
  | n + 1, s, wi, p, h => by
    rw [treesS] at h
    have hl := trim_len s
    cases hs : trimS s with
    | nil =>
      rw [hs] at h
      cases wi
      · simp only [Bool.false_eq_true, if_false, Option.some.injEq] at h
        subst h
        simp
      · simp at h
    | cons c r =>
      rw [hs] at h hl
      simp only [List.length_cons] at hl
      by_cases h1 : c = 41
      · simp only [if_pos h1] at h
        cases wi
        · simp at h
        · simp only [if_true, Option.some.injEq] at h
          subst h
          simp; omega
      · simp only [if_neg h1] at h
        by_cases h2 : c = 40
        · rw [if_pos h2] at h
          obtain ⟨p1, hp1, h⟩ := Option.bind_eq_some_iff.1 h
          obtain ⟨q, hq, rfl⟩ := Option.map_eq_some_iff.1 h
          have a := trees_less n r true p1 hp1
          have b := trees_less n p1.2 wi q hq
          have := a.2 rfl
          refine ⟨by show q.2.length ≤ _; omega, fun hw => ?_⟩
          have := b.2 hw
          show q.2.length + 1 ≤ _
          omega
        · rw [if_neg h2] at h
          obtain ⟨q, hq, rfl⟩ := Option.map_eq_some_iff.1 h
          have b := trees_less n _ wi q hq
          obtain ⟨_, _, _, a⟩ := word_split c r (trim_head s c r hs) h1 h2
          refine ⟨by show q.2.length ≤ _; omega, fun hw => ?_⟩
          have := b.2 hw
          show q.2.length + 1 ≤ _
          omega

/-- More steps than bytes are enough. -/
theorem trees_more : ∀ (n m : Nat) (s : List UInt8) (wi : Bool), s.length < n → s.length < m → treesS n s wi = treesS m s wi
  | 0, _, s, _, h, _ => by omega
  | n + 1, 0, s, _, _, h => by omega
  | n + 1, m + 1, s, wi, hn, hm => by
    rw [treesS, treesS]
    have hl := trim_len s
    cases hs : trimS s with
    | nil => rfl
    | cons c r =>
      rw [hs] at hl
      simp only [List.length_cons] at hl
      by_cases h1 : c = 41
      · simp only [if_pos h1]
      · simp only [if_neg h1]
        by_cases h2 : c = 40
        · simp only [if_pos h2]
          rw [trees_more n m r true (by omega) (by omega)]
          cases hp : treesS m r true with
          | none => rfl
          | some p =>
            have := (trees_less m r true p hp).1
            simp only [Option.bind_some]
            rw [trees_more n m p.2 wi (by omega) (by omega)]
        · simp only [if_neg h2]
          obtain ⟨_, _, _, a⟩ := word_split c r (trim_head s c r hs) h1 h2
          rw [trees_more n m _ wi (by omega) (by omega)]
end Go.Proofs.YtnddkmccagiclaaGreatDoor
