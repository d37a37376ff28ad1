/-
  A good term's text is read as it: the plain mathematics; no program in it.
-/
import Derived.Test.YtibjnkpmnimgoaaDoorParse
import Derived.Test.YtibjnkpmnimgoaaDoorPrintB
namespace Go.Proofs.YtibjnkpmnimgoaaDoor
open Go.RowKit

theorem isAny_eq {t : Ty} (h : isAnyY t = true) : t = anyY := by
  obtain ⟨k, l⟩ := t
  simp only [isAnyY, anyY, relY_mk, escSame, Bool.false_or, Bool.and_eq_true, beq_iff_eq] at h
  obtain ⟨rfl, h⟩ := h
  cases l with
  | nil => rfl
  | cons x r => simp [relL] at h

theorem tok_all (n : Nat) (l : List Tm) (hl : ∀ y, y ∈ l → ∀ rest, delim rest → tokW [] (tmText n y ++ rest) = tmWords n y ++ tokW [] rest) :
    ∀ rest, delim rest → tokW [] (l.flatMap (fun y => 32 :: tmText n y) ++ rest) = l.flatMap (fun y => tmWords n y) ++ tokW [] rest := by
  induction l with
  | nil => intro rest _; simp
  | cons x l ih =>
    intro rest hr
    simp only [List.flatMap_cons, List.append_assoc, List.cons_append]
    have hd : delim (l.flatMap (fun y => 32 :: tmText n y) ++ rest) := by
      cases l with
      | nil => simpa using hr
      | cons y l => simp only [List.flatMap_cons, List.cons_append]; exact delim_space _
    rw [tok_space, hl x (by simp) _ hd, ih (fun y hy => hl y (by simp [hy])) rest hr]

theorem bindL_mem {α : Type} {f : α → Nat → Option Nat} {l : List α} {r r' : Nat} (h : bindL f l r = some r') (y : α) (hy : y ∈ l) : ∃ q q', f y q = some q' := by
  obtain ⟨j, hj, rfl⟩ := List.getElem_of_mem hy
  exact bindL_each h j hj

theorem plain_ref (n : Int) : plainW (35 :: Lib.itoa n) := by
  refine ⟨by simp, fun c hc => ?_⟩
  rcases List.mem_cons.1 hc with rfl | hc
  · decide
  · exact (plain_itoa n).2 c hc

theorem tok_tm : ∀ (n : Nat) (ins : Int) (x : Tm) (r r' : Nat), goodS 0 n ins x r = some r' → ∀ rest, delim rest → tokW [] (tmText n x ++ rest) = tmWords n x ++ tokW [] rest
  | 0, ins, x, r, r', h => by simp [goodS] at h
  | n + 1, ins, x, r, r', h => by
    intro rest hr
    obtain ⟨m, q, hm, rfl, hok, hb⟩ := goodS_top h
    obtain rfl : n = m := by omega
    obtain ⟨h1, h9, hl, hty, hnum⟩ := okTop_parts hok
    simp only [tmText, tmWords]
    by_cases k1 : x.k = 1
    · rw [if_pos k1, if_pos k1, tok_plain _ _ (plain_ref x.n) hr]; rfl
    · rw [if_neg k1, if_neg k1]
      by_cases k2 : x.k = 2
      · rw [if_pos k2, if_pos k2, tok_plain _ _ (plain_itoa x.n) hr]; rfl
      · rw [if_neg k2, if_neg k2]
        by_cases k3 : x.k = 3
        · rw [if_pos k3, if_pos k3, tok_plain _ _ (plain_truth x.n) hr]; rfl
        · rw [if_neg k3, if_neg k3]
          have hall := tok_all n x.l (fun y hy => by
            obtain ⟨q1, q2, hq⟩ := bindL_mem hb y hy
            exact tok_tm n _ y q1 q2 hq) (41 :: rest) (delim_close _)
          have hd : delim (x.l.flatMap (fun y => 32 :: tmText n y) ++ (41 :: rest)) := by
            cases x.l with
            | nil => exact delim_close _
            | cons y l => simp only [List.flatMap_cons, List.cons_append]; exact delim_space _
          simp only [List.cons_append, List.nil_append, List.append_assoc]
          rw [tok_open]
          by_cases ht : tells x.k = true
          · simp only [okTypes, Bool.and_eq_true] at hty
            rw [ht, if_pos rfl] at hty
            rw [if_pos ht, if_pos ht, List.cons_append, tok_plain _ _ (plain_kind x.k) (delim_space _), tok_space, tok_ty 4 x.t _ hty.2 hd, hall]
            rw [tok_close]
          · rw [if_neg ht, if_neg ht, List.nil_append, tok_plain _ _ (plain_kind x.k) hd, hall, tok_close]
            rfl

/-! ### Reading -/

theorem bw_ne {a b : List UInt8} (h : a ≠ b) : bw a ≠ bw b := fun e => h (bw_inj e)

theorem read_ty : ∀ (n N : Nat) (t : Ty) (rest : List ByteArray), goodY n t = true → (tyWords n t).length ≤ N → readTy N ((tyWords n t).map bw ++ rest) = some (t, rest)
  | 0, N, t, rest, h, _ => by simp [goodY] at h
  | n + 1, N, ⟨k, l⟩, rest, h, hN => by
    match l, h with
    | [], h =>
      have hk : k = 0 ∨ k = 1 ∨ k = 2 := by simpa [goodY, or_assoc] using h
      have hk3 : k ≠ 3 := by omega
      simp only [tyWords, if_neg hk3, List.length_cons, List.length_nil] at hN ⊢
      obtain ⟨M, rfl⟩ : ∃ M, N = M + 1 := ⟨N - 1, by omega⟩
      simp only [List.map_cons, List.map_nil, List.cons_append, List.nil_append, readTy]
      rcases hk with rfl | rfl | rfl
      · rfl
      · rfl
      · rfl
    | [x], h => simp [goodY] at h
    | x :: y :: z :: s, h => simp [goodY] at h
    | [x, y], h =>
      simp only [goodY, Bool.and_eq_true, beq_iff_eq] at h
      obtain ⟨⟨rfl, hx⟩, hy⟩ := h
      have e : tyWords (n + 1) ⟨3, [x, y]⟩ = [[40], [116, 111]] ++ tyWords n x ++ tyWords n y ++ [[41]] := by simp [tyWords]
      rw [e] at hN ⊢
      simp only [List.length_append, List.length_cons, List.length_nil] at hN
      obtain ⟨M, rfl⟩ : ∃ M, N = M + 1 := ⟨N - 1, by omega⟩
      simp only [List.map_append, List.map_cons, List.map_nil, List.append_assoc, List.cons_append, List.nil_append]
      have e1 : bw [40] = opB := rfl
      have e2 : bw [116, 111] = toB := rfl
      have e3 : bw [41] = clB := rfl
      rw [e1, e2, e3, readTy, if_pos rfl]
      simp only [behind, if_true, Option.bind_some]
      rw [read_ty n M x _ hx (by omega)]
      simp only [Option.bind_some]
      rw [read_ty n M y _ hy (by omega)]
      simp

theorem read_all (f : List ByteArray → Option (Tm × List ByteArray)) (g : Tm → List (List UInt8)) : ∀ (l : List Tm), (∀ y, y ∈ l → ∀ rest, f ((g y).map bw ++ rest) = some (y, rest)) → ∀ rest, readN f l.length ((l.flatMap g).map bw ++ rest) = some (l, rest)
  | [], _, rest => by simp [readN]
  | x :: l, h, rest => by
    simp only [List.length_cons, readN, List.flatMap_cons, List.map_append, List.append_assoc]
    rw [h x (by simp)]
    simp only [Option.bind_some]
    rw [read_all f g l (fun y hy => h y (by simp [hy])) rest]
    rfl

theorem itoa_word (n : Int) (w : List UInt8) (c : UInt8) (hw : w.head? = some c) (hc : ¬ (c = 45 ∨ (48 ≤ c.toNat ∧ c.toNat ≤ 57))) : Lib.itoa n ≠ w := by
  intro e
  have h := itoa_are n
  cases hi : Lib.itoa n with
  | nil => exact h.1 hi
  | cons d r =>
    rw [← e, hi] at hw
    simp only [List.head?_cons, Option.some.injEq] at hw
    subst hw
    exact hc (h.2 d (by rw [hi]; simp))

theorem read_word_ref (n : Int) (h0 : -1000000 ≤ n) (h1 : n ≤ 1000000) (r : List ByteArray) : readWord (bw (35 :: Lib.itoa n)) r = some (⟨1, n, anyY, anyY, []⟩, r) := by
  have e1 : atWord (bw (35 :: Lib.itoa n)) truthWs 0 = none := by
    have a : (⟨#[110, 111]⟩ : ByteArray) ≠ bw (35 :: Lib.itoa n) := fun e => by have := bw_inj (a := [110, 111]) e; cases this
    have b : (⟨#[121, 101, 115]⟩ : ByteArray) ≠ bw (35 :: Lib.itoa n) := fun e => by have := bw_inj (a := [121, 101, 115]) e; cases this
    simp [atWord, truthWs, a, b]
  simp only [readWord, e1, bw_data]
  have e2 : (⟨(Lib.itoa n).toArray⟩ : ByteArray) = bw (Lib.itoa n) := rfl
  rw [e2, num_itoa n h0 h1]
  rfl

theorem read_word_lit (n : Int) (h0 : -1000000 ≤ n) (h1 : n ≤ 1000000) (r : List ByteArray) : readWord (bw (Lib.itoa n)) r = some (⟨2, n, anyY, anyY, []⟩, r) := by
  have e1 : atWord (bw (Lib.itoa n)) truthWs 0 = none := by
    have a : (⟨#[110, 111]⟩ : ByteArray) ≠ bw (Lib.itoa n) := fun e => itoa_word n [110, 111] 110 rfl (by decide) (bw_inj (a := [110, 111]) e).symm
    have b : (⟨#[121, 101, 115]⟩ : ByteArray) ≠ bw (Lib.itoa n) := fun e => itoa_word n [121, 101, 115] 121 rfl (by decide) (bw_inj (a := [121, 101, 115]) e).symm
    simp [atWord, truthWs, a, b]
  simp only [readWord, e1, bw_data]
  cases hi : Lib.itoa n with
  | nil => exact absurd hi (itoa_are n).1
  | cons c d =>
    have hc : c ≠ 35 := (num_sign c ((itoa_are n).2 c (by rw [hi]; simp))).2.2.1
    split
    · rename_i heq; cases heq; exact absurd rfl hc
    · rw [← hi, num_itoa n h0 h1]
      rfl

theorem read_word_truth (n : Int) (h : n = 0 ∨ n = 1) (r : List ByteArray) : readWord (bw (truthW n)) r = some (⟨3, n, anyY, anyY, []⟩, r) := by
  rcases h with rfl | rfl <;> rfl

theorem kindAt_word (k : Int) (h4 : 4 ≤ k) (h9 : k ≤ 9) : kindAt (bw (kindW k)) = some k.toNat := by
  obtain rfl | rfl | rfl | rfl | rfl | rfl : k = 4 ∨ k = 5 ∨ k = 6 ∨ k = 7 ∨ k = 8 ∨ k = 9 := by omega
  all_goals rfl

theorem words_pos (n : Nat) (x : Tm) (ins : Int) (r r' : Nat) (h : goodS 0 n ins x r = some r') : 1 ≤ (tmWords n x).length := by
  obtain ⟨m, q, rfl, rfl, hok, hb⟩ := goodS_top h
  simp only [tmWords]
  repeat' split
  all_goals simp

theorem read_tm : ∀ (n N : Nat) (ins : Nat) (x : Tm) (r r' : Nat), ins + n ≤ 1000 → goodS 0 n (ins : Int) x r = some r' → (tmWords n x).length ≤ N → ∀ rest, readTm N ((tmWords n x).map bw ++ rest) = some (x, rest)
  | 0, N, ins, x, r, r', _, h => by simp [goodS] at h
  | n + 1, N, ins, x, r, r', hi, h => by
    intro hN rest
    obtain ⟨m, q, hm, rfl, hok, hb⟩ := goodS_top h
    obtain rfl : n = m := by omega
    obtain ⟨h1, h9, hl, hty, hnum⟩ := okTop_parts hok
    have hbd := okNum_bound (by omega) hnum
    have hwp := words_pos (n + 1) x _ _ _ h
    obtain ⟨M, rfl⟩ : ∃ M, N = M + 1 := ⟨N - 1, by omega⟩
    obtain ⟨k, v, t, f, l⟩ := x
    dsimp only at h1 h9 hl hty hnum hbd hb ⊢
    simp only [okTypes, Bool.and_eq_true] at hty
    have hf := isAny_eq hty.1
    subst hf
    have leafT : tells k = false → t = anyY := fun ht => by
      have := hty.2
      rw [ht, if_neg (by simp)] at this
      exact isAny_eq this
    have leafL : partsOf k = 0 → l = [] := fun hp => List.length_eq_zero_iff.1 (hl.trans hp)
    by_cases k1 : k = 1
    · subst k1
      have e : tmWords (n + 1) ⟨1, v, t, anyY, l⟩ = [35 :: Lib.itoa v] := by simp [tmWords]
      rw [e, leafT rfl, leafL rfl]
      simp only [List.map_cons, List.map_nil, List.cons_append, List.nil_append]
      rw [readTm_word _ _ _ (bw_ne (b := [40]) (by simp)), read_word_ref v hbd.1 hbd.2]
    · by_cases k2 : k = 2
      · subst k2
        have e : tmWords (n + 1) ⟨2, v, t, anyY, l⟩ = [Lib.itoa v] := by simp [tmWords]
        rw [e, leafT rfl, leafL rfl]
        simp only [List.map_cons, List.map_nil, List.cons_append, List.nil_append]
        rw [readTm_word _ _ _ (bw_ne (b := [40]) (itoa_word v [40] 40 rfl (by decide))), read_word_lit v hbd.1 hbd.2]
      · by_cases k3 : k = 3
        · subst k3
          have hv : v = 0 ∨ v = 1 := by simpa [okNum] using hnum
          have e : tmWords (n + 1) ⟨3, v, t, anyY, l⟩ = [truthW v] := by simp [tmWords]
          rw [e, leafT rfl, leafL rfl]
          simp only [List.map_cons, List.map_nil, List.cons_append, List.nil_append]
          have hne : truthW v ≠ [40] := by rcases hv with rfl | rfl <;> decide
          rw [readTm_word _ _ _ (bw_ne (b := [40]) hne), read_word_truth v hv]
        · have hv : v = 0 := by simpa [okNum, k1, k2, k3] using hnum
          subst hv
          have h4 : 4 ≤ k := by omega
          have e : tmWords (n + 1) ⟨k, 0, t, anyY, l⟩ = [[40], kindW k] ++ (if tells k = true then tyWords 4 t else []) ++ l.flatMap (fun y => tmWords n y) ++ [[41]] := by simp [tmWords, k1, k2, k3]
          rw [e] at hN ⊢
          simp only [List.length_append, List.length_cons, List.length_nil] at hN
          simp only [List.map_append, List.map_cons, List.map_nil, List.append_assoc, List.cons_append, List.nil_append]
          have e1 : bw [40] = opB := rfl
          have e3 : bw [41] = clB := rfl
          rw [e1, e3, readTm_open]
          have hkt : ((k.toNat : Nat) : Int) = k := by omega
          simp only [inTm, kindAt_word k h4 h9, Option.bind_some, hkt]
          have hrt : ∀ s, readT M k.toNat ((if tells k = true then tyWords 4 t else []).map bw ++ s) = some (t, s) := by
            intro s
            unfold readT
            rw [hkt]
            by_cases ht : tells k = true
            · have hg := hty.2
              rw [ht, if_pos rfl] at hg
              rw [ht]
              simp only [if_true]
              rw [ht] at hN
              simp only [if_true] at hN
              exact read_ty 4 M t s hg (by omega)
            · have ht' : tells k = false := by simpa using ht
              rw [ht']
              simp only [Bool.false_eq_true, if_false, List.map_nil, List.nil_append]
              rw [leafT ht']
          rw [hrt]
          simp only [Option.bind_some]
          have hins : insOf k (ins : Int) = ((if k = 7 then ins + 1 else ins : Nat) : Int) := by unfold insOf; split <;> simp
          rw [hins] at hb
          have hra := read_all (readTm M) (tmWords n) l (fun y hy s => by
            obtain ⟨q1, q2, hq⟩ := bindL_mem hb y hy
            have : (tmWords n y).length ≤ (l.flatMap fun y => tmWords n y).length := mem_len hy
            exact read_tm n M _ y q1 q2 (by split <;> omega) hq (by omega) s) (clB :: rest)
          rw [← hl, hra]
          simp [behind]

/-- A good term's text is read as it. -/
theorem parse_text (x : Tm) (h : goodM 0 x = true) : parseS (tmText 40 x) = some x := by
  obtain ⟨r', hr⟩ := Option.isSome_iff_exists.1 h
  have hr0 : goodS 0 40 ((0 : Nat) : Int) x 40 = some r' := hr
  have hw : wordsOf (tmText 40 x) = (tmWords 40 x).map bw := by
    have := tok_tm 40 0 x 40 r' hr [] (.inl rfl)
    simp only [List.append_nil, tokW, flush, if_true] at this
    rw [wordsOf, this]
  have hread := read_tm 40 ((wordsOf (tmText 40 x)).length + 1) 0 x 40 r' (by omega) hr0 (by rw [hw, List.length_map]; omega) []
  rw [List.append_nil, ← hw] at hread
  rw [parseS, hread]
  simp [h]
end Go.Proofs.YtibjnkpmnimgoaaDoor
