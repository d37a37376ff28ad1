/-
  A good term's text is read as it: the plain mathematics; no program in it.
-/
import Derived.Test.YtnddkmccagiclaaGreatDoorLot5a19ec12aa
import Derived.Test.YtnddkmccagiclaaGreatDoorLot865065d6b2
import Derived.Test.YtnddkmccagiclaaGreatDoorLot61f0038289
import Derived.Test.YtnddkmccagiclaaGreatDoorLotc6d25e872e
import Derived.Test.YtnddkmccagiclaaGreatDoorLot8074724fc1
import Derived.Test.YtnddkmccagiclaaGreatDoorRows
import Derived.Test.YtnddkmccagiclaaGreatDoorLotf63a16e00c
import Derived.ProofKit
import Derived.Deep.Slices
import Derived.Test.YtnddkmccagiclaaGreatDoorLot694cd256ef
import Derived.OpenShut
import Derived.Lib.LaidTab
import Derived.Test.YtnddkmccagiclaaGreatDoorLot8f935494a2
import Derived.Stop.LaidErr
import Derived.Test.YtnddkmccagiclaaGreatDoorLotfb68e5fec9
import Derived.LaidLaws
namespace Go.Proofs.YtnddkmccagiclaaGreatDoor
open Go.RowKit

theorem tok_all (n : Nat) (l : List Tm) (hl : ∀ y, y ∈ l → ∀ rest, delim rest → tokW [] (tmText n y ++ rest) = tmWords n y ++ tokW [] rest) :
    ∀ rest, delim rest → tokW [] (l.flatMap (fun y => 32 :: tmText n y) ++ rest) = l.flatMap (fun y => tmWords n y) ++ tokW [] rest := by
  induction l with
  | nil => intro rest _; simp
  | cons x l ih =>
    intro rest hr
    simp only [List.flatMap_cons, List.append_assoc, List.cons_append]
    have hd : delim (l.flatMap (fun y => 32 :: tmText n y) ++ rest) := by
      cases l with
      | nil => simpa using hr
      | cons y l => simp only [List.flatMap_cons, List.cons_append]; exact delim_space _
    rw [tok_space, hl x (by simp) _ hd, ih (fun y hy => hl y (by simp [hy])) rest hr]

theorem bindL_mem {α : Type} {f : α → Nat → Option Nat} {l : List α} {r r' : Nat} (h : bindL f l r = some r') (y : α) (hy : y ∈ l) : ∃ q q', f y q = some q' := by
  obtain ⟨j, hj, rfl⟩ := List.getElem_of_mem hy
  exact bindL_each h j hj

theorem plain_ref (n : Int) : plainW (35 :: Lib.itoa n) := by
  refine ⟨by simp, fun c hc => ?_⟩
  rcases List.mem_cons.1 hc with rfl | hc
  · decide
  · exact (plain_itoa n).2 c hc

theorem tok_tm : ∀ (n : Nat) (ins : Int) (x : Tm) (r r' : Nat), goodS 0 n ins x r = some r' → ∀ rest, delim rest → tokW [] (tmText n x ++ rest) = tmWords n x ++ tokW [] rest
  | 0, ins, x, r, r', h => by simp [goodS] at h
  | n + 1, ins, x, r, r', h => by
    intro rest hr
    obtain ⟨m, q, hm, rfl, hok, hb⟩ := goodS_top h
    obtain rfl : n = m := by omega
    obtain ⟨h1, h9, hl, hty, hnum⟩ := okTop_parts hok
    simp only [tmText, tmWords]
    by_cases k1 : x.k = 1
    · rw [if_pos k1, if_pos k1, tok_plain _ _ (plain_ref x.n) hr]; rfl
    · rw [if_neg k1, if_neg k1]
      by_cases k2 : x.k = 2
      · rw [if_pos k2, if_pos k2, tok_plain _ _ (plain_itoa x.n) hr]; rfl
      · rw [if_neg k2, if_neg k2]
        by_cases k3 : x.k = 3
        · rw [if_pos k3, if_pos k3, tok_plain _ _ (plain_truth x.n) hr]; rfl
        · rw [if_neg k3, if_neg k3]
          have hall := tok_all n x.l (fun y hy => by
            obtain ⟨q1, q2, hq⟩ := bindL_mem hb y hy
            exact tok_tm n _ y q1 q2 hq) (41 :: rest) (delim_close _)
          have hd : delim (x.l.flatMap (fun y => 32 :: tmText n y) ++ (41 :: rest)) := by
            cases x.l with
            | nil => exact delim_close _
            | cons y l => simp only [List.flatMap_cons, List.cons_append]; exact delim_space _
          simp only [List.cons_append, List.nil_append, List.append_assoc]
          rw [tok_open]
          by_cases ht : tells x.k = true
          · simp only [okTypes, Bool.and_eq_true] at hty
            rw [ht, if_pos rfl] at hty
            rw [if_pos ht, if_pos ht, List.cons_append, tok_plain _ _ (plain_kind x.k) (delim_space _), tok_space, tok_ty 4 x.t _ hty.2 hd, hall]
            rw [tok_close]
          · rw [if_neg ht, if_neg ht, List.nil_append, tok_plain _ _ (plain_kind x.k) hd, hall, tok_close]
            rfl

/-! ### Reading -/

theorem bw_ne {a b : List UInt8} (h : a ≠ b) : bw a ≠ bw b := fun e => h (bw_inj e)

theorem read_ty : ∀ (n N : Nat) (t : Ty) (rest : List ByteArray), goodY n t = true → (tyWords n t).length ≤ N → readTy N ((tyWords n t).map bw ++ rest) = some (t, rest)
  | 0, N, t, rest, h, _ => by simp [goodY] at h
  | n + 1, N, ⟨k, l⟩, rest, h, hN => by
    match l, h with
    | [], h =>
      have hk : k = 0 ∨ k = 1 ∨ k = 2 := by simpa [goodY, or_assoc] using h
      have hk3 : k ≠ 3 := by omega
      simp only [tyWords, if_neg hk3, List.length_cons, List.length_nil] at hN ⊢
      obtain ⟨M, rfl⟩ : ∃ M, N = M + 1 := ⟨N - 1, by omega⟩
      simp only [List.map_cons, List.map_nil, List.cons_append, List.nil_append, readTy]
      rcases hk with rfl | rfl | rfl
      · rfl
      · rfl
      · rfl
    | [x], h => simp [goodY] at h
    | x :: y :: z :: s, h => simp [goodY] at h
    | [x, y], h =>
      simp only [goodY, Bool.and_eq_true, beq_iff_eq] at h
      obtain ⟨⟨rfl, hx⟩, hy⟩ := h
      have e : tyWords (n + 1) ⟨3, [x, y]⟩ = [[40], [116, 111]] ++ tyWords n x ++ tyWords n y ++ [[41]] := by simp [tyWords]
      rw [e] at hN ⊢
      simp only [List.length_append, List.length_cons, List.length_nil] at hN
      obtain ⟨M, rfl⟩ : ∃ M, N = M + 1 := ⟨N - 1, by omega⟩
      simp only [List.map_append, List.map_cons, List.map_nil, List.append_assoc, List.cons_append, List.nil_append]
      have e1 : bw [40] = opB := rfl
      have e2 : bw [116, 111] = toB := rfl
      have e3 : bw [41] = clB := rfl
      rw [e1, e2, e3, readTy, if_pos rfl]
      simp only [behind, if_true, Option.bind_some]
      rw [read_ty n M x _ hx (by omega)]
      simp only [Option.bind_some]
      rw [read_ty n M y _ hy (by omega)]
      simp

theorem read_all (f : List ByteArray → Option (Tm × List ByteArray)) (g : Tm → List (List UInt8)) : ∀ (l : List Tm), (∀ y, y ∈ l → ∀ rest, f ((g y).map bw ++ rest) = some (y, rest)) → ∀ rest, readN f l.length ((l.flatMap g).map bw ++ rest) = some (l, rest)
  | [], _, rest => by simp [readN]
  | x :: l, h, rest => by
    simp only [List.length_cons, readN, List.flatMap_cons, List.map_append, List.append_assoc]
    rw [h x (by simp)]
    simp only [Option.bind_some]
    rw [read_all f g l (fun y hy => h y (by simp [hy])) rest]
    rfl

theorem itoa_word (n : Int) (w : List UInt8) (c : UInt8) (hw : w.head? = some c) (hc : ¬ (c = 45 ∨ (48 ≤ c.toNat ∧ c.toNat ≤ 57))) : Lib.itoa n ≠ w := by
  intro e
  have h := itoa_are n
  cases hi : Lib.itoa n with
  | nil => exact h.1 hi
  | cons d r =>
    rw [← e, hi] at hw
    simp only [List.head?_cons, Option.some.injEq] at hw
    subst hw
    exact hc (h.2 d (by rw [hi]; simp))

theorem read_word_ref (n : Int) (h0 : -1000000 ≤ n) (h1 : n ≤ 1000000) (r : List ByteArray) : readWord (bw (35 :: Lib.itoa n)) r = some (⟨1, n, anyY, anyY, []⟩, r) := by
  have e1 : atWord (bw (35 :: Lib.itoa n)) truthWs 0 = none := by
    have a : (⟨#[110, 111]⟩ : ByteArray) ≠ bw (35 :: Lib.itoa n) := fun e => by have := bw_inj (a := [110, 111]) e; cases this
    have b : (⟨#[121, 101, 115]⟩ : ByteArray) ≠ bw (35 :: Lib.itoa n) := fun e => by have := bw_inj (a := [121, 101, 115]) e; cases this
    simp [atWord, truthWs, a, b]
  simp only [readWord, e1, bw_data]
  have e2 : (⟨(Lib.itoa n).toArray⟩ : ByteArray) = bw (Lib.itoa n) := rfl
  rw [e2, num_itoa n h0 h1]
  rfl

theorem read_word_lit (n : Int) (h0 : -1000000 ≤ n) (h1 : n ≤ 1000000) (r : List ByteArray) : readWord (bw (Lib.itoa n)) r = some (⟨2, n, anyY, anyY, []⟩, r) := by
  have e1 : atWord (bw (Lib.itoa n)) truthWs 0 = none := by
    have a : (⟨#[110, 111]⟩ : ByteArray) ≠ bw (Lib.itoa n) := fun e => itoa_word n [110, 111] 110 rfl (by decide) (bw_inj (a := [110, 111]) e).symm
    have b : (⟨#[121, 101, 115]⟩ : ByteArray) ≠ bw (Lib.itoa n) := fun e => itoa_word n [121, 101, 115] 121 rfl (by decide) (bw_inj (a := [121, 101, 115]) e).symm
    simp [atWord, truthWs, a, b]
  simp only [readWord, e1, bw_data]
  cases hi : Lib.itoa n with
  | nil => exact absurd hi (itoa_are n).1
  | cons c d =>
    have hc : c ≠ 35 := (num_sign c ((itoa_are n).2 c (by rw [hi]; simp))).2.2.1
    split
    · rename_i heq; cases heq; exact absurd rfl hc
    · rw [← hi, num_itoa n h0 h1]
      rfl

theorem read_word_truth (n : Int) (h : n = 0 ∨ n = 1) (r : List ByteArray) : readWord (bw (truthW n)) r = some (⟨3, n, anyY, anyY, []⟩, r) := by
  rcases h with rfl | rfl <;> rfl

theorem kindAt_word (k : Int) (h4 : 4 ≤ k) (h9 : k ≤ 9) : kindAt (bw (kindW k)) = some k.toNat := by
  obtain rfl | rfl | rfl | rfl | rfl | rfl : k = 4 ∨ k = 5 ∨ k = 6 ∨ k = 7 ∨ k = 8 ∨ k = 9 := by omega
  all_goals rfl

theorem words_pos (n : Nat) (x : Tm) (ins : Int) (r r' : Nat) (h : goodS 0 n ins x r = some r') : 1 ≤ (tmWords n x).length := by
  obtain ⟨m, q, rfl, rfl, hok, hb⟩ := goodS_top h
  simp only [tmWords]
  repeat' split
  all_goals simp

theorem read_tm : ∀ (n N : Nat) (ins : Nat) (x : Tm) (r r' : Nat), ins + n ≤ 1000 → goodS 0 n (ins : Int) x r = some r' → (tmWords n x).length ≤ N → ∀ rest, readTm N ((tmWords n x).map bw ++ rest) = some (x, rest)
  | 0, N, ins, x, r, r', _, h => by simp [goodS] at h
  | n + 1, N, ins, x, r, r', hi, h => by
    intro hN rest
    obtain ⟨m, q, hm, rfl, hok, hb⟩ := goodS_top h
    obtain rfl : n = m := by omega
    obtain ⟨h1, h9, hl, hty, hnum⟩ := okTop_parts hok
    have hbd := okNum_bound (by omega) hnum
    have hwp := words_pos (n + 1) x _ _ _ h
    obtain ⟨M, rfl⟩ : ∃ M, N = M + 1 := ⟨N - 1, by omega⟩
    obtain ⟨k, v, t, f, l⟩ := x
    dsimp only at h1 h9 hl hty hnum hbd hb ⊢
    simp only [okTypes, Bool.and_eq_true] at hty
    have hf := isAny_eq hty.1
    subst hf
    have leafT : tells k = false → t = anyY := fun ht => by
      have := hty.2
      rw [ht, if_neg (by simp)] at this
      exact isAny_eq this
    have leafL : partsOf k = 0 → l = [] := fun hp => List.length_eq_zero_iff.1 (hl.trans hp)
    by_cases k1 : k = 1
    · subst k1
      have e : tmWords (n + 1) ⟨1, v, t, anyY, l⟩ = [35 :: Lib.itoa v] := by simp [tmWords]
      rw [e, leafT rfl, leafL rfl]
      simp only [List.map_cons, List.map_nil, List.cons_append, List.nil_append]
      rw [readTm_word _ _ _ (bw_ne (b := [40]) (by simp)), read_word_ref v hbd.1 hbd.2]
    · by_cases k2 : k = 2
      · subst k2
        have e : tmWords (n + 1) ⟨2, v, t, anyY, l⟩ = [Lib.itoa v] := by simp [tmWords]
        rw [e, leafT rfl, leafL rfl]
        simp only [List.map_cons, List.map_nil, List.cons_append, List.nil_append]
        rw [readTm_word _ _ _ (bw_ne (b := [40]) (itoa_word v [40] 40 rfl (by decide))), read_word_lit v hbd.1 hbd.2]
      · by_cases k3 : k = 3
        · subst k3
          have hv : v = 0 ∨ v = 1 := by simpa [okNum] using hnum
          have e : tmWords (n + 1) ⟨3, v, t, anyY, l⟩ = [truthW v] := by simp [tmWords]
          rw [e, leafT rfl, leafL rfl]
          simp only [List.map_cons, List.map_nil, List.cons_append, List.nil_append]
          have hne : truthW v ≠ [40] := by rcases hv with rfl | rfl <;> decide
          rw [readTm_word _ _ _ (bw_ne (b := [40]) hne), read_word_truth v hv]
        · have hv : v = 0 := by simpa [okNum, k1, k2, k3] using hnum
          subst hv
          have h4 : 4 ≤ k := by omega
          have e : tmWords (n + 1) ⟨k, 0, t, anyY, l⟩ = [[40], kindW k] ++ (if tells k = true then tyWords 4 t else []) ++ l.flatMap (fun y => tmWords n y) ++ [[41]] := by simp [tmWords, k1, k2, k3]
          rw [e] at hN ⊢
          simp only [List.length_append, List.length_cons, List.length_nil] at hN
          simp only [List.map_append, List.map_cons, List.map_nil, List.append_assoc, List.cons_append, List.nil_append]
          have e1 : bw [40] = opB := rfl
          have e3 : bw [41] = clB := rfl
          rw [e1, e3, readTm_open]
          have hkt : ((k.toNat : Nat) : Int) = k := by omega
          simp only [inTm, kindAt_word k h4 h9, Option.bind_some, hkt]
          have hrt : ∀ s, readT M k.toNat ((if tells k = true then tyWords 4 t else []).map bw ++ s) = some (t, s) := by
            intro s
            unfold readT
            rw [hkt]
            by_cases ht : tells k = true
            · have hg := hty.2
              rw [ht, if_pos rfl] at hg
              rw [ht]
              simp only [if_true]
              rw [ht] at hN
              simp only [if_true] at hN
              exact read_ty 4 M t s hg (by omega)
            · have ht' : tells k = false := by simpa using ht
              rw [ht']
              simp only [Bool.false_eq_true, if_false, List.map_nil, List.nil_append]
              rw [leafT ht']
          rw [hrt]
          simp only [Option.bind_some]
          have hins : insOf k (ins : Int) = ((if k = 7 then ins + 1 else ins : Nat) : Int) := by unfold insOf; split <;> simp
          rw [hins] at hb
          have hra := read_all (readTm M) (tmWords n) l (fun y hy s => by
            obtain ⟨q1, q2, hq⟩ := bindL_mem hb y hy
            have : (tmWords n y).length ≤ (l.flatMap fun y => tmWords n y).length := mem_len hy
            exact read_tm n M _ y q1 q2 (by split <;> omega) hq (by omega) s) (clB :: rest)
          rw [← hl, hra]
          simp [behind]

/-- A good term's text is read as it. -/
theorem parse_text (x : Tm) (h : goodM 0 x = true) : parseS (tmText 40 x) = some x := by
  obtain ⟨r', hr⟩ := Option.isSome_iff_exists.1 h
  have hr0 : goodS 0 40 ((0 : Nat) : Int) x 40 = some r' := hr
  have hw : wordsOf (tmText 40 x) = (tmWords 40 x).map bw := by
    have := tok_tm 40 0 x 40 r' hr [] (.inl rfl)
    simp only [List.append_nil, tokW, flush, if_true] at this
    rw [wordsOf, this]
  have hread := read_tm 40 ((wordsOf (tmText 40 x)).length + 1) 0 x 40 r' (by omega) hr0 (by rw [hw, List.length_map]; omega) []
  rw [List.append_nil, ← hw] at hread
  rw [parseS, hread]
  simp [h]
end Go.Proofs.YtnddkmccagiclaaGreatDoor

/-
  What the call of chaperonelaw.terms answers.
-/
namespace Go.Proofs.YtnddkmccagiclaaGreatDoor
open Go.RowKit

/-! ### The closed term -/

/-- (fun (to num any) (call #0 7)) -/
def T0 : Tm := ⟨7, 0, ⟨3, [⟨1, []⟩, ⟨0, []⟩]⟩, anyY, [⟨8, 0, anyY, anyY, [⟨1, 0, anyY, anyY, []⟩, ⟨2, 7, anyY, anyY, []⟩]⟩]⟩
def X0 : ByteArray := ⟨#[40, 102, 117, 110, 32, 40, 116, 111, 32, 110, 117, 109, 32, 97, 110, 121, 41, 32, 40, 99, 97, 108, 108, 32, 35, 48, 32, 55, 41, 41]⟩

theorem itoa0 : Lib.itoa 0 = [48] := by
  rw [Lib.itoa, if_neg (by omega)]
  exact Lib.decDigits_one (by omega)
theorem itoa7 : Lib.itoa 7 = [55] := by
  rw [Lib.itoa, if_neg (by omega)]
  exact Lib.decDigits_one (by omega)

theorem isAny_any0 : isAnyY anyY = true := by simp [isAnyY, anyY, relY_mk, relL]

theorem T0_texts (n : Nat) : tmText (n + 1 + 1 + 1) T0 = X0.data.toList := by
  have e : tyText (1 + 1 + 1 + 1) ⟨3, [⟨1, []⟩, ⟨0, []⟩]⟩ = [40, 116, 111, 32, 110, 117, 109, 32, 97, 110, 121, 41] := rfl
  have e4 : tyText 4 ⟨3, [⟨1, []⟩, ⟨0, []⟩]⟩ = [40, 116, 111, 32, 110, 117, 109, 32, 97, 110, 121, 41] := e
  simp [T0, tmText, e4, kindW, tells, itoa0, itoa7, X0]

theorem T0_text : tmText 40 T0 = X0.data.toList := T0_texts 37

theorem T0_step (n r : Nat) : goodS 0 (n + 1 + 1 + 1) 0 T0 (r + 1 + 1 + 1 + 1) = some r := by
  simp [goodS, T0, okTop, okTypes, okNum, tells, partsOf, goodY, isAny_any0, bindL, insOf]

theorem T0_good : goodM 0 T0 = true := congrArg Option.isSome (T0_step 37 36)

theorem T0_size : T0.sz = 4 := by simp [T0, Tm.sz_mk]

theorem X0_parse : parseS X0.data.toList = some T0 := by
  rw [← T0_text]
  exact parse_text T0 T0_good

set_option maxRecDepth 20000 in
set_option maxHeartbeats 2000000 in
/-- chaperonelaw.terms. -/
theorem terms_any (w : World) (hg : Gl w) : Calls Tryz.prog 15 #[] w fun e w' => e = .returned (.bool true) ∧ Below w.heap.size w w' := by
  have HP : Hid (Calls Tryz.prog 16 #[.string ⟨#[40, 102, 117, 110, 32, 40, 116, 111, 32, 110, 117, 109, 32, 97, 110, 121, 41, 32, 40, 99, 97, 108, 108, 32, 35, 48, 32, 55, 41, 41]⟩] w fun e w' => ∃ x : TT, e = .returned (.tuple #[.agg #[.int .i64 x.k, .int .i64 x.n, .int .i64 x.t.k, .slice x.t.a x.t.l.length x.t.c, .int .i64 x.f.k, .slice x.f.a x.f.l.length x.f.c, .slice x.a x.l.length x.c], .int .i64 0]) ∧ x.In w' ∧ x.nb ∧ x.tm = T0 ∧ Below w.heap.size w w') := by
    refine (parse_any X0 (by decide) w hg).mono ?_
    rintro e w' ⟨x, er, rfl, hin, hnb, hb, ⟨h, _⟩ | ⟨_, h, _⟩ | ⟨_, h, rfl⟩⟩
    · exact absurd h (by decide)
    · rw [X0_parse] at h; cases h
    · rw [X0_parse] at h
      exact ⟨x, rfl, hin, hnb, (Option.some.inj h).symm, hb⟩
  have HG : Hid (Gl w) := hg
  clear hg
  go_enter Tryz.func15, Tryz.ntmps15
  go_wp2_with fail
  refine HP.out.mono ?_
  rintro e w1 ⟨x, rfl, hin, hnb, htm, hb1⟩
  have hk7 : x.k = 7 := by rw [← TT.tm_k, htm]; rfl
  have hz4 : x.sz = 4 := by rw [TT.sz_tm, htm, T0_size]
  have hbo : ∀ o, Below w1.heap.size w1 (w1.alloc o) := fun o => (Below.refl _ _).alloc (Nat.le_refl _) _
  have HPR : Hid (∀ o, Calls Tryz.prog 7 #[.agg #[.int .i64 x.k, .int .i64 x.n, .int .i64 x.t.k, .slice x.t.a x.t.l.length x.t.c, .int .i64 x.f.k, .slice x.f.a x.f.l.length x.f.c, .slice x.a x.l.length x.c]] (w1.alloc o) fun e w' => e = .returned (.tuple #[.string ⟨#[40, 102, 117, 110, 32, 40, 116, 111, 32, 110, 117, 109, 32, 97, 110, 121, 41, 32, 40, 99, 97, 108, 108, 32, 35, 48, 32, 55, 41, 41]⟩, .int .i64 0]) ∧ Below (w1.alloc o).heap.size (w1.alloc o) w') := by
    intro o
    refine (print_any x _ ((HG.out.below hb1).below (hbo o)) (hin.below (hbo o)) hnb).mono ?_
    rintro e w' ⟨s, er, rfl, hb, ⟨h, _⟩ | ⟨_, h, _⟩ | ⟨_, _, rfl, rfl⟩⟩
    · rw [htm, T0_good] at h; cases h
    · rw [htm, T0_text] at h; exact absurd h (by decide)
    · refine ⟨?_, hb⟩
      rw [htm, T0_text]
      rfl
  have HND : Hid (∀ W, x.In W → Calls Tryz.prog 11 #[.agg #[.int .i64 x.k, .int .i64 x.n, .int .i64 x.t.k, .slice x.t.a x.t.l.length x.t.c, .int .i64 x.f.k, .slice x.f.a x.f.l.length x.f.c, .slice x.a x.l.length x.c]] W fun e w' => e = .returned (.int .i64 4) ∧ Below W.heap.size W w') := by
    intro W hW
    have := nodes_any x W hW (by omega)
    rw [hz4] at this
    exact this
  have HK : Hid (x.k = 7) := hk7
  have e7 : (x.k == 7) = true := by simp [hk7]
  have HI : Hid (x.In w1 ∧ Below w.heap.size w w1) := ⟨hin, hb1⟩
  clear hk7 hz4 htm hin hnb hb1 hbo HP HG
  go_wp2_with fail
  refine (HPR.out _).mono ?_
  rintro e w2 ⟨rfl, hb2⟩
  have h7 : At7 w2 w1.heap.size 0 x := At7.below hb2 (by constructor <;> simp [go_sem])
  have hbw : Below w1.heap.size w1 w2 := ((Below.refl _ _).alloc (Nat.le_refl _) _).trans (hb2.mono (by simp))
  have c0 := h7.c0
  have c1 := h7.c1
  have c2 := h7.c2
  have c3 := h7.c3
  have c4 := h7.c4
  have c5 := h7.c5
  have c6 := h7.c6
  simp only [Nat.zero_add] at c0 c1 c2 c3 c4 c5 c6
  have HN2 : Hid (Calls Tryz.prog 11 #[.agg #[.int .i64 x.k, .int .i64 x.n, .int .i64 x.t.k, .slice x.t.a x.t.l.length x.t.c, .int .i64 x.f.k, .slice x.f.a x.f.l.length x.f.c, .slice x.a x.l.length x.c]] w2 fun e w' => e = .returned (.int .i64 4) ∧ Below w2.heap.size w2 w') := HND.out w2 (HI.out.1.below hbw)
  have HB2 : Hid (Below w.heap.size w w2) := HI.out.2.trans (hbw.mono HI.out.2.size)
  clear h7 hb2 hbw HPR HND
  go_wp2_with fail
  refine HN2.out.mono ?_
  rintro e w3 ⟨rfl, hb3⟩
  have HB3 : Hid (Below w.heap.size w w3) := HB2.out.trans (hb3.mono HB2.out.size)
  clear hb3 c0 c1 c2 c3 c4 c5 c6
  go_wp2_with fail
  go_ret
  exact ⟨rfl, HB3.out⟩
end Go.Proofs.YtnddkmccagiclaaGreatDoor

/-
  What the call of chaperonelaw.TermParses answers.
-/
namespace Go.Proofs.YtnddkmccagiclaaGreatDoor
open Go.RowKit

theorem tok_tsm (x : TT) : x.tok → x.tsm := by
  induction x using TT.ind with
  | h k n t f a c l ih =>
    intro h
    obtain ⟨h1, h2, h3⟩ := TT.tok_mk.1 h
    exact TT.tsm_mk.2 ⟨h1.2, h2.2, fun y hy => ih y hy (h3 y hy)⟩

theorem sz_lw (x : TT) (h : x.sz ≤ 2000000) : x.lw := by
  induction x using TT.ind with
  | h k n t f a c l ih =>
    rw [TT.sz_mk] at h
    have hl := len_sum l
    refine TT.lw_mk.2 ⟨by omega, fun y hy => ih y hy ?_⟩
    have e : y.tm.sz ≤ ((l.map TT.tm).map Tm.sz).sum := sz_mem _ _ (List.mem_map.2 ⟨_, hy, rfl⟩)
    have e2 : (l.map TT.tm).map Tm.sz = l.map TT.sz := by rw [List.map_map]; exact List.map_congr_left fun z _ => z.sz_tm.symm
    rw [e2, ← TT.sz_tm] at e
    omega

theorem parsed_small {s : List UInt8} {x : TT} (h : parseS s = some x.tm) : x.lw ∧ x.tsm := by
  rw [parseS] at h
  split at h
  · split at h
    · rename_i t _ hg
      rw [Option.some.inj h] at hg
      obtain ⟨h1, h2⟩ := goodM_tok hg
      exact ⟨sz_lw x (by omega), tok_tsm x h1⟩
    · cases h
  · cases h

theorem tleaf_small (k n : Int) : (tleaf k n).lw ∧ (tleaf k n).tsm :=
  ⟨sz_lw _ (by rw [TT.sz_tm, tleaf_tm, Tm.sz_mk]; simp), tok_tsm _ (tleaf_tok k n)⟩

set_option maxRecDepth 20000 in
set_option maxHeartbeats 8000000 in
/-- TermParses. -/
theorem tmParses_any (s : ByteArray) (w : World) (hm : s.size ≤ 9223372036854775807) (hg : Gl w) (hta : Ta w) : Calls Tryz.prog 4 #[.string s] w fun e w' => e = .returned (.bool true) ∧ Below w.heap.size w w' := by
  have HC : Hid (Calls Tryz.prog 16 #[.string s] w fun e w' => ∃ (t : TT) (er : Int), e = .returned (.tuple #[.agg #[.int .i64 t.k, .int .i64 t.n, .int .i64 t.t.k, .slice t.t.a t.t.l.length t.t.c, .int .i64 t.f.k, .slice t.f.a t.f.l.length t.f.c, .slice t.a t.l.length t.c], .int .i64 er]) ∧ Hid (t.In w' ∧ Below w.heap.size w w' ∧ (t.lw ∧ t.tsm) ∧
      ((1000 < s.size ∧ er = 4 ∧ t = tleaf 0 0) ∨ (s.size ≤ 1000 ∧ parseS s.data.toList = none ∧ er = 1 ∧ t = tleaf 0 0) ∨ (s.size ≤ 1000 ∧ parseS s.data.toList = some t.tm ∧ er = 0)))) := by
    refine (parse_any s hm w hg).mono ?_
    rintro e w' ⟨t, er, rfl, h1, _, h3, h4⟩
    refine ⟨t, er, rfl, h1, h3, ?_, h4⟩
    rcases h4 with ⟨_, _, rfl⟩ | ⟨_, _, _, rfl⟩ | ⟨_, h, _⟩
    · exact tleaf_small 0 0
    · exact tleaf_small 0 0
    · exact parsed_small h
  have HG : Hid (Gl w ∧ Ta w) := ⟨hg, hta⟩
  clear hg hta
  go_enter Tryz.func4, Tryz.ntmps4
  go_wp2_with fail
  refine HC.out.mono ?_
  rintro e w1 ⟨t, er, rfl, HT⟩
  clear HC
  obtain ⟨V1, hV1⟩ : ∃ W, W = w1.alloc (.cells #[.int .i64 t.k, .int .i64 t.n, .int .i64 t.t.k, .slice t.t.a t.t.l.length t.t.c, .int .i64 t.f.k, .slice t.f.a t.f.l.length t.f.c, .slice t.a t.l.length t.c] 27) := ⟨_, rfl⟩
  have hb1 : Below w1.heap.size w1 V1 := by rw [hV1]; exact (Below.refl _ _).alloc (Nat.le_refl _) _
  have hbw : Below w.heap.size w V1 := HT.out.2.1.trans (hb1.mono HT.out.2.1.size)
  have HT1 : Hid (At7 V1 w1.heap.size 0 t ∧ t.In V1 ∧ Below w.heap.size w V1) := ⟨by rw [hV1]; exact At7.new w1 t, HT.out.1.below hb1, hbw⟩
  have HC : Hid (Calls Tryz.prog 17 #[.string s] V1 fun e w' => ∃ u : TT, e = .returned (.tuple #[.agg #[.int .i64 u.k, .int .i64 u.n, .int .i64 u.t.k, .slice u.t.a u.t.l.length u.t.c, .int .i64 u.f.k, .slice u.f.a u.f.l.length u.f.c, .slice u.a u.l.length u.c], .int .i64 er]) ∧ Hid (u.In w' ∧ Below V1.heap.size V1 w' ∧ t.tm = u.tm)) := by
    refine (parseTerm_any s V1 (HG.out.2.below hbw)).mono ?_
    rintro e w' ⟨u, er', rfl, HU⟩
    obtain ⟨u1, u2, u3⟩ := HU.out
    have hh : er' = er ∧ t.tm = u.tm := by
      rcases HT.out.2.2.2 with ⟨a1, rfl, rfl⟩ | ⟨a1, a2, rfl, rfl⟩ | ⟨a1, a2, rfl⟩ <;> rcases u3 with ⟨c1, rfl, rfl⟩ | ⟨c1, c2, rfl, rfl⟩ | ⟨c1, c2, rfl⟩
      · exact ⟨rfl, rfl⟩
      · omega
      · omega
      · omega
      · exact ⟨rfl, rfl⟩
      · rw [a2] at c2; cases c2
      · omega
      · rw [a2] at c2; cases c2
      · rw [a2] at c2; exact ⟨rfl, Option.some.inj c2⟩
    obtain ⟨rfl, hh2⟩ := hh
    exact ⟨u, rfl, u1, u2, hh2⟩
  have HTS : Hid (t.lw ∧ t.tsm) := HT.out.2.2.1
  clear hb1 hbw HT
  go_upto_region 2 with fail
  rw [← hV1]
  clear hV1
  go_wp2_with fail
  refine HC.out.mono ?_
  rintro e w3 ⟨u, rfl, HU⟩
  clear HC
  obtain ⟨V2, hV2⟩ : ∃ W, W = w3.alloc (.cells #[.int .i64 u.k, .int .i64 u.n, .int .i64 u.t.k, .slice u.t.a u.t.l.length u.t.c, .int .i64 u.f.k, .slice u.f.a u.f.l.length u.f.c, .slice u.a u.l.length u.c] 27) := ⟨_, rfl⟩
  have hb3 : Below w3.heap.size w3 V2 := by rw [hV2]; exact (Below.refl _ _).alloc (Nat.le_refl _) _
  have hb12 : Below V1.heap.size V1 V2 := HU.out.2.1.trans (hb3.mono HU.out.2.1.size)
  have HX : Hid (Below w.heap.size w V2) := HT1.out.2.2.trans (hb12.mono HT1.out.2.2.size)
  obtain ⟨t0, t1, t2, t3, t4, t5, t6⟩ := (HT1.out.1.below hb12).all
  have hu7 : At7 V2 w3.heap.size 0 u := by rw [hV2]; exact At7.new w3 u
  obtain ⟨u0, u1, u2, u3, u4, u5, u6⟩ := hu7.all
  have HSM : Hid (Calls Tryz.prog 14 #[.agg #[.int .i64 t.k, .int .i64 t.n, .int .i64 t.t.k, .slice t.t.a t.t.l.length t.t.c, .int .i64 t.f.k, .slice t.f.a t.f.l.length t.f.c, .slice t.a t.l.length t.c], .agg #[.int .i64 u.k, .int .i64 u.n, .int .i64 u.t.k, .slice u.t.a u.t.l.length u.t.c, .int .i64 u.f.k, .slice u.f.a u.f.l.length u.f.c, .slice u.a u.l.length u.c]] V2 fun e w' => e = .returned (.bool true) ∧ Below V2.heap.size V2 w') := sameTerm_yes t u V2 (HT1.out.2.1.below hb12) (HU.out.1.below hb3) HU.out.2.2 HTS.out.1 HTS.out.2
  have HTE : Hid (∀ W, Below w.heap.size w W → Calls Tryz.prog 15 #[] W fun e w' => e = .returned (.bool true) ∧ Below W.heap.size W w') := fun W hb => terms_any W (HG.out.1.below hb)
  have hee : (er == er) = true := by simp
  clear hb3 hb12 hu7 HT1 HU HTS HG
  go_upto_region 3 with fail
  rw [← hV2]
  clear hV2
  go_wp2_with fail
  refine HSM.out.mono ?_
  rintro e w5 ⟨rfl, hb5⟩
  have H5 : Hid (Below w.heap.size w w5) := HX.out.trans (hb5.mono HX.out.size)
  clear hb5 HSM t0 t1 t2 t3 t4 t5 t6 u0 u1 u2 u3 u4 u5 u6
  go_wp2_with fail
  refine (HTE.out _ H5.out).mono ?_
  rintro e w6 ⟨rfl, hb6⟩
  have H6 : Hid (Below w.heap.size w w6) := H5.out.trans (hb6.mono H5.out.size)
  clear hb6 HTE
  go_wp2_with fail
  refine bodyPost_ret (v := .bool true) ?_ rfl ⟨rfl, H6.out⟩
  simp [results, Tryz.results4, go_sem]
end Go.Proofs.YtnddkmccagiclaaGreatDoor

/-
  Whatever can be read as data of the type 'Type{Kind int, L []Type}' is a tree that lies in memory.
-/
namespace Go.Proofs.YtnddkmccagiclaaGreatDoor
open Go.ChangeShapes Go.WideShapes Go.ChangeAt Go.RowKit

theorem Tryz.cells24 : Tryz.prog.cellsOf 24 = 2 := by kernel_rfl
theorem Tryz.cells22 : Tryz.prog.cellsOf 22 = 1 := by kernel_rfl
theorem Tryz.cells3 : Tryz.prog.cellsOf 3 = 1 := by kernel_rfl

theorem cell_spot {w : World} {a : Addr} {v : Value} (h : w.cell? a = some v) : a = ⟨a.block, a.off, none⟩ := by
  obtain ⟨b, o, s⟩ := a
  cases s with
  | none => rfl
  | some s =>
    unfold World.cell? at h
    split at h <;> simp at h

theorem cellsTwo {w : World} {base : Nat} {a : Addr} {u v : Value} (h : w.cells? base a 2 = some [u, v]) : w.cell? a = some u ∧ w.cell? (a.add 1) = some v := by
  unfold World.cells? at h
  split at h
  · have h0 : a.add 0 = a := by simp [Addr.add]
    simp only [List.range_succ, List.range_zero, List.nil_append, List.cons_append, List.mapM_cons, List.mapM_nil, h0] at h
    cases hu : w.cell? a with
    | none => simp [hu] at h
    | some u' =>
      cases hv : w.cell? (a.add 1) with
      | none => simp [hu, hv] at h
      | some v' =>
        simp [hu, hv] at h
        exact ⟨by rw [h.1], by rw [h.2]⟩
  · cases h

set_option maxRecDepth 100000 in
theorem tr_of {H : Type} {enc : TypeId × Value → H} {W : World} {base : Nat} {spare : Nat → Bool} {held : Bool} : ∀ (fuel : Nat) (cs : List Value) (x : DataW H × List MemPlace),
    DataW.trod enc Tryz.prog W base spare held fuel 24 cs = some x → ∃ t : Tr, cs = [.int .i64 t.k, .slice t.a t.l.length t.c] ∧ t.In W := by
  intro fuel
  induction fuel using Nat.strongRecOn with
  | _ fuel ih =>
    intro cs x h
    obtain ⟨xs, n, rfl, _, hl, hlen, hf⟩ := DataW.trod_struct Tryz.underlying24 h
    rw [Tryz.cells24] at hl
    match cs, hl with
    | [c0, c1], _ =>
      have h0 := hf 0 { name := "Kind", type := 3, offset := 0, embedded := false, tag := "", pkgPath := "", byteOffset := 0 } rfl
      have h1 := hf 1 { name := "L", type := 22, offset := 1, embedded := false, tag := "", pkgPath := "", byteOffset := 8 } rfl
      simp only [List.drop_zero, List.drop_succ_cons, Tryz.cells3, Tryz.cells22, List.take_succ_cons, List.take_zero] at h0 h1
      match xs, hlen with
      | [y0, y1], _ =>
        simp only [List.getElem?_cons_zero, List.getElem?_cons_succ] at h0 h1
        obtain ⟨k, hc0, _, _⟩ := DataW.trod_int Tryz.underlying3 h0
        simp only [List.cons.injEq, and_true] at hc0
        subst hc0
        rcases DataW.trod_slice Tryz.underlying22 h1 with ⟨hc1, _⟩ | ⟨a, len, cap, elems, rest, m, rfl, hc1, _, _, _, _, hel, hat, _⟩
        · simp only [List.cons.injEq, and_true] at hc1
          subst hc1
          exact ⟨.mk k none 0 [], rfl, Tr.In_nil _ _ _ _⟩
        · simp only [List.cons.injEq, and_true] at hc1
          subst hc1
          have hex : ∀ i, i < len → ∃ t : Tr, W.cells? base (a.add (i * 2)) 2 = some [.int .i64 t.k, .slice t.a t.l.length t.c] ∧ t.In W := by
            intro i hi
            have hi' := hat i hi
            rw [Tryz.cells24, List.getElem?_eq_getElem (by omega)] at hi'
            obtain ⟨cs', hcs, htr⟩ := Option.bind_eq_some_iff.1 hi'
            obtain ⟨t, rfl, hin⟩ := ih m (by omega) cs' _ htr
            exact ⟨t, hcs, hin⟩
          haveI : Inhabited Tr := ⟨.mk 0 none 0 []⟩
          obtain ⟨T, hT⟩ := Go.Deep.choose_lt hex
          refine ⟨.mk k (some a) cap ((List.range len).map T), by simp, ?_⟩
          refine Tr.In_mk.2 ⟨fun j hj => ?_, fun t ht => ?_⟩
          rotate_left
          · obtain ⟨i, hi, rfl⟩ := List.mem_map.1 ht
            exact (hT i (by simpa using hi)).2
          have hj' : j < len := by simpa using hj
          obtain ⟨hz, _⟩ := cellsTwo (hT 0 (by omega)).1
          simp only [Nat.zero_mul] at hz
          have ha0 : a.add 0 = a := by simp [Addr.add]
          rw [ha0] at hz
          have ha := cell_spot hz
          have hc := (hT j hj').1
          obtain ⟨c0, c1⟩ := cellsTwo hc
          have hadd : ∀ q, a.add q = ⟨a.block, a.off + q, none⟩ := by
            intro q
            rw [ha]
            unfold Addr.add
            by_cases hq : q = 0 <;> simp [hq]
          refine ⟨a.block, a.off, by rw [← ha], ?_, ?_⟩
          · rw [hadd] at c0
            simpa using c0
          · rw [Go.Deep.add_add, hadd] at c1
            simp only [List.getElem_map, List.getElem_range, Tr.sl]
            rw [show a.off + j * 2 + 1 = a.off + (j * 2 + 1) by omega]
            exact c1

set_option maxRecDepth 100000 in
/-- An argument of the type is a tree. -/
theorem tr_arg {H : Type} {enc : TypeId × Value → H} {W : World} {base b0 : Nat} {spare : Nat → Bool} {held : Bool} {r : Reach} {v : Value} {d : DataW H} {p : List MemPlace} (hv : Value.okWide Tryz.prog W r b0 24 v) (h : DataW.Trod enc Tryz.prog W base spare held 24 v d p) :
    ∃ t : Tr, v = .agg #[.int .i64 t.k, .slice t.a t.l.length t.c] ∧ t.In W := by
  obtain ⟨cs, rfl, _⟩ := okWide_struct Tryz.underlying24 hv
  obtain ⟨fuel, hf⟩ := h
  obtain ⟨t, ht, hin⟩ := tr_of fuel _ _ hf
  refine ⟨t, ?_, hin⟩
  have : cs.toList = [.int .i64 t.k, .slice t.a t.l.length t.c] := by simpa [Value.cells] using ht
  rw [← this]
end Go.Proofs.YtnddkmccagiclaaGreatDoor

/-
  Whatever can be read as data of the type 'Term' is a term's tree that lies in memory.
-/
namespace Go.Proofs.YtnddkmccagiclaaGreatDoor
open Go.ChangeShapes Go.WideShapes Go.ChangeAt Go.RowKit

theorem Tryz.cells27 : Tryz.prog.cellsOf 27 = 7 := by kernel_rfl
theorem Tryz.cells25 : Tryz.prog.cellsOf 25 = 1 := by kernel_rfl

theorem cells_seven {w : World} {base : Nat} {a : Addr} {l : List Value} (h : w.cells? base a 7 = some l) : ∀ i, i < 7 → w.cell? (a.add i) = l[i]? := by
  unfold World.cells? at h
  split at h
  · intro i hi
    have hm := Lib.mapM_at h i i (by simp [hi])
    obtain ⟨b, hb, hf⟩ := hm
    rw [hb]
    exact hf
  · cases h

theorem int_le {n : Int} (h : (Lit.int .i64 n).wf = true) : n ≤ 9223372036854775807 := (bounds_i64 h).2

set_option maxRecDepth 100000 in
theorem tm_of {H : Type} {enc : TypeId × Value → H} {W : World} {base : Nat} {spare : Nat → Bool} {held : Bool} : ∀ (fuel : Nat) (cs : List Value) (x : DataW H × List MemPlace),
    DataW.trod enc Tryz.prog W base spare held fuel 27 cs = some x → ∃ t : TT, cs = [.int .i64 t.k, .int .i64 t.n, .int .i64 t.t.k, .slice t.t.a t.t.l.length t.t.c, .int .i64 t.f.k, .slice t.f.a t.f.l.length t.f.c, .slice t.a t.l.length t.c] ∧ t.In W ∧ t.nb := by
  intro fuel
  induction fuel using Nat.strongRecOn with
  | _ fuel ih =>
    intro cs x h
    obtain ⟨xs, n, rfl, _, hl, hlen, hf⟩ := DataW.trod_struct Tryz.underlying27 h
    rw [Tryz.cells27] at hl
    match cs, hl with
    | [c0, c1, c2, c3, c4, c5, c6], _ =>
      have h0 := hf 0 { name := "Kind", type := 3, offset := 0, embedded := false, tag := "", pkgPath := "", byteOffset := 0 } rfl
      have h1 := hf 1 { name := "N", type := 3, offset := 1, embedded := false, tag := "", pkgPath := "", byteOffset := 8 } rfl
      have h2 := hf 2 { name := "T", type := 24, offset := 2, embedded := false, tag := "", pkgPath := "", byteOffset := 16 } rfl
      have h3 := hf 3 { name := "From", type := 24, offset := 4, embedded := false, tag := "", pkgPath := "", byteOffset := 48 } rfl
      have h4 := hf 4 { name := "L", type := 25, offset := 6, embedded := false, tag := "", pkgPath := "", byteOffset := 80 } rfl
      simp only [List.drop_zero, List.drop_succ_cons, Tryz.cells3, Tryz.cells24, Tryz.cells25, List.take_succ_cons, List.take_zero] at h0 h1 h2 h3 h4
      match xs, hlen with
      | [y0, y1, y2, y3, y4], _ =>
        simp only [List.getElem?_cons_zero, List.getElem?_cons_succ] at h0 h1 h2 h3 h4
        obtain ⟨k, hc0, _, _⟩ := DataW.trod_int Tryz.underlying3 h0
        obtain ⟨nn, hc1, _, hwf⟩ := DataW.trod_int Tryz.underlying3 h1
        obtain ⟨t, hc2, ht⟩ := tr_of n _ _ h2
        obtain ⟨f, hc4, hfi⟩ := tr_of n _ _ h3
        simp only [List.cons.injEq, and_true] at hc0 hc1 hc2 hc4
        obtain ⟨rfl, rfl⟩ := hc2
        obtain ⟨rfl, rfl⟩ := hc4
        subst hc0 hc1
        rcases DataW.trod_slice Tryz.underlying25 h4 with ⟨hc6, _⟩ | ⟨a, len, cap, elems, rest, m, rfl, hc6, _, _, _, _, hel, hat, _⟩
        · simp only [List.cons.injEq, and_true] at hc6
          subst hc6
          exact ⟨.mk k nn t f none 0 [], rfl, TT.In_mk.2 ⟨ht, hfi, fun j h => absurd h (by simp), fun t h => by cases h⟩, TT.nb_mk.2 ⟨int_le hwf, fun t h => by cases h⟩⟩
        · simp only [List.cons.injEq, and_true] at hc6
          subst hc6
          have hex : ∀ i, i < len → ∃ t : TT, W.cells? base (a.add (i * 7)) 7 = some [.int .i64 t.k, .int .i64 t.n, .int .i64 t.t.k, .slice t.t.a t.t.l.length t.t.c, .int .i64 t.f.k, .slice t.f.a t.f.l.length t.f.c, .slice t.a t.l.length t.c] ∧ t.In W ∧ t.nb := by
            intro i hi
            have hi' := hat i hi
            rw [Tryz.cells27, List.getElem?_eq_getElem (by omega)] at hi'
            obtain ⟨cs', hcs, htr⟩ := Option.bind_eq_some_iff.1 hi'
            obtain ⟨t, rfl, hin⟩ := ih m (by omega) cs' _ htr
            exact ⟨t, hcs, hin⟩
          haveI : Inhabited TT := ⟨tleaf 0 0⟩
          obtain ⟨T, hT⟩ := Go.Deep.choose_lt hex
          refine ⟨.mk k nn t f (some a) cap ((List.range len).map T), by simp, ?_, ?_⟩
          · refine TT.In_mk.2 ⟨ht, hfi, fun j hj => ?_, fun t ht => ?_⟩
            rotate_left
            · obtain ⟨i, hi, rfl⟩ := List.mem_map.1 ht
              exact (hT i (by simpa using hi)).2.1
            have hj' : j < len := by simpa using hj
            have hz := cells_seven (hT 0 (by omega)).1 0 (by omega)
            simp only [Nat.zero_mul, List.getElem?_cons_zero] at hz
            have ha0 : (a.add 0).add 0 = a := by simp [Addr.add]
            rw [ha0] at hz
            have ha := cell_spot hz
            have hc := cells_seven (hT j hj').1
            have hadd : ∀ q, a.add q = ⟨a.block, a.off + q, none⟩ := by
              intro q
              rw [ha]
              unfold Addr.add
              by_cases hq : q = 0 <;> simp [hq]
            have hat7 : ∀ i, i < 7 → W.cell? ⟨a.block, a.off + j * 7 + i, none⟩ = [Value.int .i64 (T j).k, .int .i64 (T j).n, .int .i64 (T j).t.k, .slice (T j).t.a (T j).t.l.length (T j).t.c, .int .i64 (T j).f.k, .slice (T j).f.a (T j).f.l.length (T j).f.c, .slice (T j).a (T j).l.length (T j).c][i]? := by
              intro i hi
              have := hc i hi
              rw [Go.Deep.add_add, hadd] at this
              rw [show a.off + j * 7 + i = a.off + (j * 7 + i) by omega]
              exact this
            refine ⟨a.block, a.off, by rw [← ha], ?_⟩
            simp only [List.getElem_map, List.getElem_range]
            exact ⟨hat7 0 (by omega), hat7 1 (by omega), hat7 2 (by omega), hat7 3 (by omega), hat7 4 (by omega), hat7 5 (by omega), hat7 6 (by omega)⟩
          · refine TT.nb_mk.2 ⟨int_le hwf, fun t ht => ?_⟩
            obtain ⟨i, hi, rfl⟩ := List.mem_map.1 ht
            exact (hT i (by simpa using hi)).2.2

set_option maxRecDepth 100000 in
/-- An argument of the type is a term's tree. -/
theorem tm_arg {H : Type} {enc : TypeId × Value → H} {W : World} {base b0 : Nat} {spare : Nat → Bool} {held : Bool} {r : Reach} {v : Value} {d : DataW H} {p : List MemPlace} (hv : Value.okWide Tryz.prog W r b0 27 v) (h : DataW.Trod enc Tryz.prog W base spare held 27 v d p) :
    ∃ t : TT, v = .agg #[.int .i64 t.k, .int .i64 t.n, .int .i64 t.t.k, .slice t.t.a t.t.l.length t.t.c, .int .i64 t.f.k, .slice t.f.a t.f.l.length t.f.c, .slice t.a t.l.length t.c] ∧ t.In W ∧ t.nb := by
  obtain ⟨cs, rfl, _⟩ := okWide_struct Tryz.underlying27 hv
  obtain ⟨fuel, hf⟩ := h
  obtain ⟨t, ht, hin⟩ := tm_of fuel _ _ hf
  refine ⟨t, ?_, hin⟩
  have : cs.toList = [.int .i64 t.k, .int .i64 t.n, .int .i64 t.t.k, .slice t.t.a t.t.l.length t.t.c, .int .i64 t.f.k, .slice t.f.a t.f.l.length t.f.c, .slice t.a t.l.length t.c] := by simpa [Value.cells] using ht
  rw [← this]
end Go.Proofs.YtnddkmccagiclaaGreatDoor

/-
  What the row's list of package-level variables gives: the tables hold what they were laid with.
-/
namespace Go.Proofs.YtnddkmccagiclaaGreatDoor
open Go.ChangeShapes Go.RowKit

/-- The head of the list. -/
theorem laid_head {n : String} {d : DataW Unit} {r : List (String × DataW Unit)} {W : World} {g t : Nat} (h : laidMet Tryz.prog ((n, d) :: r) W) (hg : Tryz.prog.globalNamed n = some g) (ht : (Tryz.prog.globals[g]?).map (·.type) = some t) :
    ∃ (cs : Array Value) (fuel : Nat) (p : List MemPlace), Vc W g cs ∧ DataW.trod (fun _ => ()) Tryz.prog W 0 (fun _ => true) false fuel t cs.toList = some (d, p) := by
  obtain ⟨ps, ⟨g', t', cs, fuel, p, q, hg', ht', hvar, hd, _, _⟩, _⟩ := h
  obtain rfl := Option.some.inj (hg.symm.trans hg')
  obtain rfl := Option.some.inj (ht.symm.trans ht')
  refine ⟨cs, fuel, p, ?_, hd⟩
  unfold World.var? at hvar
  rw [hg] at hvar
  simp only [Option.bind_some] at hvar
  split at hvar
  · rename_i cs' t fr hh
    cases hvar
    exact ⟨t, fr, hh⟩
  · cases hvar

/-- An array of texts that reads as these texts holds them. -/
theorem cells_of_strs {W : World} {fuel t n : Nat} {cs : List Value} {ss : List (List UInt8)} {p : List MemPlace}
    (ht : Tryz.prog.underlying t = some (.array n 9)) (hct : Tryz.prog.cellsOf t = n)
    (h : DataW.trod (fun _ => ()) Tryz.prog W 0 (fun _ => true) false fuel t cs = some (.agg (ss.map fun s => .lit (.string s)), p)) : cs = ss.map fun s => Value.string ⟨s.toArray⟩ := by
  have hce : Tryz.prog.cellsOf 9 = 1 := by kernel_rfl
  cases fuel with
  | zero => simp [DataW.trod] at h
  | succ fuel =>
    simp only [DataW.trod, ht, hce, hct, Nat.mul_one] at h
    split at h
    · rename_i hl
      obtain ⟨xs, hm, hx⟩ := Option.map_eq_some_iff.1 h
      have hxs : xs.map (·.1) = ss.map fun s => (DataW.lit (.string s) : DataW Unit) := by
        have := congrArg Prod.fst hx
        simpa using this
      have hxl : xs.length = n := by simpa using Lib.mapM_length hm
      have hzl : ss.length = n := by
        have := congrArg List.length hxs
        simp at this
        omega
      apply List.ext_getElem?
      intro i
      by_cases hi : i < n
      · obtain ⟨b, hb, hf⟩ := Lib.mapM_at hm i i (by simp [hi])
        obtain ⟨s, hc, rfl, _⟩ := DataW.trod_string Tryz.underlying9 hf
        have h1 : cs[i]? = some (.string s) := by
          have := congrArg (·[0]?) hc
          simpa [List.getElem?_take, List.getElem?_drop] using this
        have h2 : (xs.map (·.1))[i]? = some (DataW.lit (.string s.data.toList) : DataW Unit) := by simp [hb]
        rw [hxs] at h2
        simp only [List.getElem?_map, Option.map_eq_some_iff, DataW.lit.injEq, Lit.string.injEq] at h2
        obtain ⟨s', hs', e⟩ := h2
        simp only [List.getElem?_map, hs', Option.map_some, h1, e]
      · rw [List.getElem?_eq_none (by omega), List.getElem?_eq_none (by simp; omega)]
    · cases h

theorem cells84 : Tryz.prog.cellsOf 78 = 2 := by kernel_rfl
theorem cells85 : Tryz.prog.cellsOf 79 = 10 := by kernel_rfl
theorem cells122 : Tryz.prog.cellsOf 84 = 10 := by kernel_rfl
theorem cells123 : Tryz.prog.cellsOf 122 = 3 := by kernel_rfl
theorem cells166 : Tryz.prog.cellsOf 228 = 20 := by kernel_rfl
theorem cells3' : Tryz.prog.cellsOf 3 = 1 := by kernel_rfl
theorem cells152 : Tryz.prog.cellsOf 191 = 1 := by kernel_rfl

theorem vc_list {W : World} {g : Nat} {cs : Array Value} {l : List Value} (h : Vc W g cs) (e : cs.toList = l) : Vc W g l.toArray := by
  rw [← e]; exact h

theorem gl_parts {r : List (String × DataW Unit)} {W : World} (h : laidMet Tryz.prog (("chaperone/term.parts", Rows.laid_chaperone_term_parts) :: r) W) :
    Vc W 2 #[.int .i64 0, .int .i64 0, .int .i64 0, .int .i64 0, .int .i64 2, .int .i64 2, .int .i64 3, .int .i64 1, .int .i64 2, .int .i64 1] := by
  obtain ⟨cs, fuel, p, hv, ht⟩ := laid_head h (g := 2) (t := 84) (by kernel_rfl) (by kernel_rfl)
  exact vc_list hv (Lib.cells_of_tab (zs := [0, 0, 0, 0, 2, 2, 3, 1, 2, 1]) Tryz.underlying84 Tryz.underlying3 cells3' cells122 ht)

theorem gl_truth {r : List (String × DataW Unit)} {W : World} (h : laidMet Tryz.prog (("chaperone/term.truthWords", Rows.laid_chaperone_term_truthWords) :: r) W) :
    Vc W 0 #[.string ⟨#[110, 111]⟩, .string ⟨#[121, 101, 115]⟩] := by
  obtain ⟨cs, fuel, p, hv, ht⟩ := laid_head h (g := 0) (t := 78) (by kernel_rfl) (by kernel_rfl)
  exact vc_list hv (cells_of_strs (ss := [[110, 111], [121, 101, 115]]) Tryz.underlying78 cells84 ht)

theorem gl_words {r : List (String × DataW Unit)} {W : World} (h : laidMet Tryz.prog (("chaperone/term.words", Rows.laid_chaperone_term_words) :: r) W) :
    Vc W 1 #[.string ⟨#[]⟩, .string ⟨#[]⟩, .string ⟨#[]⟩, .string ⟨#[]⟩, .string ⟨#[97, 100, 100]⟩, .string ⟨#[108, 101, 115, 115]⟩, .string ⟨#[105, 102]⟩, .string ⟨#[102, 117, 110]⟩, .string ⟨#[99, 97, 108, 108]⟩, .string ⟨#[97, 115]⟩] := by
  obtain ⟨cs, fuel, p, hv, ht⟩ := laid_head h (g := 1) (t := 79) (by kernel_rfl) (by kernel_rfl)
  exact vc_list hv (cells_of_strs (ss := [[], [], [], [], [97, 100, 100], [108, 101, 115, 115], [105, 102], [102, 117, 110], [99, 97, 108, 108], [97, 115]]) Tryz.underlying79 cells85 ht)

theorem gl_types {r : List (String × DataW Unit)} {W : World} (h : laidMet Tryz.prog (("chaperone/term.typeWords", Rows.laid_chaperone_term_typeWords) :: r) W) :
    Vc W 3 #[.string ⟨#[97, 110, 121]⟩, .string ⟨#[110, 117, 109]⟩, .string ⟨#[116, 114, 117, 116, 104]⟩] := by
  obtain ⟨cs, fuel, p, hv, ht⟩ := laid_head h (g := 3) (t := 122) (by kernel_rfl) (by kernel_rfl)
  exact vc_list hv (cells_of_strs (ss := [[97, 110, 121], [110, 117, 109], [116, 114, 117, 116, 104]]) Tryz.underlying122 cells123 ht)

theorem gl_pow {r : List (String × DataW Unit)} {W : World} (h : laidMet Tryz.prog (("internal/strconv.uint64pow10", Rows.laid_internal_strconv_uint64pow10) :: r) W) :
    Vc W 7 (Lib.pow10Tab.map fun z => Value.int .u64 z).toArray := by
  obtain ⟨cs, fuel, p, hv, ht⟩ := laid_head h (g := 7) (t := 228) (by kernel_rfl) (by kernel_rfl)
  exact vc_list hv (Lib.cells_of_tab (zs := Lib.pow10Tab) Tryz.underlying228 Tryz.underlying191 cells152 cells166 ht)

theorem gl_err {n nm : String} {g : Nat} {d : DataW Unit} {r : List (String × DataW Unit)} {W : World} (h : laidMet Tryz.prog ((n, .iface nm d) :: r) W) (hg : Tryz.prog.globalNamed n = some g) (ht : (Tryz.prog.globals[g]?).map (·.type) = some 130) : ∃ te pe, Vc W g #[.iface te pe] := by
  obtain ⟨cs, fuel, p, hv, hd⟩ := laid_head h hg ht
  obtain ⟨_, u, v, hc, _⟩ := iface_of_trod Tryz.underlying130 hd
  exact ⟨u, v, vc_list hv hc⟩

theorem gl_max {W : World} (h : W.ShapedOpen Tryz.prog) : ∃ m, Vc W 6 #[.int .i64 m] := by
  obtain ⟨m, hm⟩ := Tryz.laysM155.s1_3 W h
  have hm' : W.cell? ⟨6, 0, none⟩ = some (.int .i64 m) := hm
  obtain ⟨cs, hh, hs, _⟩ := h.1 6 #[.int .i64 0] 3 (by show 6 < 15; omega) (by kernel_rfl)
  refine ⟨m, ?_⟩
  have hs1 : cs.size = 1 := hs
  have hc : W.cell? ⟨6, 0, none⟩ = cs[0]? := cell_of_row W 6 0 cs _ _ hh
  rw [hc] at hm'
  have e : cs = #[.int .i64 m] := by
    apply Array.ext
    · simpa using hs1
    · intro i h1 h2
      obtain rfl : i = 0 := by omega
      have := Array.getElem?_eq_some_iff.1 hm'
      simpa using this.2
  rw [← e]
  exact ⟨_, _, hh⟩

/-- The tables, at the rows of the laws of the whole. -/
theorem gl_rows {W : World} (h' : laidMet Tryz.prog [("math/bits.deBruijn32tab", Rows.laid_math_bits_deBruijn32tab), ("math/bits.deBruijn64tab", Rows.laid_math_bits_deBruijn64tab), ("internal/strconv.uint64pow10", Rows.laid_internal_strconv_uint64pow10), ("unicode/utf8.acceptRanges", Rows.laid_unicode_utf8_acceptRanges), ("strconv.ErrRange", Rows.laid_strconv_ErrRange), ("strconv.ErrSyntax", Rows.laid_strconv_ErrSyntax), ("chaperone/term.words", Rows.laid_chaperone_term_words), ("chaperone/term.truthWords", Rows.laid_chaperone_term_truthWords), ("chaperone/term.typeWords", Rows.laid_chaperone_term_typeWords), ("chaperone/term.parts", Rows.laid_chaperone_term_parts), ("unicode/utf8.first", Rows.laid_unicode_utf8_first)] W) (hs : W.ShapedOpen Tryz.prog) : Gl W := by
  have h1 := h'.tail.tail
  have h2 := h1.tail.tail
  have h3 := h2.tail
  have h4 := h3.tail
  have h5 := h4.tail
  have h6 := h5.tail
  have h7 := h6.tail
  exact ⟨gl_truth h5, gl_words h4, gl_parts h7, gl_types h6, gl_pow h1, gl_max hs, gl_err h3 (by kernel_rfl) (by kernel_rfl), gl_err h2 (by kernel_rfl) (by kernel_rfl)⟩
end Go.Proofs.YtnddkmccagiclaaGreatDoor

/-
  What the list of thirteen package-level variables gives: the tables hold what they were laid with, the table of ASCII's spaces among them.
-/
namespace Go.Proofs.YtnddkmccagiclaaGreatDoor
open Go.ChangeShapes Go.RowKit

set_option maxRecDepth 100000 in
theorem gl_rows13 {W : World} (h' : laidMet Tryz.prog [("math/bits.deBruijn32tab", Rows.laid_math_bits_deBruijn32tab), ("math/bits.deBruijn64tab", Rows.laid_math_bits_deBruijn64tab), ("internal/strconv.uint64pow10", Rows.laid_internal_strconv_uint64pow10), ("unicode/utf8.acceptRanges", Rows.laid_unicode_utf8_acceptRanges), ("strconv.ErrRange", Rows.laid_strconv_ErrRange), ("strconv.ErrSyntax", Rows.laid_strconv_ErrSyntax), ("unicode.White_Space", Rows.laid_unicode_White_Space), ("strings.asciiSpace", Rows.laid_strings_asciiSpace), ("chaperone/term.words", Rows.laid_chaperone_term_words), ("chaperone/term.truthWords", Rows.laid_chaperone_term_truthWords), ("chaperone/term.typeWords", Rows.laid_chaperone_term_typeWords), ("chaperone/term.parts", Rows.laid_chaperone_term_parts), ("unicode/utf8.first", Rows.laid_unicode_utf8_first)] W) (hs : W.ShapedOpen Tryz.prog) : Gl W ∧ Ta W := by
  have h1 := h'.tail.tail
  have h2 := h1.tail.tail
  have h3 := h2.tail
  have hA := h3.tail.tail
  have h4 := hA.tail
  have h5 := h4.tail
  have h6 := h5.tail
  have h7 := h6.tail
  exact ⟨⟨gl_truth h5, gl_words h4, gl_parts h7, gl_types h6, gl_pow h1, gl_max hs, gl_err h3 (by kernel_rfl) (by kernel_rfl), gl_err h2 (by kernel_rfl) (by kernel_rfl)⟩,
    Lib.tabIs_of_head (g := 4) (t := 124) (e := 5) (n := 256) (zs := Lib.asciiSpaceTab) (by kernel_rfl) (by kernel_rfl) (by kernel_rfl) (by kernel_rfl) (by kernel_rfl) (by kernel_rfl) hA⟩
end Go.Proofs.YtnddkmccagiclaaGreatDoor

/-
  That a list of laid variables is met, by a run; that no place is met twice is told by keys that grow, so that the run stays short.
-/
namespace Go.Proofs.YtnddkmccagiclaaGreatDoor

/-- Each is greater than the one ahead of it. -/
def incB : List Nat → Bool
  | a :: b :: r => decide (a < b) && incB (b :: r)
  | _ => true

theorem inc_head {α : Type} (key : α → Nat) : ∀ (l : List α) (a : α), incB ((a :: l).map key) = true → ∀ b, b ∈ l → key a < key b
  | [], _, _, b, h => by cases h
  | c :: l, a, h, b, hb => by
    simp only [List.map_cons, incB, Bool.and_eq_true, decide_eq_true_eq] at h
    have h2 : incB ((c :: l).map key) = true := by simpa only [List.map_cons] using h.2
    rcases List.mem_cons.1 hb with rfl | hb
    · exact h.1
    · have := inc_head key l c h2 b hb
      omega

theorem inc_nodup {α : Type} (key : α → Nat) : ∀ l : List α, incB (l.map key) = true → l.Nodup
  | [], _ => List.nodup_nil
  | a :: l, h => by
    refine List.nodup_cons.2 ⟨fun hm => ?_, inc_nodup key l ?_⟩
    · have := inc_head key l a h a hm
      omega
    · cases l with
      | nil => rfl
      | cons b l =>
        simp only [List.map_cons, incB, Bool.and_eq_true] at h
        simpa only [List.map_cons] using h.2

/-- A place's key: the rank of its block, and where in it. -/
def keyAt (bs : List Nat) : MemPlace → Nat
  | .cell b off => bs.idxOf b * 1000 + off
  | .map _ => 0

theorem laidMet_of_key {P : Program} {w : World} {l : List (String × DataW Unit)} (fuel : Nat) (bs : List Nat) (h : (DataW.laidRun P w fuel (l.map (·.1))).map (·.1) = some l)
    (hr : (DataW.laidRun P w fuel (l.map (·.1))).map (fun x => incB (x.2.map (keyAt bs)) && laidRowsB P w x.2) = some true) : laidMet P l w := by
  cases hx : DataW.laidRun P w fuel (l.map (·.1)) with
  | none => simp [hx] at h
  | some x =>
    obtain ⟨l', ps⟩ := x
    simp only [hx, Option.map_some, Option.some.injEq] at h hr
    subst h
    simp only [Bool.and_eq_true] at hr
    exact laidMet_of_run fuel hx (decide_eq_true (inc_nodup _ _ hr.1)) hr.2
end Go.Proofs.YtnddkmccagiclaaGreatDoor
