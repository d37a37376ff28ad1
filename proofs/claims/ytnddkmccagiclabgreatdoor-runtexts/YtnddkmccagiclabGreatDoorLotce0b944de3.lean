/-
  The number that a word of at most seven digits tells: the plain mathematics of ref's number.
-/
import Derived.Test.YtnddkmccagiclabGreatDoorLot75cb470804
import Derived.Test.YtnddkmccagiclabGreatDoorLota031f7686a
import Derived.Deep.LoopGhost
import Derived.Laws.IdiomStrings
import Derived.IntWalk
import Derived.Test.YtnddkmccagiclabGreatDoorLot2ebbd2cd4c
import Derived.Test.YtnddkmccagiclabGreatDoorLotdf4e4ec170
import Derived.Test.YtnddkmccagiclabGreatDoorLot1dd949ab90
import Derived.Test.YtnddkmccagiclabGreatDoorLot3973bc6846
namespace Go.Proofs.YtnddkmccagiclabGreatDoor
/-- What digits come to. -/
def valD (l : List UInt8) : Int := l.foldl (fun (n : Int) (c : UInt8) => 10 * n + (c.toNat : Int) - 48) 0
theorem valD_append (l : List UInt8) (c : UInt8) : valD (l ++ [c]) = 10 * valD l + (c.toNat : Int) - 48 := by
  simp [valD]
theorem valD_digits (u : Nat) : valD (Lib.decDigits u) = (u : Int) := by
  induction u using Nat.strongRecOn with
  | _ u ih =>
    by_cases h : u < 10
    · rw [Lib.decDigits_one h]
      have : (UInt8.ofNat (48 + u)).toNat = 48 + u := by simp; omega
      simp only [valD, List.foldl_cons, List.foldl_nil, this]
      omega
    · rw [← decDigits_more u h, Lib.decDigits_one (i := u % 10) (by omega), valD_append, ih (u / 10) (by omega)]
      have : (UInt8.ofNat (48 + u % 10)).toNat = 48 + u % 10 := by simp; omega
      rw [this]
      omega
def DigB (c : UInt8) : Prop := 48 ≤ c.toNat ∧ c.toNat ≤ 57
theorem valF_bound : ∀ (l : List UInt8) (acc P : Int), (∀ c, c ∈ l → DigB c) → 0 ≤ acc → P = 10 ^ l.length → acc * P + P ≤ 10000000 → 0 ≤ l.foldl (fun (n : Int) (c : UInt8) => 10 * n + (c.toNat : Int) - 48) acc ∧ l.foldl (fun (n : Int) (c : UInt8) => 10 * n + (c.toNat : Int) - 48) acc ≤ 9999999
  | [], acc, P, _, h0, hP, h => by
    simp only [List.length_nil, Int.pow_zero] at hP
    subst hP
    simp only [List.foldl_nil]
    omega
  | c :: r, acc, P, hd, h0, hP, h => by
    rw [List.length_cons, Int.pow_succ] at hP
    obtain ⟨R, hR⟩ : ∃ R : Int, R = 10 ^ r.length := ⟨_, rfl⟩
    rw [← hR] at hP
    have hR0 : 0 ≤ R := by rw [hR]; exact Int.pow_nonneg (by omega)
    obtain ⟨h1, h2⟩ := hd c List.mem_cons_self
    rw [List.foldl_cons]
    refine valF_bound r _ R (fun d hd' => hd d (List.mem_cons_of_mem _ hd')) (by omega) hR ?_
    have h3 : ((c.toNat : Int) - 48) * R ≤ 9 * R := Int.mul_le_mul_of_nonneg_right (by omega) hR0
    have e1 : (10 * acc + (c.toNat : Int) - 48) * R = 10 * (acc * R) + ((c.toNat : Int) - 48) * R := by
      rw [show 10 * acc + (c.toNat : Int) - 48 = 10 * acc + ((c.toNat : Int) - 48) by omega, Int.add_mul, Int.mul_assoc]
    have e2 : acc * (R * 10) = 10 * (acc * R) := by rw [← Int.mul_assoc]; omega
    rw [e1]
    rw [hP, e2] at h
    omega
theorem valD_bound (l : List UInt8) (h : ∀ c, c ∈ l → DigB c) (hl : l.length ≤ 7) : 0 ≤ valD l ∧ valD l ≤ 9999999 := by
  refine valF_bound l 0 (10 ^ l.length) h (by omega) rfl ?_
  have : ∀ k : Nat, k ≤ 7 → (10 : Int) ^ k ≤ 10000000 := fun k hk => by
    match k, hk with
    | 0, _ => decide
    | 1, _ => decide
    | 2, _ => decide
    | 3, _ => decide
    | 4, _ => decide
    | 5, _ => decide
    | 6, _ => decide
    | 7, _ => decide
  have := this l.length hl
  omega
/-- The digits, and whether a minus stands ahead of them. -/
def strip : List UInt8 → List UInt8 × Bool
  | 45 :: d => (d, true)
  | d => (d, false)
theorem strip_minus (d : List UInt8) : strip (45 :: d) = (d, true) := rfl
theorem strip_plain (l : List UInt8) (h : ∀ d, l ≠ 45 :: d) : strip l = (l, false) := by
  unfold strip
  split
  · rename_i d; exact absurd rfl (h d)
  · rfl
def okD (d : List UInt8) : Prop := d ≠ [] ∧ d.length ≤ 7 ∧ ∀ c, c ∈ d → DigB c
def sgn (p : List UInt8 × Bool) : Int := if p.2 = true then -valD p.1 else valD p.1
theorem sgn_bound {p : List UInt8 × Bool} (h : okD p.1) : -9999999 ≤ sgn p ∧ sgn p ≤ 9999999 ∧ 0 ≤ valD p.1 ∧ valD p.1 ≤ 9999999 := by
  obtain ⟨h1, h2⟩ := valD_bound p.1 h.2.2 h.2.1
  unfold sgn
  split <;> omega
theorem num_of_itoa (n : Int) (h : -9999999 ≤ n) (h' : n ≤ 9999999) : numOf (bw (Lib.itoa n)) = some n := by
  have hl : (Lib.itoa n).length ≤ 8 := by
    unfold Lib.itoa
    split
    · have := decDigits_seven n.natAbs (by omega)
      simp only [List.length_cons]; omega
    · have := decDigits_seven n.toNat (by omega)
      omega
  have ha : Lib.atoiAll (Lib.itoa n) = .ok n := by
    rw [Lib.atoiAll_short _ (by omega)]
    unfold Lib.itoa
    by_cases hn : n < 0
    · rw [if_pos hn]
      have : Lib.atoi (45 :: Lib.decDigits n.natAbs) = (Lib.decNat (Lib.decDigits n.natAbs)).map fun (m : Nat) => -(m : Int) := by simp [Lib.atoi]
      rw [this, decNat_digits]
      simp only [Option.map_some, Lib.NumEnd.ofOption]
      congr 1; omega
    · rw [if_neg hn]
      have hd := digits_are n.toNat
      cases hc : Lib.decDigits n.toNat with
      | nil => exact absurd hc (digits_ne _)
      | cons c r =>
        rw [hc] at hd
        have hc1 := hd c (by simp)
        have h45 : c ≠ 45 := by rintro rfl; simp at hc1
        have h43 : c ≠ 43 := by rintro rfl; simp at hc1
        have : Lib.atoi (c :: r) = (Lib.decNat (c :: r)).map fun (m : Nat) => (m : Int) := by simp [Lib.atoi, h45, h43]
        rw [this, ← hc, decNat_digits]
        simp only [Option.map_some, Lib.NumEnd.ofOption]
        congr 1; omega
  rw [numOf, bw_data, ha]
  exact if_pos rfl
theorem numOf_itoa {l : List UInt8} {v : Int} (h : numOf (bw l) = some v) : Lib.itoa v = l := by
  rw [numOf] at h
  split at h
  · split at h
    · rename_i e
      obtain rfl := Option.some.inj h
      exact bw_inj e
    · cases h
  · cases h
/-- A word that tells a number: its digits, and the number. -/
theorem numT_facts {l : List UInt8} {v : Int} (h : numT l = some v) : okD (strip l).1 ∧ v = sgn (strip l) ∧ Lib.itoa v = l := by
  obtain ⟨h1, h2, h3⟩ := numT_of h
  have hl := numOf_itoa h1
  refine ⟨?_, ?_, hl⟩
  all_goals
    rw [← hl]
    unfold Lib.itoa
    split
    · rename_i hn
      rw [strip_minus]
      first
        | exact ⟨digits_ne _, decDigits_seven _ (by omega), fun c hc => digits_are _ c hc⟩
        | (show v = if true = true then -valD (Lib.decDigits v.natAbs) else _
           rw [if_pos rfl, valD_digits]; omega)
    · rename_i hn
      have hp : ∀ d, Lib.decDigits v.toNat ≠ 45 :: d := fun d e => by
        have := digits_are v.toNat 45 (by rw [e]; simp)
        simp at this
      rw [strip_plain _ hp]
      first
        | exact ⟨digits_ne _, decDigits_seven _ (by omega), fun c hc => digits_are _ c hc⟩
        | (show v = if false = true then _ else valD (Lib.decDigits v.toNat)
           rw [if_neg (by simp), valD_digits]; omega)
theorem numT_bad {l : List UInt8} (h : ¬ okD (strip l).1) : numT l = none := by
  cases hn : numT l with
  | none => rfl
  | some v => exact absurd (numT_facts hn).1 h
theorem numT_good {l : List UInt8} (h : okD (strip l).1) : numT l = if Lib.itoa (sgn (strip l)) = l then some (sgn (strip l)) else none := by
  have hb := sgn_bound h
  split
  · rename_i e
    have := num_of_itoa (sgn (strip l)) hb.1 hb.2.1
    rw [e] at this
    exact numT_to this ⟨hb.1, hb.2.1⟩
  · rename_i e
    cases hn : numT l with
    | none => rfl
    | some v =>
      obtain ⟨_, h2, h3⟩ := numT_facts hn
      rw [← h2] at e
      exact absurd h3 e
end Go.Proofs.YtnddkmccagiclabGreatDoor

/-
  What the call of ref's number answers.
-/
namespace Go.Proofs.YtnddkmccagiclabGreatDoor
open Go.RowKit
/-- What a call that tells a number leaves. -/
def NuPost (s : List UInt8) (w : World) (e : Ending) (w' : World) : Prop :=
  ∃ (n : Int) (ok : Bool), e = .returned (.tuple #[.int .i64 n, .bool ok]) ∧ Hid (ok = (numT s).isSome ∧ (∀ v, numT s = some v → n = v) ∧ (-9999999 ≤ n ∧ n ≤ 9999999) ∧ Below w.heap.size w w')
theorem strip_trim (l : List UInt8) : Lib.trimPrefix l [45] = (strip l).1 := by
  by_cases h : ∃ d, l = 45 :: d
  · obtain ⟨d, rfl⟩ := h
    rw [strip_minus, Lib.trimPrefix, if_pos (by simp [Lib.hasPrefix])]
    rfl
  · rw [strip_plain l fun d e => h ⟨d, e⟩, Lib.trimPrefix, if_neg]
    intro hp
    cases l with
    | nil => simp [Lib.hasPrefix] at hp
    | cons c r =>
      have : 45 = c := by
        simp only [Lib.hasPrefix, List.isPrefixOf, Bool.and_true, beq_iff_eq] at hp
        exact hp
      exact h ⟨r, by rw [← this]⟩
theorem strip_ne (l : List UInt8) : ((strip l).1 = l) ↔ (strip l).2 = false := by
  by_cases h : ∃ d, l = 45 :: d
  · obtain ⟨d, rfl⟩ := h
    rw [strip_minus]
    constructor
    · intro e
      have := congrArg List.length e
      simp at this
    · intro e; cases e
  · rw [strip_plain l fun d e => h ⟨d, e⟩]
    simp
theorem dig_contains (c : UInt8) : digW.contains c = true ↔ DigB c := by
  have : ∀ n : Fin 256, digW.contains (UInt8.ofNat n.val) = true ↔ DigB (UInt8.ofNat n.val) := by
    unfold DigB
    decide +kernel
  have h := this ⟨c.toNat, c.toNat_lt⟩
  simpa using h
set_option maxRecDepth 20000 in
set_option maxHeartbeats 4000000 in
theorem numberR_any (s : ByteArray) (w : World) (hs : s.size ≤ 2000) : Calls Tryz.prog 102 #[.string s] w (NuPost s.data.toList w) := by
  obtain ⟨d, hd⟩ : ∃ d, (strip s.data.toList).1 = d := ⟨_, rfl⟩
  obtain ⟨D, hD⟩ : ∃ D, bw d = D := ⟨_, rfl⟩
  have HD : Hid (D.data.toList = d ∧ D.size = d.length) := by
    rw [← hD]
    exact ⟨rfl, by show d.toArray.size = _; simp⟩
  have hds : d.length ≤ 2000 := by
    have hl : s.data.toList.length = s.size := Array.length_toList
    rw [← hd, ← strip_trim, Lib.trimPrefix]
    split
    · rw [List.length_drop]; omega
    · omega
  have HP : Hid (∀ W, Calls Tryz.prog 142 #[.string s, .string ⟨#[45]⟩] W fun e w' => e = .returned (.string D) ∧ w' = W) := fun W => by
    refine (Tryz.strings_TrimPrefix s ⟨#[45]⟩ W).mono ?_
    rintro e w' ⟨rfl, h⟩
    refine ⟨?_, h⟩
    show Ending.returned (.string (bw (Lib.trimPrefix s.data.toList [45]))) = _
    rw [strip_trim, hd, hD]
  have HT : Hid (∀ W, Calls Tryz.prog 143 #[.string D, .string ⟨#[48, 49, 50, 51, 52, 53, 54, 55, 56, 57]⟩] W fun e w' => ∃ t : ByteArray, e = .returned (.string t) ∧ Hid (t = ⟨#[]⟩ ↔ ∀ c, c ∈ d → DigB c) ∧ Below W.heap.size W w') := fun W => by
    refine (trimDigits_any D W (by have := HD.out.2; omega)).mono ?_
    rintro e w' ⟨t, rfl, h1, h2⟩
    refine ⟨t, rfl, ?_, h2⟩
    show _ ↔ _
    rw [h1, HD.out.1]
    exact forall_congr' fun c => forall_congr' fun _ => dig_contains c
  have BAD : Hid (¬ okD d → ∀ W, Below w.heap.size w W → NuPost s.data.toList w (.returned (.tuple #[.int .i64 0, .bool false])) W) := fun h W hW =>
    ⟨0, false, rfl, by rw [numT_bad (by rw [hd]; exact h)]; exact ⟨rfl, (fun v hv => by cases hv), ⟨by omega, by omega⟩, hW⟩⟩
  have HGOOD : Hid (okD d → numT s.data.toList = if Lib.itoa (sgn (strip s.data.toList)) = s.data.toList then some (sgn (strip s.data.toList)) else none) := fun h => numT_good (by rw [hd]; exact h)
  have HSG : Hid (sgn (strip s.data.toList) = if (strip s.data.toList).2 = true then -valD d else valD d) := by
    show _ = _
    rw [sgn, hd]
  have HNE : Hid (d = s.data.toList ↔ (strip s.data.toList).2 = false) := by
    show _ ↔ _
    rw [← hd]
    exact strip_ne _
  clear hD hd
  go_enter Tryz.func102, Tryz.ntmps102
  go_wp2_with fail
  refine (HP.out _).mono ?_
  rintro e w1 ⟨rfl, hw1⟩
  rw [hw1]
  clear hw1 w1 HP
  by_cases h0 : d = []
  · have hemp : D.toList.isEmpty = true := by rw [Lib.toList_data, HD.out.1, h0]; rfl
    have HB := BAD.out (fun h => h.1 h0) w (Below.refl _ _)
    have HB' : Hid (NuPost s.data.toList w (.returned (.tuple #[.int .i64 0, .bool false])) w) := HB
    clear HB BAD HGOOD HSG HNE HT HD h0
    go_wp2_with fail
    refine bodyPost_ret (v := .tuple #[.int .i64 0, .bool false]) ?_ rfl HB'.out
    simp [results, Tryz.results102, go_sem]
  · have hemp : D.toList.isEmpty = false := by
      rw [Lib.toList_data, HD.out.1]
      cases d with
      | nil => exact absurd rfl h0
      | cons _ _ => rfl
    have hDs : D.size = d.length := HD.out.2
    by_cases h7 : d.length ≤ 7
    · have hgt : ¬ (7 : Int) < (d.length : Int) := by omega
      go_wp2_with fail
      refine (HT.out _).mono ?_
      rintro e w2 ⟨t, rfl, HTT, hb2⟩
      have H2 : Hid (Below w.heap.size w w2) := hb2
      clear hb2 HT
      by_cases ht : ∀ c, c ∈ d → DigB c
      · obtain rfl := HTT.out.2 ht
        have HOK : Hid (okD d) := ⟨h0, h7, ht⟩
        clear HTT BAD ht
        have he0 : (⟨#[]⟩ : ByteArray).toList.isEmpty = true := by rw [Lib.toList_data]; rfl
        have hcv := run_bytes_of_string (P := Tryz.prog) w2 9 174 5 D Tryz.underlying9 Tryz.underlying174 Tryz.underlying5
        obtain ⟨cp, hcp⟩ : ∃ cp, grownCap w2 D.size 0 5 = cp := ⟨_, rfl⟩
        rw [hcp] at hcv
        obtain ⟨W3, hW3⟩ : ∃ W, W = w2.drew.alloc (.cells (bytesRow D cp) 5 ((bytesRow D cp).size, (bytesRow D cp).size + 1)) := ⟨_, rfl⟩
        rw [← hW3, hDs] at hcv
        have HC : Hid ((∀ k (h : k < d.length), W3.cell? ⟨w2.heap.size, k, none⟩ = some (.int .u8 (d[k].toNat : Int))) ∧ Below w.heap.size w W3) := by
          refine ⟨fun k hk => ?_, H2.out.trans ?_⟩
          · have hh : W3.heap[w2.heap.size]? = some (.cells (bytesRow D cp) 5 ((bytesRow D cp).size, (bytesRow D cp).size + 1)) := by rw [hW3]; exact heap_alloc_new w2.drew _
            rw [cell_of_row W3 w2.heap.size k _ _ _ hh]
            have hk2 : k < D.data.size := by
              have : D.data.size = d.length := hDs
              omega
            unfold bytesRow
            rw [Array.getElem?_append_left (by simpa using hk2), Array.getElem?_map, Array.getElem?_eq_getElem hk2]
            have e1 : D.data.toList[k]? = some d[k] := by rw [HD.out.1, List.getElem?_eq_getElem hk]
            have e2 : D.data[k]'hk2 = d[k] := by
              rw [← Array.getElem_toList]
              rw [List.getElem?_eq_getElem (by simpa using hk2)] at e1
              exact Option.some.inj e1
            rw [e2]
            rfl
          · rw [hW3]
            exact ((Below.refl _ _).drew.alloc (Nat.le_refl _) _).mono H2.out.size
        clear hcp hW3 H2 hDs
        go_wp2_with fail
        go_loopg [5, 7, 25] d.length (fun g v5 _ v25 wr => ∃ k : Nat, g + k = d.length ∧ v25 = .int .i64 (k : Int) ∧ v5 = .int .i64 (valD (d.take k)) ∧ wr = W3)
        case atStart => exact ⟨0, rfl, rfl, by simp [valD], rfl⟩
        case round =>
          obtain ⟨k, hk, rfl, rfl, rfl⟩ := hrel
          obtain ⟨N, hN⟩ : ∃ N, valD (d.take k) = N := ⟨_, rfl⟩
          rw [hN]
          by_cases hlt : k < d.length
          · have c0 := HC.out.1 k hlt
            obtain ⟨x, hx⟩ : ∃ x, d[k] = x := ⟨_, rfl⟩
            rw [hx] at c0
            have hxd : DigB x := by rw [← hx]; exact HOK.out.2.2 _ (List.getElem_mem hlt)
            have hNb : 0 ≤ N ∧ N ≤ 9999999 := by
              rw [← hN]
              exact valD_bound _ (fun c hc => HOK.out.2.2 c (List.mem_of_mem_take hc)) (by rw [List.length_take]; omega)
            have HN1 : Hid (valD (d.take (k + 1)) = 10 * N + (x.toNat : Int) - 48) := by
              show _ = _
              rw [List.take_succ_eq_append_getElem hlt, valD_append, hN, hx]
            obtain ⟨x1, x2⟩ := hxd
            have q1 : IntKind.i64.wrap (10 * N) = 10 * N := Go.wrap_small _ (by omega) (by omega)
            have q2 : IntKind.i64.wrap (10 * N + (x.toNat : Int)) = 10 * N + (x.toNat : Int) := Go.wrap_small _ (by omega) (by omega)
            have q3 : IntKind.i64.wrap (10 * N + (x.toNat : Int) - 48) = 10 * N + (x.toNat : Int) - 48 := Go.wrap_small _ (by omega) (by omega)
            have q4 : (k : Int) < (d.length : Int) := by omega
            have q5 : IntKind.i64.wrap ((k : Int) + 1) = (k : Int) + 1 := Go.wrap_small _ (by omega) (by omega)
            have q6 : IntKind.i64.wrap (x.toNat : Int) = (x.toNat : Int) := Go.wrap_small _ (by omega) (by omega)
            clear hN hx HGOOD HSG HNE
            go_wp2_with fail
            go_roundg (gk - 1)
            case measure => omega
            case rel => exact ⟨k + 1, by omega, by simp, by rw [HN1.out], rfl⟩
          · have hke : k = d.length := by omega
            have q4 : ¬ (k : Int) < (d.length : Int) := by omega
            have HV : Hid (valD d = N ∧ 0 ≤ N ∧ N ≤ 9999999) := by
              rw [hke, List.take_length] at hN
              have := valD_bound d HOK.out.2.2 HOK.out.2.1
              rw [hN] at this
              exact ⟨hN, this⟩
            obtain ⟨ng, hng⟩ : ∃ ng, (strip s.data.toList).2 = ng := ⟨_, rfl⟩
            have hcmp : (D.toList == s.toList) = !ng := by
              rw [← hng, Lib.toList_data, Lib.toList_data, HD.out.1]
              cases hg : (strip s.data.toList).2
              · rw [HNE.out.2 hg]; simp
              · rw [Bool.not_true, beq_eq_false_iff_ne]
                intro e
                have := HNE.out.1 e
                rw [hg] at this
                cases this
            obtain ⟨n, hn⟩ : ∃ n, (if ng = true then -N else N) = n := ⟨_, rfl⟩
            have HnS : Hid (sgn (strip s.data.toList) = n ∧ -9999999 ≤ n ∧ n ≤ 9999999) := by
              refine ⟨by rw [HSG.out, hng, HV.out.1, hn], ?_, ?_⟩
              all_goals rw [← hn]; have := HV.out.2; split <;> omega
            clear hN hng
            obtain ⟨T, hT⟩ : ∃ T, bw (Lib.itoa n) = T := ⟨_, rfl⟩
            obtain ⟨okb, hokb⟩ : ∃ b, (T.toList == s.toList) = b := ⟨_, rfl⟩
            have HDEC : Hid (∀ W, Below wr.heap.size wr W → Calls Tryz.prog 144 #[.int .i64 n] W fun e w' => e = .returned (.string T) ∧ Below wr.heap.size wr w') := fun W hb => by
              refine (decimal_any n HnS.out.2.1 HnS.out.2.2 W).mono ?_
              rintro e w' ⟨rfl, h⟩
              exact ⟨by rw [hT], hb.trans (h.mono hb.size)⟩
            have HFIN : Hid (∀ W, Below wr.heap.size wr W → NuPost s.data.toList w (.returned (.tuple #[.int .i64 n, .bool okb])) W) := fun W hb => by
              have hg := HGOOD.out HOK.out
              rw [HnS.out.1] at hg
              have he : okb = true ↔ Lib.itoa n = s.data.toList := by
                rw [← hokb, Lib.toList_data, Lib.toList_data, ← hT, bw_data, beq_iff_eq]
              refine ⟨n, okb, rfl, ?_, ?_, ⟨HnS.out.2.1, HnS.out.2.2⟩, HC.out.2.trans (hb.mono HC.out.2.size)⟩
              · rw [hg]
                cases okb
                · rw [if_neg fun h => by have := he.2 h; cases this]; rfl
                · rw [if_pos (he.1 rfl)]; rfl
              · intro v hv
                rw [hg] at hv
                split at hv
                · exact Option.some.inj hv
                · cases hv
            clear HGOOD HSG HNE HC HD HOK hcv hT
            cases ng
            · obtain rfl : n = N := by simpa using hn.symm
              clear hn HV HnS
              go_wp2_with fail
              refine (HDEC.out _ (Below.refl _ _)).mono ?_
              rintro e w6 ⟨rfl, hb6⟩
              have HF : Hid (NuPost s.data.toList w (.returned (.tuple #[.int .i64 n, .bool okb])) w6) := HFIN.out w6 hb6
              clear hb6 HFIN HDEC
              go_wp2_with fail
              refine bodyPost_ret (v := .tuple #[.int .i64 n, .bool okb]) ?_ rfl HF.out
              simp [results, Tryz.results102, go_sem]
            · have hwn : IntKind.i64.wrap (-N) = n := by
                have := HV.out.2
                rw [show IntKind.i64.wrap (-N) = -N by rw [IntKind.wrap_i64]; omega]
                simpa using hn
              clear hn HV HnS
              go_wp2_with fail
              refine (HDEC.out _ (Below.refl _ _)).mono ?_
              rintro e w6 ⟨rfl, hb6⟩
              have HF : Hid (NuPost s.data.toList w (.returned (.tuple #[.int .i64 n, .bool okb])) w6) := HFIN.out w6 hb6
              clear hb6 HFIN HDEC
              go_wp2_with fail
              refine bodyPost_ret (v := .tuple #[.int .i64 n, .bool okb]) ?_ rfl HF.out
              simp [results, Tryz.results102, go_sem]
      · have htn : t.toList.isEmpty = false := by
          rw [Lib.toList_data]
          cases hc : t.data.toList with
          | nil =>
            exfalso
            refine ht (HTT.out.1 ?_)
            rw [← bw_of t, hc]
            rfl
          | cons _ _ => rfl
        have HB' : Hid (NuPost s.data.toList w (.returned (.tuple #[.int .i64 0, .bool false])) w2) := BAD.out (fun h => ht h.2.2) w2 H2.out
        clear BAD HGOOD HSG HNE HD h0 HTT
        go_wp2_with fail
        refine bodyPost_ret (v := .tuple #[.int .i64 0, .bool false]) ?_ rfl HB'.out
        simp [results, Tryz.results102, go_sem]
    · have hgt : (7 : Int) < (d.length : Int) := by omega
      have HB' : Hid (NuPost s.data.toList w (.returned (.tuple #[.int .i64 0, .bool false])) w) := BAD.out (fun h => h7 h.2.1) w (Below.refl _ _)
      clear BAD HGOOD HSG HNE HT HD h0
      go_wp2_with fail
      refine bodyPost_ret (v := .tuple #[.int .i64 0, .bool false]) ?_ rfl HB'.out
      simp [results, Tryz.results102, go_sem]
end Go.Proofs.YtnddkmccagiclabGreatDoor

/-
  What the call of ref's tree.term answers, at a word.
-/
namespace Go.Proofs.YtnddkmccagiclabGreatDoor
open Go.RowKit
/-- What a call that tells a term leaves; none: there is none. -/
def TrPost (T : Option Tm) (w : World) (e : Ending) (w' : World) : Prop :=
  ∃ (t : TT) (ok : Bool), e = .returned (.tuple #[.agg #[.int .i64 t.k, .int .i64 t.n, .int .i64 t.t.k, .slice t.t.a t.t.l.length t.t.c, .int .i64 t.f.k, .slice t.f.a t.f.l.length t.f.c, .slice t.a t.l.length t.c], .bool ok]) ∧ Hid (ok = T.isSome ∧ (∀ i, T = some i → t.tm = i) ∧ t.In w' ∧ t.Bl (w.heap.size ≤ ·) ∧ Below w.heap.size w w')
/-- Behind the entry: the tree's box, the answer's. -/
structure TBt (x : Nd) (w : World) (W : World) : Prop where
  low : Below w.heap.size w W
  b0 : W.cell? ⟨w.heap.size, 0, none⟩ = some (.string x.w)
  b1 : W.cell? ⟨w.heap.size, 1, none⟩ = some (.slice x.a x.l.length x.c)
  b2 : W.cell? ⟨w.heap.size, 2, none⟩ = some (.bool x.o)
  box : Box7 W (w.heap.size + 1) (tleaf 0 0)
theorem TBt.lt {x : Nd} {w W : World} (h : TBt x w W) : w.heap.size + 1 < W.heap.size := h.box.lt
theorem TBt.below {x : Nd} {w W V : World} (h : TBt x w W) (hb : Below W.heap.size W V) : TBt x w V := by
  have hl := h.lt
  have c : ∀ i, V.cell? ⟨w.heap.size, i, none⟩ = W.cell? ⟨w.heap.size, i, none⟩ := fun i => hb.cell (p := ⟨w.heap.size, i, none⟩) (show w.heap.size < _ by omega)
  exact ⟨h.low.trans (hb.mono h.low.size), (c _).trans h.b0, (c _).trans h.b1, (c _).trans h.b2, h.box.below hb⟩
theorem TBt.start (x : Nd) (w : World) : TBt x w ((w.alloc (.cells #[.string x.w, .slice x.a x.l.length x.c, .bool x.o] 111)).alloc (.cells #[.int .i64 0, .int .i64 0, .int .i64 0, .slice none 0 0, .int .i64 0, .slice none 0 0, .slice none 0 0] 27)) := by
  have h7 := At7.new (w.alloc (.cells #[.string x.w, .slice x.a x.l.length x.c, .bool x.o] 111)) (tleaf 0 0)
  rw [show (w.alloc (.cells #[.string x.w, .slice x.a x.l.length x.c, .bool x.o] 111)).heap.size = w.heap.size + 1 by simp] at h7
  refine ⟨((Below.refl _ _).alloc (Nat.le_refl _) _).alloc (by simp) _, ?_, ?_, ?_, ⟨h7, fun i hi => ?_⟩⟩
  all_goals simp [go_sem]
/-- The answer's seven cells, filled. -/
theorem tr_end {T : Option Tm} {t : TT} {x : Nd} {w wr : World} {ok : Bool} (h : TBt x w wr) (hb : ok = T.isSome) (ht : ∀ i, T = some i → t.tm = i) (hin : t.In wr) (hbl : t.Bl (fun b => w.heap.size ≤ b ∧ b ≠ w.heap.size + 1)) :
    TrPost T w (.returned (.tuple #[.agg #[.int .i64 t.k, .int .i64 t.n, .int .i64 t.t.k, .slice t.t.a t.t.l.length t.t.c, .int .i64 t.f.k, .slice t.f.a t.f.l.length t.f.c, .slice t.a t.l.length t.c], .bool ok])) (put7 wr (w.heap.size + 1) t) := by
  have hk := put7_kept (w := wr) (J := w.heap.size + 1) (x := t)
  refine ⟨t, ok, rfl, hb, ht, hin.keptR hk (hbl.mono fun b hb => hb.2), hbl.mono fun b hb => hb.1, ?_⟩
  exact h.low.trans ((hk.below (by simp) (Nat.le_of_lt h.lt)).mono (by omega))
theorem tr_leaf {T : Option Tm} {k n : Int} {x : Nd} {w wr : World} {ok : Bool} (h : TBt x w wr) (hb : ok = T.isSome) (ht : ∀ i, T = some i → ⟨k, n, anyY, anyY, []⟩ = i) :
    TrPost T w (.returned (.tuple #[.agg #[.int .i64 k, .int .i64 n, .int .i64 0, .slice none 0 0, .int .i64 0, .slice none 0 0, .slice none 0 0], .bool ok])) (put7 wr (w.heap.size + 1) (tleaf k n)) :=
  tr_end (t := tleaf k n) h hb (fun i hi => (tleaf_tm k n).trans (ht i hi)) (tleaf_in k n wr) (tleaf_bl k n _)
theorem termT_word (n : Nat) (x : Nd) (h : x.o = false) : termT (n + 1) x.tn = wordT x.w.data.toList := by
  rw [termT, Nd.tn_o, if_pos h, Nd.tn_w]
set_option maxRecDepth 20000 in
set_option maxHeartbeats 8000000 in
theorem term_word (n : Nat) (x : Nd) (w : World) (ho : x.o = false) (hw : x.w.data.toList ≠ []) (hs : x.w.size ≤ 2000) : Calls Tryz.prog 63 #[.agg #[.string x.w, .slice x.a x.l.length x.c, .bool x.o]] w (TrPost (termT (n + 1) x.tn) w) := by
  rw [termT_word n x ho]
  obtain ⟨bY, hY⟩ : ∃ b, (x.w.toList == (⟨#[121, 101, 115]⟩ : ByteArray).toList) = b := ⟨_, rfl⟩
  obtain ⟨bN, hN⟩ : ∃ b, (x.w.toList == (⟨#[110, 111]⟩ : ByteArray).toList) = b := ⟨_, rfl⟩
  have kY : (x.w.toList == [121, 101, 115]) = bY := by rw [← hY, Lib.toList_data ⟨#[121, 101, 115]⟩]
  have kN : (x.w.toList == [110, 111]) = bN := by rw [← hN, Lib.toList_data ⟨#[110, 111]⟩]
  have HAT : Hid (atWord (bw x.w.data.toList) truthWs 0 = if bN = true then some 0 else if bY = true then some 1 else none) := by
    have e : ∀ (y : ByteArray) (b : Bool), (x.w.toList == y.toList) = b → ((y = x.w) ↔ b = true) := fun y b h => by
      rw [← h]
      constructor
      · rintro rfl; simp
      · intro h'; exact ((Lib.bytes_beq_iff _ _).1 h').symm
    show _ = _
    rw [bw_of]
    simp only [truthWs, atWord, e _ _ hN, e _ _ hY]
  clear hY hN
  obtain ⟨W1, hW1⟩ : ∃ W, W = (w.alloc (.cells #[.string x.w, .slice x.a x.l.length x.c, .bool x.o] 111)).alloc (.cells #[.int .i64 0, .int .i64 0, .int .i64 0, .slice none 0 0, .int .i64 0, .slice none 0 0, .slice none 0 0] 27) := ⟨_, rfl⟩
  have HK : Hid (TBt x w W1) := by rw [hW1]; exact TBt.start x w
  have p0 := HK.out.b0
  have p2 := HK.out.b2
  rw [ho] at p2
  clear ho
  go_enter Tryz.func63, Tryz.ntmps63
  go_upto_region 1 with fail
  rw [← hW1]
  clear hW1
  cases bY
  · cases bN
    · have HNO : Hid (atWord (bw x.w.data.toList) truthWs 0 = none) := HAT.out
      clear HAT
      obtain ⟨d, r, hdr⟩ : ∃ d r, x.w.data.toList = d :: r := by
        cases h : x.w.data.toList with
        | nil => exact absurd h hw
        | cons d r => exact ⟨d, r, rfl⟩
      have hl : x.w.data.toList.length = x.w.size := Array.length_toList
      have h0 : 0 < x.w.size := by rw [← hl, hdr]; simp
      have hx : x.w[0]'h0 = d := by
        have h1 : x.w.data.toList[0]? = some d := by rw [hdr]; rfl
        have h2 := Lib.data_getElem? x.w 0 h0
        rw [h1] at h2
        exact (Option.some.inj h2).symm
      have hrl : r.length + 1 = x.w.size := by rw [← hl, hdr]; simp
      by_cases h35 : d = 35
      · have hc : ((d.toNat : Int) == 35) = true := by rw [h35]; rfl
        have hsl : ∀ w, (Instr.slice 9 (.string x.w) (some (.int .i64 1)) none none).run Tryz.prog w = .ok (.string (bw r)) w := fun w => by
          have := slice_from x.w 1 (by omega) w
          rw [hdr] at this
          exact this
        obtain ⟨Br, hBr⟩ : ∃ B, bw r = B := ⟨_, rfl⟩
        have HNU : Hid (Calls Tryz.prog 102 #[.string Br] W1 (NuPost r W1)) := by
          have h := numberR_any Br W1 (by rw [← hBr]; show r.toArray.size ≤ _; simp; omega)
          rw [← hBr] at h
          rw [← hBr]
          exact h
        have HT : Hid (wordT x.w.data.toList = (numT r).map fun n => ⟨1, n, anyY, anyY, []⟩) := by
          have h1 := HNO.out
          show _ = _
          rw [hdr, h35] at h1 ⊢
          exact wordT_hash r h1
        rw [hBr] at hsl
        clear hdr hl hrl hw h35 hBr HNO
        go_wp2_with fail
        refine HNU.out.mono ?_
        rintro e w3 ⟨m, ok, rfl, HM⟩
        have HKV : Hid (TBt x w w3) := HK.out.below HM.out.2.2.2
        have HP : Hid (TrPost (wordT x.w.data.toList) w (.returned (.tuple #[.agg #[.int .i64 1, .int .i64 m, .int .i64 0, .slice none 0 0, .int .i64 0, .slice none 0 0, .slice none 0 0], .bool ok])) (put7 w3 (w.heap.size + 1) (tleaf 1 m))) := by
          refine tr_leaf HKV.out ?_ (fun i hi => ?_)
          · rw [HM.out.1, HT.out]; simp
          · rw [HT.out] at hi
            obtain ⟨v, hv, rfl⟩ := Option.map_eq_some_iff.1 hi
            rw [HM.out.2.1 v hv]
        clear HK HNU HM HT hsl p0 p2
        have HGT : Hid _ := put7_gets (x := tleaf 1 m) HKV.out.box
        obtain ⟨c0, c1, c2, c3, c4, c5, c6⟩ := HKV.out.box.at7
        simp only [Nat.zero_add, tleaf] at c0 c1 c2 c3 c4 c5 c6
        have f0 := HKV.out.box.fz 0 (by omega)
        have f1 := HKV.out.box.fz 1 (by omega)
        have f2 := HKV.out.box.fz 2 (by omega)
        have f3 := HKV.out.box.fz 3 (by omega)
        have f4 := HKV.out.box.fz 4 (by omega)
        have f5 := HKV.out.box.fz 5 (by omega)
        have f6 := HKV.out.box.fz 6 (by omega)
        clear HKV
        go_wp2_with fail
        refine bodyPost_ret (v := .tuple #[.agg #[.int .i64 1, .int .i64 m, .int .i64 0, .slice none 0 0, .int .i64 0, .slice none 0 0, .slice none 0 0], .bool ok]) ?_ rfl HP.out
        obtain ⟨d0, d1, d2, d3, d4, d5, d6⟩ := HGT.out
        simp only [tleaf, List.length_nil] at d0 d1 d2 d3 d4 d5 d6
        simp [results, Tryz.results63, go_sem, d0, d1, d2, d3, d4, d5, d6]
      · have hc : ((d.toNat : Int) == 35) = false := by
          rw [beq_eq_false_iff_ne]
          intro e
          exact h35 (UInt8.toNat_inj.1 (by show d.toNat = 35; omega))
        have HNU : Hid (Calls Tryz.prog 102 #[.string x.w] W1 (NuPost x.w.data.toList W1)) := numberR_any x.w W1 hs
        have HT : Hid (wordT x.w.data.toList = (numT x.w.data.toList).map fun n => ⟨2, n, anyY, anyY, []⟩) :=
          wordT_num _ HNO.out fun q e => by rw [hdr] at e; exact h35 (List.cons.inj e).1
        clear hdr hl hrl hw h35 HNO
        go_wp2_with fail
        refine HNU.out.mono ?_
        rintro e w3 ⟨m, ok, rfl, HM⟩
        have HKV : Hid (TBt x w w3) := HK.out.below HM.out.2.2.2
        have HP : Hid (TrPost (wordT x.w.data.toList) w (.returned (.tuple #[.agg #[.int .i64 2, .int .i64 m, .int .i64 0, .slice none 0 0, .int .i64 0, .slice none 0 0, .slice none 0 0], .bool ok])) (put7 w3 (w.heap.size + 1) (tleaf 2 m))) := by
          refine tr_leaf HKV.out ?_ (fun i hi => ?_)
          · rw [HM.out.1, HT.out]; simp
          · rw [HT.out] at hi
            obtain ⟨v, hv, rfl⟩ := Option.map_eq_some_iff.1 hi
            rw [HM.out.2.1 v hv]
        clear HK HNU HM HT p0 p2
        have HGT : Hid _ := put7_gets (x := tleaf 2 m) HKV.out.box
        obtain ⟨c0, c1, c2, c3, c4, c5, c6⟩ := HKV.out.box.at7
        simp only [Nat.zero_add, tleaf] at c0 c1 c2 c3 c4 c5 c6
        have f0 := HKV.out.box.fz 0 (by omega)
        have f1 := HKV.out.box.fz 1 (by omega)
        have f2 := HKV.out.box.fz 2 (by omega)
        have f3 := HKV.out.box.fz 3 (by omega)
        have f4 := HKV.out.box.fz 4 (by omega)
        have f5 := HKV.out.box.fz 5 (by omega)
        have f6 := HKV.out.box.fz 6 (by omega)
        clear HKV
        go_wp2_with fail
        refine bodyPost_ret (v := .tuple #[.agg #[.int .i64 2, .int .i64 m, .int .i64 0, .slice none 0 0, .int .i64 0, .slice none 0 0, .slice none 0 0], .bool ok]) ?_ rfl HP.out
        obtain ⟨d0, d1, d2, d3, d4, d5, d6⟩ := HGT.out
        simp only [tleaf, List.length_nil] at d0 d1 d2 d3 d4 d5 d6
        simp [results, Tryz.results63, go_sem, d0, d1, d2, d3, d4, d5, d6]
    · have HP : Hid (TrPost (wordT x.w.data.toList) w (.returned (.tuple #[.agg #[.int .i64 3, .int .i64 0, .int .i64 0, .slice none 0 0, .int .i64 0, .slice none 0 0, .slice none 0 0], .bool true])) (put7 W1 (w.heap.size + 1) (tleaf 3 0))) :=
        tr_leaf HK.out (by rw [wordT_truth _ 0 HAT.out]; rfl) (fun i hi => by rw [wordT_truth _ 0 HAT.out] at hi; exact Option.some.inj hi)
      have HKV := HK
      clear HAT HK
      have HGT : Hid _ := put7_gets (x := tleaf 3 0) HKV.out.box
      obtain ⟨c0, c1, c2, c3, c4, c5, c6⟩ := HKV.out.box.at7
      simp only [Nat.zero_add, tleaf] at c0 c1 c2 c3 c4 c5 c6
      have f0 := HKV.out.box.fz 0 (by omega)
      have f1 := HKV.out.box.fz 1 (by omega)
      have f2 := HKV.out.box.fz 2 (by omega)
      have f3 := HKV.out.box.fz 3 (by omega)
      have f4 := HKV.out.box.fz 4 (by omega)
      have f5 := HKV.out.box.fz 5 (by omega)
      have f6 := HKV.out.box.fz 6 (by omega)
      clear HKV
      go_wp2_with fail
      refine bodyPost_ret (v := .tuple #[.agg #[.int .i64 3, .int .i64 0, .int .i64 0, .slice none 0 0, .int .i64 0, .slice none 0 0, .slice none 0 0], .bool true]) ?_ rfl HP.out
      obtain ⟨d0, d1, d2, d3, d4, d5, d6⟩ := HGT.out
      simp only [tleaf, List.length_nil] at d0 d1 d2 d3 d4 d5 d6
      simp [results, Tryz.results63, go_sem, d0, d1, d2, d3, d4, d5, d6]
  · have HP : Hid (TrPost (wordT x.w.data.toList) w (.returned (.tuple #[.agg #[.int .i64 3, .int .i64 1, .int .i64 0, .slice none 0 0, .int .i64 0, .slice none 0 0, .slice none 0 0], .bool true])) (put7 W1 (w.heap.size + 1) (tleaf 3 1))) := by
      have hbN : bN = false := by
        cases hb : bN
        · rfl
        · exfalso
          rw [hb] at kN
          have e1 : x.w.toList = [110, 111] := by simpa using kN
          rw [e1] at kY
          revert kY; decide
      have h1 := HAT.out
      rw [hbN] at h1
      exact tr_leaf HK.out (by rw [wordT_truth _ 1 h1]; rfl) (fun i hi => by rw [wordT_truth _ 1 h1] at hi; exact Option.some.inj hi)
    have HKV := HK
    clear HAT HK kN
    have HGT : Hid _ := put7_gets (x := tleaf 3 1) HKV.out.box
    obtain ⟨c0, c1, c2, c3, c4, c5, c6⟩ := HKV.out.box.at7
    simp only [Nat.zero_add, tleaf] at c0 c1 c2 c3 c4 c5 c6
    have f0 := HKV.out.box.fz 0 (by omega)
    have f1 := HKV.out.box.fz 1 (by omega)
    have f2 := HKV.out.box.fz 2 (by omega)
    have f3 := HKV.out.box.fz 3 (by omega)
    have f4 := HKV.out.box.fz 4 (by omega)
    have f5 := HKV.out.box.fz 5 (by omega)
    have f6 := HKV.out.box.fz 6 (by omega)
    clear HKV
    go_wp2_with fail
    refine bodyPost_ret (v := .tuple #[.agg #[.int .i64 3, .int .i64 1, .int .i64 0, .slice none 0 0, .int .i64 0, .slice none 0 0, .slice none 0 0], .bool true]) ?_ rfl HP.out
    obtain ⟨d0, d1, d2, d3, d4, d5, d6⟩ := HGT.out
    simp only [tleaf, List.length_nil] at d0 d1 d2 d3 d4 d5 d6
    simp [results, Tryz.results63, go_sem, d0, d1, d2, d3, d4, d5, d6]
end Go.Proofs.YtnddkmccagiclabGreatDoor

/-
  While the parts of a term are read out of trees: the term's box, the row of its parts; and the plain facts of a tree with brackets.
-/
namespace Go.Proofs.YtnddkmccagiclabGreatDoor
open Go.RowKit
/-- The term's box at S, as it was laid in W3, its parts in a row behind it. -/
structure CU (S : Nat) (k : Int) (t : Tr) (v : Value) (cs : List TT) (W3 wr : World) : Prop where
  row : Row (S + 1) v cs wr
  low : Below S W3 wr
  box : ∃ a c, v = .slice a cs.length c ∧ Box7 wr S ⟨k, 0, t, leaf 0, a, c, cs⟩
  tin : t.In wr ∧ t.Bl (fun b => S + 1 ≤ b ∧ some b ≠ v.ownBlock)
theorem CU.lt {S : Nat} {k : Int} {t : Tr} {v : Value} {cs : List TT} {W3 wr : World} (h : CU S k t v cs W3 wr) : S < wr.heap.size := by
  obtain ⟨_, _, _, hb⟩ := h.box
  exact hb.lt
theorem CU.step {S : Nat} {k : Int} {c : TT} {t : Tr} {gg cap1 : Nat} {v : Value} {cs : List TT} {W3 wr w1 w2 w3 : World} {X : Obj} (h : CU S k t v cs W3 wr) (hb1 : Below wr.heap.size wr w1) (hin : c.In w2) (hbl : c.Bl (w1.heap.size ≤ ·)) (hb2 : Below w1.heap.size w1 w2)
    (hown : w3.ownsRow (S + 1) 27 7 (.slice (some ⟨gg, 0, none⟩) (cs.length + 1) cap1) (cs.length + 1) (cells7 cs ++ [.int .i64 c.k, .int .i64 c.n, .int .i64 c.t.k, .slice c.t.a c.t.l.length c.t.c, .int .i64 c.f.k, .slice c.f.a c.f.l.length c.f.c, .slice c.a c.l.length c.c])) (hgrow : (w2.alloc X).grownBy w3 v.ownBlock) (hat : v.ownBlock = some gg ∨ gg = w2.heap.size + 1) :
    CU S k t (.slice (some ⟨gg, 0, none⟩) (cs.length + 1) cap1) (cs ++ [c]) W3 (w3.setCell ⟨S, 6, none⟩ (.slice (some ⟨gg, 0, none⟩) (cs.length + 1) cap1)) := by
  have s1 := hb1.size
  have s2 := hb2.size
  have hlr : S < wr.heap.size := h.lt
  have hbr : Below wr.heap.size wr w2 := hb1.trans (hb2.mono s1)
  have hov := h.row.lt
  obtain ⟨hr3, hblk⟩ := (h.row.below hbr).step hin (hbl.mono fun b hb => ⟨by omega, fun e => by have := (hov b e.symm).2; omega⟩) (by simpa [cells7] using hown) hgrow hat
  have hno : ∀ k, k ≤ S → some k ≠ v.ownBlock := fun k hk e => by have := (hov k e.symm).1; omega
  have hold : ∀ k, k < wr.heap.size → some k ≠ v.ownBlock → w3.heap[k]? = wr.heap[k]? := fun k hk hn => (hblk k (by omega) hn).trans (hbr.block k hk)
  have hset : ∀ k i, k ≠ S → (w3.setCell ⟨S, 6, none⟩ (.slice (some ⟨gg, 0, none⟩) (cs.length + 1) cap1)).cell? ⟨k, i, none⟩ = w3.cell? ⟨k, i, none⟩ := by
    intro k i hk
    rw [World.cell?_setCell_other]
    intro e; simp only [Addr.mk.injEq] at e; omega
  refine ⟨hr3.kept (R := S) setR_kept (by omega), ?_, ?_, ?_⟩
  · have hb3 : Below S (w2.alloc X) w3 := ⟨hgrow.os, hgrow.tape, hgrow.output, hgrow.size, fun k hk => hgrow.block k (by simp; omega) (hno k (by omega))⟩
    have hba : Below S w2 (w2.alloc X) := ((Below.refl _ _).alloc (Nat.le_refl _) _).mono (by omega)
    exact (((h.low.trans (hbr.mono (by omega))).trans hba).trans hb3).setCell (by simp) _
  · obtain ⟨a, c0, hv, hbx⟩ := h.box
    refine ⟨some ⟨gg, 0, none⟩, cap1, ?_, ?_⟩
    · rw [List.length_append, List.length_singleton]
    · have := (hbx.blk (hold S (by omega) (hno S (by omega)))).set6 (a' := some ⟨gg, 0, none⟩) (c' := cap1) (l' := cs ++ [c])
      rw [List.length_append, List.length_singleton] at this
      exact this
  · obtain ⟨i1, i2⟩ := h.tin
    have i3 := i1.bl.and i2
    refine ⟨i1.congr (P := fun b => b < wr.heap.size ∧ S + 1 ≤ b ∧ some b ≠ v.ownBlock) (fun b hb i => ?_) i3, i3.mono fun b hb => ⟨hb.2.1, ?_⟩⟩
    · rw [hset b i (by omega)]
      exact World.cell?_of_block (a := ⟨b, i, none⟩) (hold b hb.1 hb.2.2)
    · show some b ≠ some gg
      rcases hat with e | e
      · rw [← e]; exact hb.2.2
      · simp only [ne_eq, Option.some.injEq]; omega
/-- All but the blocks from S on is as it was: the tree's box and the answer's lie there still. -/
theorem TBt.belowS {x : Nd} {w W V : World} {S : Nat} (h : TBt x w W) (hS : w.heap.size + 1 < S) (hb : Below S W V) : TBt x w V := by
  have c : ∀ b i, b ≤ w.heap.size + 1 → V.cell? ⟨b, i, none⟩ = W.cell? ⟨b, i, none⟩ := fun b i h => hb.cell (p := ⟨b, i, none⟩) (show b < S by omega)
  have f : ∀ b i, b ≤ w.heap.size + 1 → V.frozen? ⟨b, i, none⟩ = W.frozen? ⟨b, i, none⟩ := fun b i h => hb.frozen (p := ⟨b, i, none⟩) (show b < S by omega)
  exact ⟨h.low.trans (hb.mono (by omega)), (c _ _ (by omega)).trans h.b0, (c _ _ (by omega)).trans h.b1, (c _ _ (by omega)).trans h.b2, ⟨h.box.at7.of fun i => c _ i (by omega), fun i hi => (f _ i (by omega)).trans (h.box.fz i hi)⟩⟩
/-! ### Which word -/
theorem atWord_first (x : ByteArray) : ∀ (l : List ByteArray) (i j : Nat) (h : j < l.length), (∀ q (hq : q < l.length), q < j → l[q] ≠ x) → l[j] = x → atWord x l i = some (i + j)
  | y :: r, i, 0, _, _, hj => by
    rw [atWord, if_pos (by simpa using hj)]
    rfl
  | y :: r, i, j + 1, h, hn, hj => by
    rw [atWord, if_neg (by have := hn 0 (by simp) (by omega); simpa using this)]
    rw [atWord_first x r (i + 1) j (by simpa using h) (fun q hq hqj => by have := hn (q + 1) (by simpa using hq) (by omega); simpa using this) (by simpa using hj)]
    congr 1
    omega
theorem atWord_none (x : ByteArray) : ∀ (l : List ByteArray) (i : Nat), (∀ y, y ∈ l → y ≠ x) → atWord x l i = none
  | [], _, _ => rfl
  | y :: r, i, h => by
    rw [atWord, if_neg (h y List.mem_cons_self)]
    exact atWord_none x r (i + 1) fun z hz => h z (List.mem_cons_of_mem _ hz)
/-! ### A tree with brackets -/
theorem termT_nil (n : Nat) (x : Nd) (ho : x.o = true) (hl : x.l = []) : termT (n + 1) x.tn = none := by
  rw [termT, Nd.tn_o, if_neg (by rw [ho]; simp), Nd.tn_l, hl]
  rfl
theorem termT_two (n : Nat) (x y : Nd) (r : List Nd) (ho : x.o = true) (hl : x.l = y :: r) (hy : y.o = true) : termT (n + 1) x.tn = none := by
  rw [termT, Nd.tn_o, if_neg (by rw [ho]; simp), Nd.tn_l, hl]
  simp [Nd.tn_o, hy]
theorem termT_cons (n : Nat) (x y : Nd) (r : List Nd) (ho : x.o = true) (hl : x.l = y :: r) (hy : y.o = false) : termT (n + 1) x.tn = (kindAt y.w).bind fun k => (headT n k (r.map Nd.tn)).bind fun p => if p.2.length = partsOf (k : Int) then (allO (termT n) p.2).map fun l => ⟨(k : Int), 0, p.1, anyY, l⟩ else none := by
  rw [termT, Nd.tn_o, if_neg (by rw [ho]; simp), Nd.tn_l, hl]
  simp only [List.map_cons, Nd.tn_o, hy, Bool.false_eq_true, if_false, Nd.tn_w]
  rfl
/-- Parts that were read so far: what each came to, and whether all came to something. -/
structure PU (n : Nat) (L : List Nd) (ok0 : Bool) (j : Nat) (ok : Bool) (cs : List TT) : Prop where
  len : cs.length = j
  ok : ok = (ok0 && (L.take j).all fun y => (termT n y.tn).isSome)
  tm : ∀ i (h : i < cs.length) (h' : i < L.length) v, termT n L[i].tn = some v → cs[i].tm = v
theorem PU.start (n : Nat) (L : List Nd) (ok0 : Bool) : PU n L ok0 0 ok0 [] := ⟨rfl, by simp, fun i h => by cases h⟩
theorem PU.step {n : Nat} {L : List Nd} {ok0 ok b : Bool} {j : Nat} {cs : List TT} {z : TT} (h : PU n L ok0 j ok cs) (hj : j < L.length) (hb : b = (termT n L[j].tn).isSome) (hz : ∀ v, termT n L[j].tn = some v → z.tm = v) : PU n L ok0 (j + 1) (ok && b) (cs ++ [z]) := by
  refine ⟨by simp [h.len], ?_, fun i hi h' v hv => ?_⟩
  · rw [h.ok, hb, List.take_succ_eq_append_getElem hj, List.all_append]
    simp [Bool.and_assoc]
  · by_cases hc : i < cs.length
    · rw [List.getElem_append_left hc]
      exact h.tm i hc h' v hv
    · have e : i = cs.length := by simp at hi; omega
      subst e
      rw [List.getElem_append_right (Nat.le_refl _)]
      simp only [Nat.sub_self, List.getElem_cons_zero]
      exact hz v (by simpa only [h.len] using hv)
theorem allO_none {f : Tn → Option Tm} : ∀ l : List Tn, (l.all fun y => (f y).isSome) = false → allO f l = none
  | [], h => by simp at h
  | x :: l, h => by
    rw [allO]
    simp only [List.all_cons, Bool.and_eq_false_iff] at h
    rcases h with h | h
    · cases hf : f x with
      | none => rfl
      | some t => rw [hf] at h; cases h
    · rw [allO_none l h]
      cases f x <;> rfl
theorem allO_some {f : Tn → Option Tm} : ∀ (l : List Tn) (ts : List Tm), ts.length = l.length → (∀ i (h : i < l.length) (h' : i < ts.length), f l[i] = some ts[i]) → allO f l = some ts
  | [], [], _, _ => rfl
  | [], t :: ts, h, _ => by simp at h
  | x :: l, [], h, _ => by simp at h
  | x :: l, t :: ts, hl, h => by
    rw [allO, show f x = some t from h 0 (by simp) (by simp), Option.bind_some, allO_some l ts (by simpa using hl) fun i h1 h2 => by
      have := h (i + 1) (by simpa using h1) (by simpa using h2)
      simpa using this]
    rfl
/-- What the whole comes to. -/
theorem PU.end {n : Nat} {L : List Nd} {ok0 ok : Bool} {cs : List TT} (h : PU n L ok0 L.length ok cs) : (ok = true → ok0 = true ∧ allO (termT n) (L.map Nd.tn) = some (cs.map TT.tm)) ∧ (ok = false → ok0 = false ∨ allO (termT n) (L.map Nd.tn) = none) := by
  have e : ok = (ok0 && L.all fun y => (termT n y.tn).isSome) := by rw [h.ok, List.take_length]
  constructor
  · intro ho
    rw [e, Bool.and_eq_true] at ho
    refine ⟨ho.1, allO_some _ _ (by simp [h.len]) fun i h1 h2 => ?_⟩
    have hi : i < L.length := by simpa using h1
    have hs := List.all_eq_true.1 ho.2 L[i] (List.getElem_mem hi)
    obtain ⟨v, hv⟩ := Option.isSome_iff_exists.1 hs
    have := h.tm i (by simpa using h2) hi v hv
    simp only [List.getElem_map]
    rw [hv, this]
  · intro ho
    rw [e, Bool.and_eq_false_iff] at ho
    rcases ho with ho | ho
    · exact .inl ho
    · refine .inr (allO_none _ ?_)
      rw [List.all_map]
      exact ho
end Go.Proofs.YtnddkmccagiclabGreatDoor

/-
  What the call of ref's tree.term answers, at a tree with brackets.
-/
namespace Go.Proofs.YtnddkmccagiclabGreatDoor
open Go.RowKit
/-- The row without its first tree. -/
theorem Nd.In.tail {W : World} {wd : ByteArray} {a : Option Addr} {c : Nat} {y : Nd} {r : List Nd} {o : Bool} (h : (Nd.mk wd a c (y :: r) o).In W) : ∃ A1 C1, (∀ V, (Instr.slice 106 (.slice a (r.length + 1) c) (some (.int .i64 1)) none none).run Tryz.prog V = .ok (.slice A1 r.length C1) V) ∧ (Nd.mk ⟨#[]⟩ A1 C1 r false).In W := by
  obtain ⟨hn, hc, hi⟩ := Nd.In_mk.1 h
  simp only [List.length_cons] at hn
  refine ⟨if c = 1 then a else a.map (·.add 3), c - 1, fun V => ?_, Nd.In_mk.2 ⟨by omega, fun j hj => ?_, fun t ht => hi t (List.mem_cons_of_mem _ ht)⟩⟩
  · rw [run_slice_l V 106 a (r.length + 1) c (by kernel_rfl) .i64 1 (by omega) (by omega)]
    simp [go_sem]
  · obtain ⟨b, f, ea, c0, c1, c2⟩ := hc (j + 1) (by simpa using hj)
    refine ⟨b, f + 3, ?_, ?_, ?_, ?_⟩
    · rw [if_neg (by omega), ea]
      simp [Addr.add]
    · rw [show f + 3 + j * 3 = f + (j + 1) * 3 by omega]; exact c0
    · rw [show f + 3 + j * 3 + 1 = f + (j + 1) * 3 + 1 by omega]; exact c1
    · rw [show f + 3 + j * 3 + 2 = f + (j + 1) * 3 + 2 by omega]; exact c2
theorem CU.below {S : Nat} {k : Int} {t : Tr} {v : Value} {cs : List TT} {W3 wr w2 : World} (h : CU S k t v cs W3 wr) (hb : Below wr.heap.size wr w2) : CU S k t v cs W3 w2 := by
  obtain ⟨a, c, hv, hbx⟩ := h.box
  exact ⟨h.row.below hb, h.low.trans (hb.mono (Nat.le_of_lt h.lt)), ⟨a, c, hv, hbx.below hb⟩, h.tin.1.below hb, h.tin.2⟩
theorem CU.start {S : Nat} {k : Int} {W3 : World} (h : Box7 W3 S (tleaf k 0)) : CU S k (leaf 0) (.slice none 0 0) [] W3 W3 :=
  ⟨Row.nil _ _, Below.refl _ _, ⟨none, 0, rfl, h⟩, leaf_in 0 _, leaf_bl 0 _⟩
theorem CU.typed {S : Nat} {k : Int} {t : Tr} {W3 w4 : World} (h : Box7 W3 S (tleaf k 0)) (hb : Below W3.heap.size W3 w4) (ht : t.In w4) (hbl : t.Bl (W3.heap.size ≤ ·)) : CU S k t (.slice none 0 0) [] W3 ((w4.setCell ⟨S, 2, none⟩ (.int .i64 t.k)).setCell ⟨S, 3, none⟩ (.slice t.a t.l.length t.c)) := by
  have hlt := h.lt
  have hk := set23_kept (w := w4) (J := S) (u := .int .i64 t.k) (v := .slice t.a t.l.length t.c)
  refine ⟨Row.nil _ _, ((hb.mono (Nat.le_of_lt hlt)).setCell (by simp) _).setCell (by simp) _, ⟨none, 0, rfl, (h.below hb).set23⟩, ht.keptR hk (hbl.mono fun b hb => by omega), hbl.mono fun b hb => ⟨by omega, by simp [Value.ownBlock]⟩⟩
theorem count_flat : ∀ l : List Nd, l.length ≤ (flatL (l.map Nd.tn)).length
  | [] => by simp
  | x :: l => by
    have := count_flat l
    have h1 := flat_pos x.tn
    rw [List.map_cons, flatL_cons, List.length_append, List.length_cons]
    omega
theorem nice_mem {x y : Tn} (h : x.nice) (hy : y ∈ x.l) : y.nice := by
  obtain ⟨w, l, o⟩ := x
  exact (Tn.nice_mk.1 h).2.2 y hy
theorem nice_w {x : Tn} (h : x.nice) (ho : x.o = false) : plainW x.w := by
  obtain ⟨w, l, o⟩ := x
  exact ((Tn.nice_mk.1 h).2.1 ho).2
theorem flat_sub {x : Tn} {z : List UInt8} : ∀ {l : List Tn}, x ∈ l → z ∈ x.flat → z ∈ flatL l
  | y :: l, h, hz => by
    rw [flatL_cons]
    rcases List.mem_cons.1 h with rfl | h
    · exact List.mem_append_left _ hz
    · exact List.mem_append_right _ (flat_sub h hz)
theorem flat_wordOf (t : Tn) (h : t.o = false) : t.flat = [t.w] := by
  obtain ⟨w, l, o⟩ := t
  obtain rfl : o = false := h
  exact flat_word w l
theorem kindWs_cell (W : World) (j : Nat) (h : j < kindWs.length) : (W.alloc (.cells #[.string (bw (kindW 4)), .string (bw (kindW 5)), .string (bw (kindW 6)), .string (bw (kindW 7)), .string (bw (kindW 8)), .string (bw (kindW 9))] 9)).cell? ⟨W.heap.size, j, none⟩ = some (.string kindWs[j]) := by
  have h6 : j < 6 := h
  match j, h6 with
  | 0, _ => simp; rfl
  | 1, _ => simp; rfl
  | 2, _ => simp; rfl
  | 3, _ => simp; rfl
  | 4, _ => simp; rfl
  | 5, _ => simp; rfl
set_option maxRecDepth 20000 in
set_option maxHeartbeats 16000000 in
theorem term_open (n : Nat) (x : Nd) (w : World) (hx : x.In w) (ho : x.o = true) (hta : Ta w) (hln : x.l.length ≤ 3000) (hfl : Hid (∀ y, y ∈ x.l → y.tn.flat.length ≤ n))
    (ih : Hid (∀ (y : Nd) (W : World), y ∈ x.l → y.In W → Ta W → Calls Tryz.prog 63 #[.agg #[.string y.w, .slice y.a y.l.length y.c, .bool y.o]] W (TrPost (termT n y.tn) W))) :
    Calls Tryz.prog 63 #[.agg #[.string x.w, .slice x.a x.l.length x.c, .bool x.o]] w (TrPost (termT (n + 1) x.tn) w) := by
  obtain ⟨i0, hi0, hz0, hz1, hz2⟩ := info_parts Tryz.info27c
  obtain ⟨W1, hW1⟩ : ∃ W, W = (w.alloc (.cells #[.string x.w, .slice x.a x.l.length x.c, .bool x.o] 111)).alloc (.cells #[.int .i64 0, .int .i64 0, .int .i64 0, .slice none 0 0, .int .i64 0, .slice none 0 0, .slice none 0 0] 27) := ⟨_, rfl⟩
  have HK : Hid (TBt x w W1) := by rw [hW1]; exact TBt.start x w
  have p1 := HK.out.b1
  have p2 := HK.out.b2
  rw [ho] at p2
  rcases (show x.l = [] ∨ ∃ y r, x.l = y :: r by cases x.l with
    | nil => exact .inl rfl
    | cons y r => exact .inr ⟨y, r, rfl⟩) with hl | ⟨y, r, hl⟩
  · have HT : Hid (termT (n + 1) x.tn = none) := termT_nil n x ho hl
    rw [hl, List.length_nil] at p1
    clear hx hta hln hfl ih ho hl
    go_enter Tryz.func63, Tryz.ntmps63
    go_upto_region 1 with fail
    rw [← hW1]
    clear hW1
    have HP : Hid (TrPost (termT (n + 1) x.tn) w (.returned (.tuple #[.agg #[.int .i64 0, .int .i64 0, .int .i64 0, .slice none 0 0, .int .i64 0, .slice none 0 0, .slice none 0 0], .bool false])) (put7 W1 (w.heap.size + 1) (tleaf 0 0))) :=
      tr_leaf HK.out (by rw [HT.out]; rfl) (fun i hi => by rw [HT.out] at hi; cases hi)
    have HKV := HK
    clear HK HT
    have HGT : Hid _ := put7_gets (x := tleaf 0 0) HKV.out.box
    obtain ⟨c0, c1, c2, c3, c4, c5, c6⟩ := HKV.out.box.at7
    simp only [Nat.zero_add, tleaf] at c0 c1 c2 c3 c4 c5 c6
    have f0 := HKV.out.box.fz 0 (by omega)
    have f1 := HKV.out.box.fz 1 (by omega)
    have f2 := HKV.out.box.fz 2 (by omega)
    have f3 := HKV.out.box.fz 3 (by omega)
    have f4 := HKV.out.box.fz 4 (by omega)
    have f5 := HKV.out.box.fz 5 (by omega)
    have f6 := HKV.out.box.fz 6 (by omega)
    clear HKV
    go_wp2_with fail
    refine bodyPost_ret (v := .tuple #[.agg #[.int .i64 0, .int .i64 0, .int .i64 0, .slice none 0 0, .int .i64 0, .slice none 0 0, .slice none 0 0], .bool false]) ?_ rfl HP.out
    obtain ⟨d0, d1, d2, d3, d4, d5, d6⟩ := HGT.out
    simp only [tleaf, List.length_nil] at d0 d1 d2 d3 d4 d5 d6
    simp [results, Tryz.results63, go_sem, d0, d1, d2, d3, d4, d5, d6]

  · obtain ⟨b, f, ea, e0, e1, e2, hy0⟩ := hx.part 0 (by rw [hl]; simp)
    simp only [hl, List.getElem_cons_zero, Nat.zero_mul, Nat.add_zero] at e0 e1 e2 hy0
    have HXL : Hid (∀ z, z ∈ r → z ∈ x.l) := fun z hz => by rw [hl]; exact List.mem_cons_of_mem _ hz
    have HXI : Hid (x.In w ∧ Ta w ∧ r.length ≤ 3000) := ⟨hx, hta, by rw [hl] at hln; simp at hln; omega⟩
    have HTL : Hid (∃ A1 C1, (∀ V, (Instr.slice 106 (.slice (some ⟨b, f, none⟩) (r.length + 1) x.c) (some (.int .i64 1)) none none).run Tryz.prog V = .ok (.slice A1 r.length C1) V) ∧ (Nd.mk ⟨#[]⟩ A1 C1 r false).In w) := by
      obtain ⟨xw, xa, xc, xl, xo⟩ := x
      obtain rfl : xl = y :: r := hl
      obtain rfl : xa = some ⟨b, f, none⟩ := ea
      exact hx.tail
    have a0 := cell_later HK.out.low e0
    have a2 := cell_later HK.out.low e2
    rw [hl, ea, List.length_cons] at p1
    have hr0 : (((r.length : Nat) : Int) + 1 == 0) = false := by
      rw [beq_eq_false_iff_ne]
      omega
    clear e0 e1 e2 hy0
    by_cases hyo : y.o = true
    · have HT : Hid (termT (n + 1) x.tn = none) := termT_two n x y r ho hl hyo
      rw [hyo] at a2
      clear hx hta hln hfl ih ho hl ea HXL HXI HTL hyo
      go_enter Tryz.func63, Tryz.ntmps63
      go_upto_region 1 with fail
      rw [← hW1]
      clear hW1
      have HP : Hid (TrPost (termT (n + 1) x.tn) w (.returned (.tuple #[.agg #[.int .i64 0, .int .i64 0, .int .i64 0, .slice none 0 0, .int .i64 0, .slice none 0 0, .slice none 0 0], .bool false])) (put7 W1 (w.heap.size + 1) (tleaf 0 0))) :=
        tr_leaf HK.out (by rw [HT.out]; rfl) (fun i hi => by rw [HT.out] at hi; cases hi)
      have HKV := HK
      clear HK HT
      have HGT : Hid _ := put7_gets (x := tleaf 0 0) HKV.out.box
      obtain ⟨c0, c1, c2, c3, c4, c5, c6⟩ := HKV.out.box.at7
      simp only [Nat.zero_add, tleaf] at c0 c1 c2 c3 c4 c5 c6
      have f0 := HKV.out.box.fz 0 (by omega)
      have f1 := HKV.out.box.fz 1 (by omega)
      have f2 := HKV.out.box.fz 2 (by omega)
      have f3 := HKV.out.box.fz 3 (by omega)
      have f4 := HKV.out.box.fz 4 (by omega)
      have f5 := HKV.out.box.fz 5 (by omega)
      have f6 := HKV.out.box.fz 6 (by omega)
      clear HKV
      go_wp2_with fail
      refine bodyPost_ret (v := .tuple #[.agg #[.int .i64 0, .int .i64 0, .int .i64 0, .slice none 0 0, .int .i64 0, .slice none 0 0, .slice none 0 0], .bool false]) ?_ rfl HP.out
      obtain ⟨d0, d1, d2, d3, d4, d5, d6⟩ := HGT.out
      simp only [tleaf, List.length_nil] at d0 d1 d2 d3 d4 d5 d6
      simp [results, Tryz.results63, go_sem, d0, d1, d2, d3, d4, d5, d6]

    · have hyf : y.o = false := by simpa using hyo
      rw [hyf] at a2
      have HTC := termT_cons n x y r ho hl hyf
      have HT0 : Hid (termT (n + 1) x.tn = (kindAt y.w).bind fun k => (headT n k (r.map Nd.tn)).bind fun p => if p.2.length = partsOf (k : Int) then (allO (termT n) p.2).map fun l => ⟨(k : Int), 0, p.1, anyY, l⟩ else none) := HTC
      obtain ⟨W2, hW2⟩ : ∃ W, W = W1.alloc (.cells #[.string (bw (kindW 4)), .string (bw (kindW 5)), .string (bw (kindW 6)), .string (bw (kindW 7)), .string (bw (kindW 8)), .string (bw (kindW 9))] 9) := ⟨_, rfl⟩
      have HB12 : Hid (Below W1.heap.size W1 W2) := by rw [hW2]; exact (Below.refl _ _).alloc (Nat.le_refl _) _
      have HK2 : Hid (TBt x w W2) := HK.out.below HB12.out
      have HKW : Hid (∀ j (h : j < kindWs.length), W2.cell? ⟨W1.heap.size, j, none⟩ = some (.string kindWs[j])) := fun j h => by rw [hW2]; exact kindWs_cell W1 j h
      have HFI : Hid (Calls Tryz.prog 103 #[.string lawWords] W1 fun e w' => e = .returned (.slice (some ⟨W1.heap.size, 0, none⟩) 6 6) ∧ w' = W2) := by
        rw [hW2]
        exact fields_any W1 (hta.below HK.out.low)
      have g1 : W2.cell? ⟨w.heap.size, 1, none⟩ = some (.slice (some ⟨b, f, none⟩) (r.length + 1) x.c) := by
        have := HK2.out.b1
        rw [hl, ea, List.length_cons] at this
        exact this
      have g0 : W2.cell? ⟨b, f, none⟩ = some (.string y.w) := cell_later HB12.out a0
      clear hx hta hln ho hl ea hyo hyf HTC hW2
      go_enter Tryz.func63, Tryz.ntmps63
      go_upto_region 1 with fail
      rw [← hW1]
      clear hW1
      go_wp2_with fail
      refine HFI.out.mono ?_
      rintro e w2 ⟨rfl, hw2⟩
      rw [hw2]
      clear hw2 w2 HFI a0 a2 p1 p2 HK HB12
      go_wp2_with fail
      go_loopg [68] 6 (fun g i wr => ∃ j : Nat, g + j = 6 ∧ i = .int .i64 (j : Int) ∧ wr = W2 ∧ Hid (∀ q (h : q < kindWs.length), q < j → kindWs[q] ≠ y.w))
      case atStart => exact ⟨0, rfl, rfl, rfl, fun q h hq => absurd hq (by omega)⟩
      case round =>
        obtain ⟨j, hj, rfl, rfl, HJ⟩ := hrel
        by_cases hj6 : j < kindWs.length
        · obtain ⟨K, hKK⟩ : ∃ K, kindWs[j]'hj6 = K := ⟨_, rfl⟩
          have gj : wr.cell? ⟨W1.heap.size, j, none⟩ = some (.string K) := by rw [← hKK]; exact HKW.out j hj6
          have hj6' : j < 6 := hj6
          have i1 : (j : Int) < 6 := by omega
          have i2 : (0 : Int) ≤ (j : Int) := by omega
          have i3 : IntKind.i64.wrap ((j : Int) + 1) = (j : Int) + 1 := by rw [IntKind.wrap_i64]; omega
          obtain ⟨bb, hbb⟩ : ∃ bb, (y.w.toList == K.toList) = bb := ⟨_, rfl⟩
          cases bb
          · have HJ2 : Hid (∀ q (h : q < kindWs.length), q < j + 1 → kindWs[q] ≠ y.w) := fun q h hq => by
              by_cases e : q < j
              · exact HJ.out q h e
              · obtain rfl : q = j := by omega
                rw [hKK]
                rintro rfl
                simp at hbb
            clear HT0 HK2 HKW HTL HXI HXL hfl ih HJ hKK
            go_wp2_with fail
            go_roundg (gk - 1)
            case measure => omega
            case rel => exact ⟨j + 1, by omega, by simp, rfl, HJ2.out⟩
          · obtain rfl : y.w = K := (Lib.bytes_beq_iff _ _).1 hbb
            have HKA : kindAt y.w = some (4 + j) := atWord_first y.w kindWs 4 j hj6 HJ.out hKK
            obtain ⟨kk, hkk⟩ : ∃ kk, 4 + j = kk := ⟨_, rfl⟩
            rw [hkk] at HKA
            have HT1 : Hid (termT (n + 1) x.tn = (headT n kk (r.map Nd.tn)).bind fun p => if p.2.length = partsOf (kk : Int) then (allO (termT n) p.2).map fun l => ⟨(kk : Int), 0, p.1, anyY, l⟩ else none) := by
              show _ = _
              rw [HT0.out, HKA, Option.bind_some]
            have i4 : IntKind.i64.wrap ((j : Int) + 4) = (kk : Int) := by
              rw [IntKind.wrap_i64]
              omega
            have hkb : 4 ≤ kk ∧ kk ≤ 9 := by omega
            obtain ⟨A1, C1, hsl1, hin1⟩ := HTL.out
            have HN1 : Hid ((Nd.mk ⟨#[]⟩ A1 C1 r false).In w) := hin1
            obtain ⟨W3, hW3⟩ : ∃ W, W = wr.alloc (.cells #[.int .i64 (kk : Int), .int .i64 0, .int .i64 0, .slice none 0 0, .int .i64 0, .slice none 0 0, .slice none 0 0] 27) := ⟨_, rfl⟩
            have HB23 : Hid (Below wr.heap.size wr W3) := by rw [hW3]; exact (Below.refl _ _).alloc (Nat.le_refl _) _
            obtain ⟨S, hS⟩ : ∃ S, wr.heap.size = S := ⟨_, rfl⟩
            have HBX : Hid (Box7 W3 S (tleaf (kk : Int) 0)) := by
              have h7 := At7.new wr (tleaf (kk : Int) 0)
              rw [← hS, hW3]
              exact ⟨h7, fun i hi => by simp [go_sem]⟩
            have HK3 : Hid (TBt x w W3) := HK2.out.below HB23.out
            have HS : Hid (w.heap.size + 1 < S ∧ W3.heap.size = S + 1) := ⟨by rw [← hS]; exact HK2.out.lt, by rw [hW3, ← hS]; simp⟩
            have g3 : W3.cell? ⟨w.heap.size, 1, none⟩ = some (.slice (some ⟨b, f, none⟩) (r.length + 1) x.c) := cell_later HB23.out g1
            obtain ⟨s0, s1, s2, s3, s4, s5, s6⟩ := HBX.out.at7
            simp only [Nat.zero_add, tleaf] at s0 s1 s2 s3 s4 s5 s6
            clear HT0 HKA HKW HTL HJ hKK hin1 hbb hkk
            go_upto_region 18 with fail
            rw [← hW3]
            (try rw [hS])
            clear hW3 hS HK2 HB23 g1 g0 gj
            go_upto_region 19 with fail
            obtain ⟨tl, htl0⟩ : ∃ tl, tells (kk : Int) = tl := ⟨_, rfl⟩
            have HTL0 : Hid (tells (kk : Int) = tl) := htl0
            clear htl0
            go_cut [93] (fun v93 wx => v93 = .bool tl ∧ wx = W3)
            case first =>
              by_cases hk7 : (kk : Int) = 7
              · have h1 : ((kk : Int) == 7) = true := by rw [hk7]; rfl
                have h2 : tl = true := by rw [← HTL0.out, hk7]; rfl
                subst h2
                clear hk7 HTL0 HK3 HT1 HN1 HXI HXL hfl ih HBX HS
                go_wp2_with fail
                go_meet
                case rel => exact ⟨rfl, rfl⟩
              · have h1 : ((kk : Int) == 7) = false := by rw [beq_eq_false_iff_ne]; exact hk7
                have h2 : ((kk : Int) == 9) = tl := by rw [← HTL0.out, tells, h1]; rfl
                clear hk7 HTL0 HK3 HT1 HN1 HXI HXL hfl ih HBX HS
                go_wp2_with fail
                go_meet
                case rel => exact ⟨rfl, rfl⟩
            case rest =>
            obtain ⟨h93, hwx⟩ := hcut
            rw [hwx]
            clear hwx
            subst h93
            go_upto_if 93 with fail
            go_cut [11, 12] (fun v11 v12 wx => ∃ (A2 : Option Addr) (C2 : Nat) (L : List Nd) (ok0 : Bool) (t : Tr), v11 = .slice A2 L.length C2 ∧ v12 = .bool ok0 ∧ Hid ((Nd.mk ⟨#[]⟩ A2 C2 L false).In w ∧ (∀ z, z ∈ L → z ∈ r) ∧ L.length ≤ 3000 ∧ CU S (kk : Int) t (.slice none 0 0) [] W3 wx ∧ (ok0 = true → headT n kk (r.map Nd.tn) = some (t.ty, L.map Nd.tn)) ∧ (ok0 = false → headT n kk (r.map Nd.tn) = none)))
            case first =>
              cases tl
              rotate_left
              · have HTL2 : Hid (tells (kk : Int) = true) := HTL0.out
                clear HTL0
                cases r with
                | nil =>
                  have HT : Hid (termT (n + 1) x.tn = none) := by
                    show _ = _
                    rw [HT1.out, List.map_nil, headT_nil _ _ HTL2.out]
                    rfl
                  have HP : Hid (TrPost (termT (n + 1) x.tn) w (.returned (.tuple #[.agg #[.int .i64 (kk : Int), .int .i64 0, .int .i64 0, .slice none 0 0, .int .i64 0, .slice none 0 0, .slice none 0 0], .bool false])) (put7 W3 (w.heap.size + 1) (tleaf (kk : Int) 0))) :=
                    tr_leaf HK3.out (by rw [HT.out]; rfl) (fun i hi => by rw [HT.out] at hi; cases hi)
                  have HKV := HK3
                  clear HT HK3 HT1 HN1 HXI HXL hfl ih HBX HS HTL2 hsl1 g3
                  simp only [List.length_nil] at s3 s5 s6
                  have HGT : Hid _ := put7_gets (x := tleaf (kk : Int) 0) HKV.out.box
                  obtain ⟨c0, c1, c2, c3, c4, c5, c6⟩ := HKV.out.box.at7
                  simp only [Nat.zero_add, tleaf] at c0 c1 c2 c3 c4 c5 c6
                  have f0 := HKV.out.box.fz 0 (by omega)
                  have f1 := HKV.out.box.fz 1 (by omega)
                  have f2 := HKV.out.box.fz 2 (by omega)
                  have f3 := HKV.out.box.fz 3 (by omega)
                  have f4 := HKV.out.box.fz 4 (by omega)
                  have f5 := HKV.out.box.fz 5 (by omega)
                  have f6 := HKV.out.box.fz 6 (by omega)
                  clear HKV
                  go_wp2_with fail
                  refine bodyPost_ret (v := .tuple #[.agg #[.int .i64 (kk : Int), .int .i64 0, .int .i64 0, .slice none 0 0, .int .i64 0, .slice none 0 0, .slice none 0 0], .bool false]) ?_ rfl HP.out
                  obtain ⟨d0, d1, d2, d3, d4, d5, d6⟩ := HGT.out
                  simp only [tleaf, List.length_nil] at d0 d1 d2 d3 d4 d5 d6
                  simp [results, Tryz.results63, go_sem, d0, d1, d2, d3, d4, d5, d6]

                | cons z r2 =>
                  obtain ⟨b1, f1, eA1, z0, z1, z2, hzi⟩ := HN1.out.part 0 (by simp)
                  simp only [List.getElem_cons_zero, Nat.zero_mul, Nat.add_zero] at z0 z1 z2 hzi
                  replace eA1 : A1 = some ⟨b1, f1, none⟩ := eA1
                  subst eA1
                  obtain ⟨A2, C2, hsl2, hin2⟩ := HN1.out.tail
                  have z0' := cell_later HK3.out.low z0
                  have z1' := cell_later HK3.out.low z1
                  have z2' := cell_later HK3.out.low z2
                  have HCK : Hid (Calls Tryz.prog 104 #[.agg #[.string z.w, .slice z.a z.l.length z.c, .bool z.o]] W3 (KdPost (kindT n z.tn) W3)) := kind_any n z W3 (hzi.below HK3.out.low) (hfl.out z (HXL.out z List.mem_cons_self))
                  have HR2 : Hid ((Nd.mk ⟨#[]⟩ A2 C2 r2 false).In w ∧ r2.length ≤ 3000) := ⟨hin2, by have := HXI.out.2.2; simp at this; omega⟩
                  have hr1 : (((r2.length : Nat) : Int) + 1 == 0) = false := by
                    rw [beq_eq_false_iff_ne]
                    omega
                  simp only [List.length_cons] at hsl1 g3 hr0
                  clear z0 z1 z2 hin2 hzi HN1 HXI HXL ih hfl HT1
                  go_wp2_with fail
                  refine HCK.out.mono ?_
                  rintro e w4 ⟨tk, bk, rfl, HKD⟩
                  have HB4 := HBX.out.below HKD.out.2.2.2.2
                  have q2 := HB4.at7.c2
                  have q3 := HB4.at7.c3
                  simp only [Nat.zero_add, tleaf] at q2 q3
                  have qf2 := HB4.fz 2 (by omega)
                  have qf3 := HB4.fz 3 (by omega)
                  have HCU : Hid (CU S (kk : Int) tk (.slice none 0 0) [] W3 ((w4.setCell ⟨S, 2, none⟩ (.int .i64 tk.k)).setCell ⟨S, 3, none⟩ (.slice tk.a tk.l.length tk.c))) := CU.typed HBX.out HKD.out.2.2.2.2 HKD.out.2.2.1 HKD.out.2.2.2.1
                  have HHD : Hid ((bk = true → headT n kk ((z :: r2).map Nd.tn) = some (tk.ty, r2.map Nd.tn)) ∧ (bk = false → headT n kk ((z :: r2).map Nd.tn) = none)) := by
                    have hh := headT_yes n kk z.tn (r2.map Nd.tn) HTL2.out
                    have h1 := HKD.out.1
                    have h2 := HKD.out.2.1
                    rw [List.map_cons, hh]
                    constructor
                    · intro e
                      rw [e] at h1
                      obtain ⟨i, hi⟩ := Option.isSome_iff_exists.1 h1.symm
                      rw [hi, h2 i hi]
                      rfl
                    · intro e
                      rw [e] at h1
                      have hnn : kindT n z.tn = none := by
                        cases h : kindT n z.tn with
                        | none => rfl
                        | some i => rw [h] at h1; cases h1
                      rw [hnn]
                      rfl
                  clear HB4 HKD HCK HTL2 HK3 HBX HS s0 s1 s2 s3 s4 s5 s6 z0' z1' z2'
                  go_wp2_with fail
                  go_meet
                  case rel => exact ⟨A2, C2, r2, bk, tk, rfl, rfl, HR2.out.1, fun q hq => List.mem_cons_of_mem _ hq, HR2.out.2, HCU.out, HHD.out.1, HHD.out.2⟩
              · have htl : ¬ tells (kk : Int) = true := by rw [HTL0.out]; simp
                have HM : Hid ((Nd.mk ⟨#[]⟩ A1 C1 r false).In w ∧ r.length ≤ 3000 ∧ CU S (kk : Int) (leaf 0) (.slice none 0 0) [] W3 W3 ∧ headT n kk (r.map Nd.tn) = some ((leaf 0).ty, r.map Nd.tn)) :=
                  ⟨HN1.out, HXI.out.2.2, CU.start HBX.out, by rw [headT_no _ _ _ htl, leaf_ty]; rfl⟩
                clear HK3 HT1 HN1 HXI HXL hfl ih HBX HS hsl1 g3 htl HTL0
                go_wp2_with fail
                go_meet
                case rel => exact ⟨A1, C1, r, true, leaf 0, rfl, rfl, HM.out.1, fun z hz => hz, HM.out.2.1, HM.out.2.2.1, fun _ => HM.out.2.2.2, fun e => by cases e⟩
            case rest =>
            obtain ⟨A2, C2, L, ok0, t, hv11, hv12, HCT⟩ := hcut
            subst hv11 hv12
            clear hsl1 g3 s0 s1 s2 s3 s4 s5 s6 HN1 HTL0 HBX
            go_upto_region 24 with fail
            go_cut [12] (fun v12 wy => ∃ ok1 : Bool, v12 = .bool ok1 ∧ Hid (CU S (kk : Int) t (.slice none 0 0) [] W3 wy ∧ (ok1 = true ↔ ok0 = true ∧ L.length = partsOf (kk : Int))))
            case first =>
              obtain ⟨a', c', hv', hbx⟩ := HCT.out.2.2.2.1.box
              have u0 : wc.cell? ⟨S, 0, none⟩ = some (.int .i64 (kk : Int)) := by simpa using hbx.at7.c0
              clear hv' hbx
              cases ok0
              · have HM : Hid (CU S (kk : Int) t (.slice none 0 0) [] W3 wc) := HCT.out.2.2.2.1
                clear HCT HT1 HXI HXL hfl ih HK3 HS
                go_wp2_with fail
                go_meet
                case rel => exact ⟨false, rfl, HM.out, ⟨(fun e => by cases e), fun e => (by cases e.1)⟩⟩
              · have HPA : Hid (Calls Tryz.prog 98 #[.int .i64 (kk : Int)] wc fun e w' => e = .returned (.int .i64 (partsOf (kk : Int) : Int)) ∧ Below wc.heap.size wc w') := parts_any (kk : Int) (by
                  obtain rfl | rfl | rfl | rfl | rfl | rfl : kk = 4 ∨ kk = 5 ∨ kk = 6 ∨ kk = 7 ∨ kk = 8 ∨ kk = 9 := by omega
                  all_goals decide) wc
                obtain ⟨P, hP⟩ : ∃ P : Int, (partsOf (kk : Int) : Int) = P := ⟨_, rfl⟩
                obtain ⟨eq, heq⟩ : ∃ eq, (((L.length : Nat) : Int) == P) = eq := ⟨_, rfl⟩
                have HEQ : Hid (eq = true ↔ L.length = partsOf (kk : Int)) := by
                  show _ ↔ _
                  rw [← heq, beq_iff_eq, ← hP]
                  omega
                rw [hP] at HPA
                have HCU1 : Hid (CU S (kk : Int) t (.slice none 0 0) [] W3 wc) := HCT.out.2.2.2.1
                clear HCT HT1 HXI HXL hfl ih HK3 HS hP
                go_wp2_with fail
                refine HPA.out.mono ?_
                rintro e w5 ⟨rfl, hb5⟩
                have HM : Hid (CU S (kk : Int) t (.slice none 0 0) [] W3 w5) := HCU1.out.below hb5
                clear hb5 HCU1 HPA u0
                go_wp2_with fail
                go_meet
                case rel => exact ⟨eq, rfl, HM.out, ⟨fun e => ⟨trivial, HEQ.out.1 e⟩, fun e => HEQ.out.2 e.2⟩⟩
            case rest =>
            obtain ⟨ok1, hv12, HC1⟩ := hcut
            subst hv12
            go_upto_region 25 with fail
            go_wp2_with fail
            go_loopg [12, 119] L.length (fun g v12 i wr => ∃ (q : Nat) (v : Value) (cs : List TT) (ok : Bool), g + q = L.length ∧ i = .int .i64 (q : Int) ∧ v12 = .bool ok ∧ Hid (CU S (kk : Int) t v cs W3 wr ∧ PU n L ok1 q ok cs))
            case atStart => exact ⟨0, _, [], ok1, by omega, rfl, rfl, HC1.out.1, PU.start n L ok1⟩
            case round =>
              obtain ⟨q, v, cs, ok, hq, rfl, rfl, HR⟩ := hrel
              by_cases hlt : q < L.length
              · obtain ⟨b2, f2, eA2, l0, l1, l2, hLi⟩ := HCT.out.1.part q hlt
                replace eA2 : A2 = some ⟨b2, f2, none⟩ := eA2
                subst eA2
                obtain ⟨Z, hZ⟩ : ∃ Z, L[q]'hlt = Z := ⟨_, rfl⟩
                replace l0 : w.cell? ⟨b2, f2 + q * 3, none⟩ = some (.string Z.w) := by rw [← hZ]; exact l0
                replace l1 : w.cell? ⟨b2, f2 + q * 3 + 1, none⟩ = some (.slice Z.a Z.l.length Z.c) := by rw [← hZ]; exact l1
                replace l2 : w.cell? ⟨b2, f2 + q * 3 + 2, none⟩ = some (.bool Z.o) := by rw [← hZ]; exact l2
                replace hLi : Z.In w := by rw [← hZ]; exact hLi
                have hBw : Below w.heap.size w wr := HK3.out.low.trans (HR.out.1.low.mono (by have := HS.out.1; omega))
                replace l0 := cell_later hBw l0
                replace l1 := cell_later hBw l1
                replace l2 := cell_later hBw l2
                obtain ⟨V1, hV1⟩ : ∃ W, W = wr.alloc (.cells #[.string Z.w, .slice Z.a Z.l.length Z.c, .bool Z.o] 111) := ⟨_, rfl⟩
                have hb1 : Below wr.heap.size wr V1 := by rw [hV1]; exact (Below.refl _ _).alloc (Nat.le_refl _) _
                have HB1 : Hid (Below wr.heap.size wr V1) := hb1
                have y0 : V1.cell? ⟨wr.heap.size, 0, none⟩ = some (.string Z.w) := by rw [hV1]; simp
                have y1 : V1.cell? ⟨wr.heap.size, 1, none⟩ = some (.slice Z.a Z.l.length Z.c) := by rw [hV1]; simp
                have y2 : V1.cell? ⟨wr.heap.size, 2, none⟩ = some (.bool Z.o) := by rw [hV1]; simp
                have hbw1 : Below w.heap.size w V1 := hBw.trans (hb1.mono hBw.size)
                have HCI : Hid (Calls Tryz.prog 63 #[.agg #[.string Z.w, .slice Z.a Z.l.length Z.c, .bool Z.o]] V1 (TrPost (termT n Z.tn) V1)) := ih.out Z V1 (HXL.out Z (HCT.out.2.1 Z (by rw [← hZ]; exact List.getElem_mem hlt))) (hLi.below hbw1) (HXI.out.2.1.below hbw1)
                have HZP : Hid (L[q]'hlt = Z) := hZ
                have k1 : (q : Int) < ((L.length : Nat) : Int) := by omega
                have k2 : (0 : Int) ≤ (q : Int) := by omega
                have k3 : IntKind.i64.wrap ((q : Int) + 1) = (q : Int) + 1 := by
                  have := HCT.out.2.2.1
                  rw [IntKind.wrap_i64]
                  omega
                have hcl : cs.length ≤ 3000 := by have := HR.out.2.len; have := HCT.out.2.2.1; omega
                clear hBw hb1 hbw1 hLi hZ HXL HXI ih hfl HK3 HT1
                go_upto_region 28 with fail
                rw [← hV1]
                clear hV1 l0 l1 l2
                go_wp2_with fail
                refine HCI.out.mono ?_
                rintro e w5 ⟨zt, is, rfl, HZ⟩
                clear HCI y0 y1 y2
                obtain ⟨V2, hV2⟩ : ∃ W, W = w5.alloc (.cells #[.int .i64 zt.k, .int .i64 zt.n, .int .i64 zt.t.k, .slice zt.t.a zt.t.l.length zt.t.c, .int .i64 zt.f.k, .slice zt.f.a zt.f.l.length zt.f.c, .slice zt.a zt.l.length zt.c] 27) := ⟨_, rfl⟩
                have hb52 : Below w5.heap.size w5 V2 := by rw [hV2]; exact (Below.refl _ _).alloc (Nat.le_refl _) _
                have hb12 : Below V1.heap.size V1 V2 := HZ.out.2.2.2.2.trans (hb52.mono HZ.out.2.2.2.2.size)
                have hz7 : At7 V2 w5.heap.size 0 zt := by rw [hV2]; exact At7.new w5 zt
                have HZ2 : Hid (zt.In V2 ∧ zt.Bl (V1.heap.size ≤ ·) ∧ Below V1.heap.size V1 V2 ∧ is = (termT n Z.tn).isSome ∧ (∀ i, termT n Z.tn = some i → zt.tm = i)) := ⟨HZ.out.2.2.1.below hb52, HZ.out.2.2.2.1, hb12, HZ.out.1, HZ.out.2.1⟩
                have HCU2 : Hid (CU S (kk : Int) t v cs W3 V2) := (HR.out.1.below HB1.out).below hb12
                have HZ7 : Hid (At7 V2 w5.heap.size 0 zt) := hz7
                clear hb52 hb12 hz7 HZ
                go_upto_region 29 with fail
                rw [← hV2]
                clear hV2
                go_cut [12] (fun v12 wz => v12 = .bool (ok && is) ∧ wz = V2)
                case first =>
                  clear HCU2 HZ2 HZ7 HR HCT HS HC1 HZP HB1
                  cases ok
                  · go_wp2_with fail
                    go_meet
                    case rel => exact ⟨rfl, rfl⟩
                  · go_wp2_with fail
                    go_meet
                    case rel => exact ⟨rfl, rfl⟩
                case rest =>
                obtain ⟨hv12, hwz⟩ := hcut
                subst hv12
                rw [hwz]
                clear hwz
                obtain ⟨a0, c0, hv0, hbx⟩ := HCU2.out.box
                have q6 : V2.cell? ⟨S, 6, none⟩ = some v := by rw [hv0]; simpa using hbx.at7.c6
                have qf : V2.frozen? ⟨S, 6, none⟩ = false := hbx.fz 6 (by omega)
                obtain ⟨z0, z1, z2, z3, z4, z5, z6⟩ := HZ7.out.all
                have uo : (V2.alloc (.cells #[.int .i64 zt.k, .int .i64 zt.n, .int .i64 zt.t.k, .slice zt.t.a zt.t.l.length zt.t.c, .int .i64 zt.f.k, .slice zt.f.a zt.f.l.length zt.f.c, .slice zt.a zt.l.length zt.c] 27)).ownsRow (S + 1) 27 7 v cs.length (cells7 cs) := ownsRow_below HCU2.out.row.own ((Below.refl _ _).alloc (Nat.le_refl _) _)
                have hnew := heap_alloc_new V2 (.cells #[.int .i64 zt.k, .int .i64 zt.n, .int .i64 zt.t.k, .slice zt.t.a zt.t.l.length zt.t.c, .int .i64 zt.f.k, .slice zt.f.a zt.f.l.length zt.f.c, .slice zt.a zt.l.length zt.c] 27)
                have hnv : v.ownBlock ≠ some S := fun e => by have := (HCU2.out.row.lt _ e).1; omega
                have us : S < V2.heap.size := hbx.lt
                have un : S ≠ V2.heap.size := Nat.ne_of_lt us
                clear hv0 hbx
                obtain ⟨okn, hokn⟩ : ∃ b, (ok && is) = b := ⟨_, rfl⟩
                rw [hokn]
                go_wp2_with (at_builtin; refine wpList_append_lies _ rfl _ _ _ rfl (S + 1) 27 i0 _ 7 104 Tryz.underlying25 hi0 hz0 hz1 hz2 rfl (by omega) v cs.length (cells7 cs) rfl uo ⟨V2.heap.size, 0, none⟩ 1 1 [.int .i64 zt.k, .int .i64 zt.n, .int .i64 zt.t.k, .slice zt.t.a zt.t.l.length zt.t.c, .int .i64 zt.f.k, .slice zt.f.a zt.f.l.length zt.f.c, .slice zt.a zt.l.length zt.c] rfl rfl (World.news_of_block (cs := #[.int .i64 zt.k, .int .i64 zt.n, .int .i64 zt.t.k, .slice zt.t.a zt.t.l.length zt.t.c, .int .i64 zt.f.k, .slice zt.f.a zt.f.l.length zt.f.c, .slice zt.a zt.l.length zt.c]) (t := 27) (fr := (0, 0)) hnew) (by simp [Value.oneCell']) (by omega) (by unfold maxLen; omega) (by omega) (by simp; omega) (V2.heap.size + 1) (by simp) ?_; intro gg cap1 w6 hown1 hgrow hat hlt6; have hcr : w6.cell? ⟨S, 6, none⟩ = some v := (by rw [hgrow.cell_far _ (by simp; omega) (Ne.symm hnv)]; exact cell_later ((Below.refl _ _).alloc (Nat.le_refl _) _) q6); have hfr : w6.frozen? ⟨S, 6, none⟩ = false := (by rw [hgrow.frozen_far _ (by simp; omega) (Ne.symm hnv)]; exact (((Below.refl _ _).alloc (Nat.le_refl _) _).frozen (p := ⟨S, 6, none⟩) us).trans qf))
                have HN : Hid (CU S (kk : Int) t (.slice (some ⟨gg, 0, none⟩) (cs.length + 1) cap1) (cs ++ [zt]) W3 (w6.setCell ⟨S, 6, none⟩ (.slice (some ⟨gg, 0, none⟩) (cs.length + 1) cap1)) ∧ PU n L ok1 (q + 1) okn (cs ++ [zt])) := by
                  refine ⟨HR.out.1.step HB1.out HZ2.out.1 HZ2.out.2.1 HZ2.out.2.2.1 hown1 hgrow hat, ?_⟩
                  rw [← hokn]
                  exact HR.out.2.step hlt (by rw [HZP.out]; exact HZ2.out.2.2.2.1) (fun v hv => HZ2.out.2.2.2.2 v (by rw [← HZP.out]; exact hv))
                clear hown1 hgrow hat hlt6 HR HCU2 HZ2 HZ7 hokn hnew uo HZP HB1
                go_wp2_with fail
                go_roundg (gk - 1)
                case measure => omega
                case rel => exact ⟨q + 1, _, _, okn, by omega, by simp, rfl, HN⟩
              · have hqe : q = L.length := by omega
                have k1 : ¬ (q : Int) < ((L.length : Nat) : Int) := by omega
                obtain ⟨a, c, hv, hbx⟩ := HR.out.1.box
                obtain ⟨a', c', hv', htree⟩ := HR.out.1.row.tree
                rw [hv] at hv'
                obtain ⟨rfl, rfl⟩ : a = a' ∧ c = c' := by cases hv'; exact ⟨rfl, rfl⟩
                have hti := htree (kk : Int) 0 t (leaf 0) HR.out.1.tin.1 (leaf_in 0 _)
                have hbl := hti.2 (fun b => S + 1 ≤ b) (fun b hb => hb) (HR.out.1.tin.2.mono fun b hb => hb.1) (leaf_bl 0 _)
                have HKV : Hid (TBt x w wr) := HK3.out.belowS HS.out.1 HR.out.1.low
                have HP : Hid (TrPost (termT (n + 1) x.tn) w (.returned (.tuple #[.agg #[.int .i64 (kk : Int), .int .i64 0, .int .i64 t.k, .slice t.a t.l.length t.c, .int .i64 0, .slice none 0 0, .slice a cs.length c], .bool ok])) (put7 wr (w.heap.size + 1) (TT.mk (kk : Int) 0 t (leaf 0) a c cs))) := by
                  have hPU := HR.out.2
                  rw [hqe] at hPU
                  obtain ⟨p1, p2⟩ := hPU.end
                  refine tr_end (t := TT.mk (kk : Int) 0 t (leaf 0) a c cs) HKV.out ?_ (fun i hi => ?_) hti.1 (hbl.mono fun b hb => by have := HS.out.1; omega)
                  · cases hok : ok
                    · rw [HT1.out]
                      cases ho0 : ok0
                      · rw [HCT.out.2.2.2.2.2 ho0]; rfl
                      · rw [HCT.out.2.2.2.2.1 ho0, Option.bind_some]
                        simp only
                        by_cases hp : (L.map Nd.tn).length = partsOf (kk : Int)
                        · rw [if_pos hp]
                          rcases p2 hok with h | h
                          · exfalso
                            have := HC1.out.2.2 ⟨ho0, by simpa using hp⟩
                            rw [h] at this
                            cases this
                          · rw [h]; rfl
                        · rw [if_neg hp]; rfl
                    · obtain ⟨h1, h2⟩ := p1 hok
                      obtain ⟨h3, h4⟩ := HC1.out.2.1 h1
                      rw [HT1.out, HCT.out.2.2.2.2.1 h3, Option.bind_some]
                      simp only
                      rw [if_pos (by simpa using h4), h2]
                      rfl
                  · cases hok : ok
                    · exfalso
                      rw [HT1.out] at hi
                      cases ho0 : ok0
                      · rw [HCT.out.2.2.2.2.2 ho0] at hi; cases hi
                      · rw [HCT.out.2.2.2.2.1 ho0, Option.bind_some] at hi
                        simp only at hi
                        by_cases hp : (L.map Nd.tn).length = partsOf (kk : Int)
                        · rw [if_pos hp] at hi
                          rcases p2 hok with h | h
                          · have := HC1.out.2.2 ⟨ho0, by simpa using hp⟩
                            rw [h] at this
                            cases this
                          · rw [h] at hi; cases hi
                        · rw [if_neg hp] at hi; cases hi
                    · obtain ⟨h1, h2⟩ := p1 hok
                      obtain ⟨h3, h4⟩ := HC1.out.2.1 h1
                      rw [HT1.out, HCT.out.2.2.2.2.1 h3, Option.bind_some] at hi
                      simp only at hi
                      rw [if_pos (by simpa using h4), h2] at hi
                      rw [← Option.some.inj hi, TT.tm_mk, leaf_ty]
                      rfl
                have HGT : Hid _ := put7_gets (x := TT.mk (kk : Int) 0 t (leaf 0) a c cs) HKV.out.box
                obtain ⟨c0, c1, c2, c3, c4, c5, c6⟩ := HKV.out.box.at7
                simp only [Nat.zero_add, tleaf] at c0 c1 c2 c3 c4 c5 c6
                have f0 := HKV.out.box.fz 0 (by omega)
                have f1 := HKV.out.box.fz 1 (by omega)
                have f2 := HKV.out.box.fz 2 (by omega)
                have f3 := HKV.out.box.fz 3 (by omega)
                have f4 := HKV.out.box.fz 4 (by omega)
                have f5 := HKV.out.box.fz 5 (by omega)
                have f6 := HKV.out.box.fz 6 (by omega)
                obtain ⟨s0, s1, s2, s3, s4, s5, s6⟩ := hbx.at7
                simp only [Nat.zero_add, leaf, List.length_nil] at s0 s1 s2 s3 s4 s5 s6
                clear HKV HR HCT HC1 HK3 HS HT1 hbx hti hbl htree hv hv' HXL HXI hfl ih hqe
                go_wp2_with fail
                refine bodyPost_ret (v := .tuple #[.agg #[.int .i64 (kk : Int), .int .i64 0, .int .i64 t.k, .slice t.a t.l.length t.c, .int .i64 0, .slice none 0 0, .slice a cs.length c], .bool ok]) ?_ rfl HP.out
                obtain ⟨d0, d1, d2, d3, d4, d5, d6⟩ := HGT.out
                simp only [leaf, List.length_nil] at d0 d1 d2 d3 d4 d5 d6
                simp [results, Tryz.results63, go_sem, d0, d1, d2, d3, d4, d5, d6]

        · have hj66 : ¬ j < 6 := hj6
          have hj0 : j = 6 := by omega
          have i1 : ¬ (j : Int) < 6 := by omega
          have HT : Hid (termT (n + 1) x.tn = none) := by
            show _ = _
            rw [HT0.out, kindAt, atWord_none y.w kindWs 4 fun z hz => by
              obtain ⟨q, hq, rfl⟩ := List.getElem_of_mem hz
              have hq6 : q < 6 := hq
              exact HJ.out q hq (by omega)]
            rfl
          clear HT0 HKW HTL HXI HXL hfl ih HJ hj
          have HP : Hid (TrPost (termT (n + 1) x.tn) w (.returned (.tuple #[.agg #[.int .i64 0, .int .i64 0, .int .i64 0, .slice none 0 0, .int .i64 0, .slice none 0 0, .slice none 0 0], .bool false])) (put7 wr (w.heap.size + 1) (tleaf 0 0))) :=
            tr_leaf HK2.out (by rw [HT.out]; rfl) (fun i hi => by rw [HT.out] at hi; cases hi)
          have HKV := HK2
          clear HK2 HT
          have HGT : Hid _ := put7_gets (x := tleaf 0 0) HKV.out.box
          obtain ⟨c0, c1, c2, c3, c4, c5, c6⟩ := HKV.out.box.at7
          simp only [Nat.zero_add, tleaf] at c0 c1 c2 c3 c4 c5 c6
          have f0 := HKV.out.box.fz 0 (by omega)
          have f1 := HKV.out.box.fz 1 (by omega)
          have f2 := HKV.out.box.fz 2 (by omega)
          have f3 := HKV.out.box.fz 3 (by omega)
          have f4 := HKV.out.box.fz 4 (by omega)
          have f5 := HKV.out.box.fz 5 (by omega)
          have f6 := HKV.out.box.fz 6 (by omega)
          clear HKV
          go_wp2_with fail
          refine bodyPost_ret (v := .tuple #[.agg #[.int .i64 0, .int .i64 0, .int .i64 0, .slice none 0 0, .int .i64 0, .slice none 0 0, .slice none 0 0], .bool false]) ?_ rfl HP.out
          obtain ⟨d0, d1, d2, d3, d4, d5, d6⟩ := HGT.out
          simp only [tleaf, List.length_nil] at d0 d1 d2 d3 d4 d5 d6
          simp [results, Tryz.results63, go_sem, d0, d1, d2, d3, d4, d5, d6]
theorem term_any : ∀ (n : Nat) (x : Nd) (w : World), x.In w → Ta w → x.tn.nice → x.tn.flat.length ≤ n → (∀ y, y ∈ x.tn.flat → y.length ≤ 2000) → n ≤ 3000 → Calls Tryz.prog 63 #[.agg #[.string x.w, .slice x.a x.l.length x.c, .bool x.o]] w (TrPost (termT n x.tn) w)
  | 0, x, w, _, _, _, h, _, _ => by have := flat_pos x.tn; omega
  | n + 1, x, w, hx, ht, hn, h, hf, h3000 => by
    by_cases ho : x.o = true
    · have hfo := flat_of x.tn (by rw [Nd.tn_o]; exact ho)
      rw [hfo] at h hf
      simp only [List.length_cons, List.length_append, List.length_nil] at h
      have hmem : ∀ y, y ∈ x.l → y.tn ∈ x.tn.l := fun y hy => by rw [Nd.tn_l]; exact List.mem_map.2 ⟨y, hy, rfl⟩
      have hlen : ∀ y, y ∈ x.l → y.tn.flat.length ≤ n := fun y hy => by
        have := flatL_len_mem (hmem y hy)
        omega
      have hcount : x.l.length ≤ (flatL x.tn.l).length := by
        rw [Nd.tn_l]
        exact count_flat _
      refine term_open n x w hx ho ht (by omega) hlen fun y W hy hW hT => term_any n y W hW hT ?_ (hlen y hy) ?_ (by omega)
      · exact nice_mem hn (hmem y hy)
      · intro z hz
        refine hf z (List.mem_cons_of_mem _ (List.mem_append_left _ ?_))
        exact flat_sub (hmem y hy) hz
    · have hof : x.o = false := by simpa using ho
      have hw := nice_w hn (by rw [Nd.tn_o]; exact hof)
      rw [Nd.tn_w] at hw
      refine term_word n x w hof hw.1 ?_
      have := hf x.w.data.toList (by
        have e := flat_wordOf x.tn (by rw [Nd.tn_o]; exact hof)
        rw [e, Nd.tn_w]
        exact List.mem_singleton.2 rfl)
      rw [Array.length_toList] at this
      exact this
end Go.Proofs.YtnddkmccagiclabGreatDoor
