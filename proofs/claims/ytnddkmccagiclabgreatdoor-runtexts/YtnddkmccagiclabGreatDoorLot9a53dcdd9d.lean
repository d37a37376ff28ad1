/-
  The good term that a text tells, by trees of words: the same that the words tell, read one behind the other; the plain mathematics.
-/
import Derived.Test.YtnddkmccagiclabGreatDoorLot75cb470804
import Derived.Test.YtnddkmccagiclabGreatDoorLot1dd949ab90
import Derived.Test.YtnddkmccagiclabGreatDoorLoted756f28d3
import Derived.Test.YtnddkmccagiclabGreatDoorLota031f7686a
import Derived.Test.YtnddkmccagiclabGreatDoorLot2c1b367ec8
import Derived.IntWalk
import Derived.Test.YtnddkmccagiclabGreatDoorLotce0b944de3
import Derived.Test.YtnddkmccagiclabGreatDoorRows
import Derived.Test.YtnddkmccagiclabGreatDoorLotfef4768764
import Derived.ProofKit
import Derived.Deep.Slices
import Derived.Test.YtnddkmccagiclabGreatDoorLot59e900709f
import Derived.OpenShut
import Derived.Lib.LaidTab
import Derived.Test.YtnddkmccagiclabGreatDoorLot2ebbd2cd4c
import Derived.Test.YtnddkmccagiclabGreatDoorLotffd82e37e5
import Derived.Stop.LaidErr
import Derived.LaidLaws
namespace Go.Proofs.YtnddkmccagiclabGreatDoor
/-- The trees of a text. -/
def treesR (s : List UInt8) (wi : Bool) : Option (List Tn × List UInt8) := treesS (2 * s.length + 3) s wi
def termR (x : Tn) : Option Tm := termT x.flat.length x
/-- The good term of a text, by its trees. -/
def parseR (s : List UInt8) : Option Tm :=
  match treesR s false with
  | some ([x], _) => (termR x).bind fun t => if goodM 0 t = true then some t else none
  | _ => none
theorem small_ok : ∀ (x : Tm) (ins : Nat), okTm x ins → ins + x.sz ≤ 1000 → smallM x := by
  intro x
  induction x using Tm.ind with
  | h k n t f l ih =>
    intro ins h hs
    obtain ⟨h1, h2⟩ := okTm_mk.1 h
    rw [Tm.sz_mk] at hs
    refine smallM_mk.2 ⟨?_, fun y hy => ih y hy _ (h2 y hy) ?_⟩
    · simp only [okTop, okNum, Bool.and_eq_true] at h1
      have hn := h1.2.2
      split at hn
      · simp only [Bool.and_eq_true, decide_eq_true_eq] at hn
        omega
      · split at hn
        · simp only [Bool.and_eq_true, decide_eq_true_eq] at hn
          omega
        · split at hn
          · simp only [Bool.or_eq_true, beq_iff_eq] at hn
            omega
          · simp only [beq_iff_eq] at hn
            omega
    · have e : y.sz ≤ (l.map Tm.sz).sum := sz_mem l y hy
      split <;> omega
theorem words_flat (s : List UInt8) : wordsOf s = flatB (tokW [] s) := rfl
/-- Both ways to read come to the same. -/
theorem parse_same (s : List UInt8) : parseR s = parseS s := by
  have hk : ∀ x, x ∈ tokW [] s → KindW x := tok_kinds s [] (fun _ h => by cases h)
  have htl := tok_len s []
  have key : ∀ t, parseR s = some t ↔ parseS s = some t := by
    intro t
    constructor
    · intro h
      rw [parseR] at h
      split at h
      · rename_i x r hx
        obtain ⟨u, hu, h⟩ := Option.bind_eq_some_iff.1 h
        split at h
        · rename_i hg
          obtain rfl := Option.some.inj h
          have h1 := trees_tok (2 * s.length + 3) s false
          rw [treesR] at hx
          rw [hx] at h1
          obtain ⟨a1, a2, a3⟩ := treesT_back _ _ _ _ _ hk h1.symm
          simp only [Bool.false_eq_true, if_false, List.append_nil, flatL_cons, flatL_nil] at a2
          have h2 := term_read _ x u (a1 x (by simp)) hu ((tokW [] s).length + 1) [] (by rw [a2]; omega)
          rw [List.append_nil, ← a2, ← words_flat] at h2
          have hl : (wordsOf s).length = (tokW [] s).length := by rw [words_flat, flatB, List.length_map]
          rw [parseS, hl, h2]
          simp only
          rw [if_pos hg]
        · cases h
      · cases h
    · intro h
      have hl : (wordsOf s).length = (tokW [] s).length := by rw [words_flat, flatB, List.length_map]
      rw [parseS] at h
      split at h
      · rename_i u hu
        split at h
        · rename_i hg
          obtain rfl := Option.some.inj h
          obtain ⟨g1, g2⟩ := goodM_ok hg
          rw [words_flat] at hu
          obtain ⟨x, ws', hx, e, e', ht⟩ := read_term _ _ u [] hk hu (small_ok u 0 g1 (by omega))
          obtain rfl : ws' = [] := by
            cases ws' with
            | nil => rfl
            | cons a b => cases e'
          rw [List.append_nil] at e
          have hxs : ∀ y, y ∈ [x] → y.nice := fun y hy => by
            rw [List.mem_singleton.1 hy]
            exact hx
          have h1 := treesT_flat _ [x] [] false 1 ([], []) (Nat.le_refl _) hxs (by simp [treesT])
          simp only [flatL_cons, flatL_nil, List.append_nil] at h1
          have h2 := treesT_more _ (2 * s.length + 3) _ _ _ (by rw [← e]; omega) h1
          rw [← e, ← trees_tok] at h2
          obtain ⟨p, hp, he⟩ := Option.map_eq_some_iff.1 h2
          obtain ⟨p1, p2⟩ := p
          obtain ⟨rfl, _⟩ := Prod.mk.inj he
          rw [parseR, treesR, hp]
          have h3 : termR x = some u := by
            rw [termR, ← ht]
            refine termT_more _ _ _ (Nat.le_refl _) ?_
            have : (flatB (tokW [] s)).length = (tokW [] s).length := by rw [flatB, List.length_map]
            rw [this, e]
            omega
          simp only
          rw [h3, Option.bind_some, if_pos hg]
        · cases h
      · cases h
  cases hr : parseR s with
  | some t => exact ((key t).1 hr).symm
  | none =>
    cases hs : parseS s with
    | none => rfl
    | some t => rw [(key t).2 hs] at hr; cases hr
end Go.Proofs.YtnddkmccagiclabGreatDoor

/-
  How great the type of a term is at most; no program in it.
-/
namespace Go.Proofs.YtnddkmccagiclabGreatDoor
def Ty.sz : Ty → Nat
  | ⟨_, l⟩ => (l.map fun t => t.sz).sum + 1
theorem Ty.sz_mk (k : Int) (l : List Ty) : (Ty.mk k l).sz = (l.map Ty.sz).sum + 1 := by
  rw [Ty.sz]
theorem Tr.sz_ty (t : Tr) : t.sz = t.ty.sz := by
  induction t using Tr.ind with
  | h k a c l ih =>
    rw [Tr.ty_mk, Tr.sz_mk, Ty.sz_mk, List.map_map]
    have : l.map Tr.sz = l.map (Ty.sz ∘ Tr.ty) := List.map_congr_left fun x hx => ih x hx
    rw [this]
theorem goodY_sz : ∀ (n : Nat) (t : Ty), goodY n t = true → t.sz + 1 ≤ 2 ^ n
  | 0, t, h => by simp [goodY] at h
  | n + 1, t, h => by
    have hp : 1 ≤ 2 ^ n := Nat.one_le_two_pow
    rw [Nat.pow_succ]
    rcases goodY_cases h with ⟨k, rfl, _⟩ | ⟨x, y, rfl, hx, hy⟩
    · rw [Ty.sz_mk]; simp; omega
    · have h1 := goodY_sz n x hx
      have h2 := goodY_sz n y hy
      rw [Ty.sz_mk]
      simp only [List.map_cons, List.map_nil, List.sum_cons, List.sum_nil]; omega
end Go.Proofs.YtnddkmccagiclabGreatDoor

/-
  Of a text's trees and of the terms that trees tell: how large they are; plain.
-/
namespace Go.Proofs.YtnddkmccagiclabGreatDoor
theorem flat_ofA (t : Tn) (h : t.o = true) : t.flat = [40] :: (flatL t.l ++ [[41]]) := by
  obtain ⟨w, l, o⟩ := t
  obtain rfl : o = true := h
  exact flat_open w l
theorem kindT_sz : ∀ (n : Nat) (x : Tn) (t : Ty), kindT n x = some t → t.sz ≤ x.flat.length
  | 0, _, _, h => by simp [kindT] at h
  | n + 1, x, t, h => by
    rw [kindT] at h
    by_cases ho : x.o = false
    · rw [if_pos ho] at h
      obtain ⟨k, _, rfl⟩ := Option.map_eq_some_iff.1 h
      have := flat_pos x
      rw [Ty.sz_mk]
      simpa using this
    · rw [if_neg ho] at h
      split at h
      · rename_i a b c hl
        split at h
        · obtain ⟨p, hp, h⟩ := Option.bind_eq_some_iff.1 h
          obtain ⟨q, hq, rfl⟩ := Option.map_eq_some_iff.1 h
          have h1 := kindT_sz n b p hp
          have h2 := kindT_sz n c q hq
          rw [flat_ofA x (by simpa using ho), hl]
          simp only [flatL_cons, flatL_nil, List.append_nil, List.length_cons, List.length_append, List.length_nil]
          rw [Ty.sz_mk]
          simp only [List.map_cons, List.map_nil, List.sum_cons, List.sum_nil]
          omega
        · cases h
      · cases h
/-- Kinds and numbers are whole numbers of 64 bits, types and lists are small. -/
def okM (m : Nat) : Tm → Prop
  | ⟨k, n, t, f, l⟩ => ((Lit.int .i64 k).wf = true ∧ (Lit.int .i64 n).wf = true ∧ t.sz ≤ m ∧ f.sz ≤ m ∧ l.length ≤ m) ∧ ∀ y, y ∈ l → okM m y
theorem okM_mk {m : Nat} {k n : Int} {t f : Ty} {l : List Tm} : okM m ⟨k, n, t, f, l⟩ ↔ ((Lit.int .i64 k).wf = true ∧ (Lit.int .i64 n).wf = true ∧ t.sz ≤ m ∧ f.sz ≤ m ∧ l.length ≤ m) ∧ ∀ y, y ∈ l → okM m y := by
  rw [okM]
theorem ok_tm {m : Nat} (x : TT) : okM m x.tm → x.ok m := by
  induction x using TT.ind with
  | h k n t f a c l ih =>
    intro h
    rw [TT.tm_mk] at h
    obtain ⟨⟨h1, h2, h3, h4, h5⟩, h6⟩ := okM_mk.1 h
    exact TT.ok_mk.2 ⟨⟨h1, h2, by rw [Tr.sz_ty]; exact h3, by rw [Tr.sz_ty]; exact h4, by simpa using h5⟩, fun y hy => ih y hy (h6 _ (List.mem_map.2 ⟨y, hy, rfl⟩))⟩
theorem wf_small (v : Int) (h : -9999999 ≤ v ∧ v ≤ 9999999) : (Lit.int .i64 v).wf = true := by
  have h1 : IntKind.i64.min = -9223372036854775808 := by decide
  have h2 : IntKind.i64.max = 9223372036854775807 := by decide
  simp [Lit.wf, h1, h2]
  omega
theorem wordT_ok {w : List UInt8} {i : Tm} (h : wordT w = some i) : okM 3000 i ∧ i.sz = 1 := by
  have leafok : ∀ k n : Int, (-9999999 ≤ k ∧ k ≤ 9999999) → (-9999999 ≤ n ∧ n ≤ 9999999) → okM 3000 ⟨k, n, anyY, anyY, []⟩ ∧ (Tm.mk k n anyY anyY []).sz = 1 := fun k n hk hn =>
    ⟨okM_mk.2 ⟨⟨wf_small k hk, wf_small n hn, by rw [anyY, Ty.sz_mk]; simp, by rw [anyY, Ty.sz_mk]; simp, by simp⟩, fun y hy => by cases hy⟩, by rw [Tm.sz_mk]; simp⟩
  cases ha : atWord (bw w) truthWs 0 with
  | some b =>
    rw [wordT_truth w b ha] at h
    obtain rfl := Option.some.inj h
    have hb : b ≤ 1 := by
      simp only [truthWs, atWord] at ha
      split at ha
      · have := Option.some.inj ha; omega
      · split at ha
        · have := Option.some.inj ha; omega
        · cases ha
    exact leafok 3 b (by omega) (by omega)
  | none =>
    rcases hash_or w with ⟨d, rfl⟩ | hw
    · rw [wordT_hash d ha] at h
      obtain ⟨n, hn, rfl⟩ := Option.map_eq_some_iff.1 h
      exact leafok 1 n (by omega) (numT_of hn).2
    · rw [wordT_num w ha hw] at h
      obtain ⟨n, hn, rfl⟩ := Option.map_eq_some_iff.1 h
      exact leafok 2 n (by omega) (numT_of hn).2
theorem allO_facts {f : Tn → Option Tm} {Q : Tn → Tm → Prop} (hf : ∀ x t, f x = some t → Q x t) : ∀ (l : List Tn) (ts : List Tm), (∀ x, x ∈ l → True) → allO f l = some ts → ts.length = l.length ∧ ∀ i (h : i < l.length) (h' : i < ts.length), Q l[i] ts[i]
  | [], ts, _, h => by
    obtain rfl := Option.some.inj h
    exact ⟨rfl, fun i h => by cases h⟩
  | x :: l, ts, _, h => by
    rw [allO] at h
    obtain ⟨t, ht, h⟩ := Option.bind_eq_some_iff.1 h
    obtain ⟨us, hu, rfl⟩ := Option.map_eq_some_iff.1 h
    obtain ⟨h1, h2⟩ := allO_facts hf l us (fun _ _ => trivial) hu
    refine ⟨by simp [h1], fun i hi hi' => ?_⟩
    cases i with
    | zero => exact hf x t ht
    | succ i => exact h2 i (by simpa using hi) (by simpa using hi')
theorem sum_flat : ∀ (l : List Tn) (ts : List Tm), ts.length = l.length → (∀ i (h : i < l.length) (h' : i < ts.length), ts[i].sz ≤ l[i].flat.length) → (ts.map Tm.sz).sum ≤ (flatL l).length
  | [], [], _, _ => by simp [flatL]
  | [], t :: ts, h, _ => by simp at h
  | x :: l, [], h, _ => by simp at h
  | x :: l, t :: ts, hl, h => by
    have h0 := h 0 (by simp) (by simp)
    have h1 := sum_flat l ts (by simpa using hl) fun i a b => by
      have := h (i + 1) (by simpa using a) (by simpa using b)
      simpa using this
    simp only [List.getElem_cons_zero] at h0
    rw [flatL_cons, List.length_append, List.map_cons, List.sum_cons]
    omega
theorem partsOf_le (k : Int) : partsOf k ≤ 3 := by
  unfold partsOf
  split
  · omega
  · split
    · omega
    · split <;> omega
theorem kindAt_le {x : ByteArray} {k : Nat} (h : kindAt x = some k) : k ≤ 9 := by
  simp only [kindAt, kindWs, atWord] at h
  repeat' split at h
  all_goals first | (have := Option.some.inj h; omega) | cases h
theorem termT_ok : ∀ (n : Nat) (x : Tn) (i : Tm), termT n x = some i → x.flat.length ≤ 3000 → okM 3000 i ∧ i.sz ≤ x.flat.length
  | 0, _, _, h, _ => by simp [termT] at h
  | n + 1, x, i, h, hl => by
    rw [termT] at h
    by_cases ho : x.o = false
    · rw [if_pos ho] at h
      have := wordT_ok h
      have hp := flat_pos x
      exact ⟨this.1, by omega⟩
    · rw [if_neg ho] at h
      have hfo := flat_ofA x (by simpa using ho)
      split at h
      · cases h
      · rename_i y r hxl
        split at h
        · cases h
        · obtain ⟨k, hk, h⟩ := Option.bind_eq_some_iff.1 h
          obtain ⟨p, hp, h⟩ := Option.bind_eq_some_iff.1 h
          split at h
          · rename_i hlen
            obtain ⟨ts, hts, rfl⟩ := Option.map_eq_some_iff.1 h
            rw [hxl, flatL_cons] at hfo
            have hlf : x.flat.length = y.flat.length + (flatL r).length + 2 := by rw [hfo]; simp; omega
            have hpos := flat_pos y
            have hP : p.1.sz ≤ 3000 ∧ (flatL p.2).length ≤ (flatL r).length ∧ ∀ z, z ∈ p.2 → z.flat.length ≤ (flatL r).length := by
              by_cases ht : tells (k : Int) = true
              · cases r with
                | nil => rw [headT_nil _ _ ht] at hp; cases hp
                | cons z r =>
                  rw [headT_yes _ _ _ _ ht] at hp
                  obtain ⟨q, hq, rfl⟩ := Option.map_eq_some_iff.1 hp
                  have := kindT_sz n z q hq
                  rw [flatL_cons, List.length_append] at hlf ⊢
                  refine ⟨by show q.sz ≤ 3000; omega, by show (flatL r).length ≤ _; omega, fun u hu => ?_⟩
                  have h9 : u.flat.length ≤ (flatL r).length := flatL_len_mem hu
                  omega
              · rw [headT_no _ _ _ ht] at hp
                obtain rfl := Option.some.inj hp
                exact ⟨by show anyY.sz ≤ 3000; rw [anyY, Ty.sz_mk]; simp, Nat.le_refl _, fun u hu => flatL_len_mem hu⟩
            obtain ⟨h1, h2⟩ := allO_facts (f := fun z => if z.flat.length ≤ 3000 then termT n z else none) (Q := fun z t => okM 3000 t ∧ t.sz ≤ z.flat.length) (fun z t hz => by
              split at hz
              · exact termT_ok n z t hz (by assumption)
              · cases hz) p.2 ts (fun _ _ => trivial) (by
              rw [← hts]
              refine allO_congr p.2 fun z hz => ?_
              have := hP.2.2 z hz
              rw [if_pos (by omega)])
            have h3 := partsOf_le (k : Int)
            have h4 := kindAt_le hk
            refine ⟨okM_mk.2 ⟨⟨wf_small _ (by omega), wf_small _ (by omega), hP.1, by rw [anyY, Ty.sz_mk]; simp, by omega⟩, fun t ht => ?_⟩, ?_⟩
            · obtain ⟨q, hq, rfl⟩ := List.getElem_of_mem ht
              exact (h2 q (by omega) hq).1
            · rw [Tm.sz_mk]
              have := sum_flat p.2 ts h1 fun q a b => (h2 q a b).2
              omega
          · cases h
theorem flat_subA {x : Tn} {z : List UInt8} : ∀ {l : List Tn}, x ∈ l → z ∈ x.flat → z ∈ flatL l
  | y :: l, h, hz => by
    rw [flatL_cons]
    rcases List.mem_cons.1 h with rfl | h
    · exact List.mem_append_left _ hz
    · exact List.mem_append_right _ (flat_subA h hz)
/-- The trees of a short text. -/
theorem TR_facts {s : List UInt8} {l : List Tn} {r : List UInt8} (h : TR s false = some (l, r)) (hs : s.length ≤ 1000) : ∀ x, x ∈ l → x.nice ∧ x.flat.length ≤ 3000 ∧ ∀ y, y ∈ x.flat → y.length ≤ 2000 := by
  have h1 := trees_tok (s.length + 1) s false
  rw [TR] at h
  rw [h] at h1
  have hk : ∀ x, x ∈ tokW [] s → KindW x := tok_kinds s [] (fun _ h => by cases h)
  obtain ⟨a1, a2, _⟩ := treesT_back _ _ _ _ _ hk h1.symm
  simp only [Bool.false_eq_true, if_false, List.append_nil] at a2
  have htl := tok_len s []
  intro x hx
  refine ⟨a1 x hx, ?_, fun y hy => ?_⟩
  · have := flatL_len_mem hx
    rw [a2] at htl
    omega
  · have hm : y ∈ tokW [] s := by
      rw [a2]
      exact flat_subA hx hy
    have := tok_small s [] y hm
    simp at this
    omega
theorem parse_TR (s : List UInt8) : parseS s = match TR s false with
    | some ([x], _) => (termT x.flat.length x).bind fun t => if goodM 0 t = true then some t else none
    | _ => none := by
  rw [← parse_same, parseR, treesR, TR_of _ s false (by omega)]
  rfl
end Go.Proofs.YtnddkmccagiclabGreatDoor

/-
  What the call of ref's ParseTerm answers.
-/
namespace Go.Proofs.YtnddkmccagiclabGreatDoor
open Go.RowKit
def PtPost (s : ByteArray) (w : World) (e : Ending) (w' : World) : Prop :=
  ∃ (x : TT) (er : Int), e = .returned (.tuple #[.agg #[.int .i64 x.k, .int .i64 x.n, .int .i64 x.t.k, .slice x.t.a x.t.l.length x.t.c, .int .i64 x.f.k, .slice x.f.a x.f.l.length x.f.c, .slice x.a x.l.length x.c], .int .i64 er]) ∧ Hid (x.In w' ∧ Below w.heap.size w w' ∧
    ((1000 < s.size ∧ er = 4 ∧ x = tleaf 0 0) ∨ (s.size ≤ 1000 ∧ parseS s.data.toList = none ∧ er = 1 ∧ x = tleaf 0 0) ∨ (s.size ≤ 1000 ∧ parseS s.data.toList = some x.tm ∧ er = 0)))
theorem ok_larger {m m' : Nat} {x : TT} : x.ok m → m ≤ m' → x.ok m' := by
  induction x using TT.ind with
  | h k n t f a c l ih =>
    intro h hm
    obtain ⟨⟨h1, h2, h3, h4, h5⟩, h6⟩ := TT.ok_mk.1 h
    exact TT.ok_mk.2 ⟨⟨h1, h2, by omega, by omega, by omega⟩, fun y hy => ih y hy (h6 y hy) hm⟩
set_option maxRecDepth 20000 in
set_option maxHeartbeats 8000000 in
theorem parseTerm_any (s : ByteArray) (w : World) (hta : Ta w) : Calls Tryz.prog 40 #[.string s] w (PtPost s w) := by
  obtain ⟨W1, hW1⟩ : ∃ W, W = w.alloc (.cells #[.int .i64 0, .int .i64 0, .int .i64 0, .slice none 0 0, .int .i64 0, .slice none 0 0, .slice none 0 0] 27) := ⟨_, rfl⟩
  have HB1 : Hid (Below w.heap.size w W1) := by rw [hW1]; exact (Below.refl _ _).alloc (Nat.le_refl _) _
  have HBX : Hid (Box7 W1 w.heap.size (tleaf 0 0)) := by
    rw [hW1]
    exact ⟨At7.new w (tleaf 0 0), fun i hi => by simp [go_sem]⟩
  have HE : Hid (∀ V, Below W1.heap.size W1 V → Box7 V w.heap.size (tleaf 0 0) ∧ Below w.heap.size w V ∧ Ta V) := fun V hV => by
    have hb : Below w.heap.size w V := HB1.out.trans (hV.mono HB1.out.size)
    exact ⟨HBX.out.below hV, hb, hta.below hb⟩
  clear HB1 HBX hta
  by_cases hs : s.size ≤ 1000
  · have hgt : ¬ (1000 : Int) < ((s.size : Nat) : Int) := by omega
    have hll : s.data.toList.length ≤ 1000 := by
      have hl : s.data.toList.length = s.size := Array.length_toList
      omega
    have BAD0 : Hid (parseS s.data.toList = none → ∀ V, Below W1.heap.size W1 V → PtPost s w (.returned (.tuple #[.agg #[.int .i64 0, .int .i64 0, .int .i64 0, .slice none 0 0, .int .i64 0, .slice none 0 0, .slice none 0 0], .int .i64 1])) (put7 V w.heap.size (tleaf 0 0))) := fun hp V hV =>
      ⟨tleaf 0 0, 1, rfl, tleaf_in _ _ _, put7_below (HE.out V hV).2.1, .inr (.inl ⟨hs, hp, rfl, rfl⟩)⟩
    have HTS : Hid (Calls Tryz.prog 62 #[.string s, .bool false] W1 (TsPost s false W1)) := trees_any s.size s false W1 (Nat.le_refl _) hs
    go_enter Tryz.func40, Tryz.ntmps40
    go_upto_region 1 with fail
    rw [← hW1]
    clear hW1
    go_wp2_with fail
    refine HTS.out.mono ?_
    rintro e w2 ⟨a, c, ts, R, ok, rfl, HP⟩
    clear HTS
    have H2 : Hid (Below W1.heap.size W1 w2) := HP.out.2.1
    cases ok
    · have BAD : Hid (∀ V, Below W1.heap.size W1 V → PtPost s w (.returned (.tuple #[.agg #[.int .i64 0, .int .i64 0, .int .i64 0, .slice none 0 0, .int .i64 0, .slice none 0 0, .slice none 0 0], .int .i64 1])) (put7 V w.heap.size (tleaf 0 0))) := BAD0.out (by
        rw [parse_TR]
        rcases HP.out.2.2 with ⟨h, _⟩ | ⟨p, _, h, _⟩
        · rw [h]
        · cases h)
      clear BAD0 HP
      have HP : Hid (PtPost s w (.returned (.tuple #[.agg #[.int .i64 0, .int .i64 0, .int .i64 0, .slice none 0 0, .int .i64 0, .slice none 0 0, .slice none 0 0], .int .i64 1])) (put7 w2 w.heap.size (tleaf 0 0))) := BAD.out w2 H2.out
      have HBXV := (HE.out w2 H2.out).1
      have HGT : Hid _ := put7_gets (x := tleaf 0 0) HBXV
      obtain ⟨c0, c1, c2, c3, c4, c5, c6⟩ := HBXV.at7
      simp only [Nat.zero_add, tleaf] at c0 c1 c2 c3 c4 c5 c6
      have f0 := HBXV.fz 0 (by omega)
      have f1 := HBXV.fz 1 (by omega)
      have f2 := HBXV.fz 2 (by omega)
      have f3 := HBXV.fz 3 (by omega)
      have f4 := HBXV.fz 4 (by omega)
      have f5 := HBXV.fz 5 (by omega)
      have f6 := HBXV.fz 6 (by omega)
      clear HBXV BAD HE H2
      go_wp2_with fail
      refine bodyPost_ret (v := .tuple #[.agg #[.int .i64 0, .int .i64 0, .int .i64 0, .slice none 0 0, .int .i64 0, .slice none 0 0, .slice none 0 0], .int .i64 1]) ?_ rfl HP.out
      obtain ⟨d0, d1, d2, d3, d4, d5, d6⟩ := HGT.out
      simp only [tleaf, List.length_nil] at d0 d1 d2 d3 d4 d5 d6
      simp [results, Tryz.results40, go_sem, d0, d1, d2, d3, d4, d5, d6]
    · obtain ⟨p, hp, hpt, hpr⟩ : ∃ p, TR s.data.toList false = some p ∧ ts.map Nd.tn = p.1 ∧ R.data.toList = p.2 := by
        rcases HP.out.2.2 with ⟨_, h⟩ | ⟨p, h1, _, h2, h3⟩
        · cases h
        · exact ⟨p, h1, h2, h3⟩
      by_cases h1 : ts.length = 1
      · obtain ⟨X, hX⟩ : ∃ X, ts = [X] := by
          match ts, h1 with
          | [X], _ => exact ⟨X, rfl⟩
        subst hX
        have hpe : TR s.data.toList false = some ([X.tn], p.2) := by
          rw [hp]
          have : p.1 = [X.tn] := by rw [← hpt]; rfl
          rw [← this]
        have HTF : Hid (X.tn.nice ∧ X.tn.flat.length ≤ 3000 ∧ ∀ y, y ∈ X.tn.flat → y.length ≤ 2000) := TR_facts hpe hll X.tn (by simp)
        have HPS : Hid (parseS s.data.toList = (termT X.tn.flat.length X.tn).bind fun t => if goodM 0 t = true then some t else none) := by
          show _ = _
          rw [parse_TR, hpe]
        obtain ⟨hrow, _⟩ := HP.out.1 ⟨#[]⟩ false
        obtain ⟨b, f, ea, x0, x1, x2, hXi⟩ := hrow.part 0 (by simp)
        replace ea : a = some ⟨b, f, none⟩ := ea
        subst ea
        simp only [List.getElem_cons_zero, Nat.zero_mul, Nat.add_zero] at x0 x1 x2 hXi
        have HTM : Hid (Calls Tryz.prog 63 #[.agg #[.string X.w, .slice X.a X.l.length X.c, .bool X.o]] w2 (TrPost (termT X.tn.flat.length X.tn) w2)) := term_any X.tn.flat.length X w2 hXi (HE.out w2 H2.out).2.2 HTF.out.1 (Nat.le_refl _) HTF.out.2.2 HTF.out.2.1
        have HTO : Hid (∀ i, termT X.tn.flat.length X.tn = some i → okM 3000 i ∧ i.sz ≤ 3000) := fun i hi => by
          have := termT_ok _ _ _ hi HTF.out.2.1
          exact ⟨this.1, by have := HTF.out.2.1; omega⟩
        obtain ⟨TX, hTX⟩ : ∃ T, termT X.tn.flat.length X.tn = T := ⟨_, rfl⟩
        rw [hTX] at HTM HPS HTO
        simp only [List.length_cons, List.length_nil]
        clear hTX hp hpt hpr hpe hrow hXi HP HTF h1 hll
        go_wp2_with fail
        refine HTM.out.mono ?_
        rintro e w3 ⟨t, is, rfl, HT⟩
        clear HTM x0 x1 x2
        obtain ⟨V, hV⟩ : ∃ W, W = w3.alloc (.cells #[.int .i64 t.k, .int .i64 t.n, .int .i64 t.t.k, .slice t.t.a t.t.l.length t.t.c, .int .i64 t.f.k, .slice t.f.a t.f.l.length t.f.c, .slice t.a t.l.length t.c] 27) := ⟨_, rfl⟩
        have hb3 : Below w3.heap.size w3 V := by rw [hV]; exact (Below.refl _ _).alloc (Nat.le_refl _) _
        have hb2 : Below w2.heap.size w2 V := HT.out.2.2.2.2.trans (hb3.mono HT.out.2.2.2.2.size)
        have H3 : Hid (Below W1.heap.size W1 V) := H2.out.trans (hb2.mono H2.out.size)
        have HT7 : Hid (At7 V w3.heap.size 0 t ∧ t.In V) := ⟨by rw [hV]; exact At7.new w3 t, HT.out.2.2.1.below hb3⟩
        have HBL : Hid (t.Bl (· ≠ w.heap.size)) := HT.out.2.2.2.1.mono fun b hb => by
          have h1 := HE.out W1 (Below.refl _ _)
          have h2 := h1.1.lt
          have h3 := H2.out.size
          omega
        have HTT : Hid (is = TX.isSome ∧ ∀ i, TX = some i → t.tm = i) := ⟨HT.out.1, HT.out.2.1⟩
        clear hb3 hb2 HT
        go_upto_region 6 with fail
        rw [← hV]
        clear hV
        cases is
        · have BAD : Hid (∀ V, Below W1.heap.size W1 V → PtPost s w (.returned (.tuple #[.agg #[.int .i64 0, .int .i64 0, .int .i64 0, .slice none 0 0, .int .i64 0, .slice none 0 0, .slice none 0 0], .int .i64 1])) (put7 V w.heap.size (tleaf 0 0))) := BAD0.out (by
            rw [HPS.out]
            cases h : TX with
            | none => rfl
            | some i => have := HTT.out.1; rw [h] at this; cases this)
          clear BAD0 HPS HTO HTT HT7
          have HP : Hid (PtPost s w (.returned (.tuple #[.agg #[.int .i64 0, .int .i64 0, .int .i64 0, .slice none 0 0, .int .i64 0, .slice none 0 0, .slice none 0 0], .int .i64 1])) (put7 V w.heap.size (tleaf 0 0))) := BAD.out V H3.out
          have HBXV := (HE.out V H3.out).1
          have HGT : Hid _ := put7_gets (x := tleaf 0 0) HBXV
          obtain ⟨c0, c1, c2, c3, c4, c5, c6⟩ := HBXV.at7
          simp only [Nat.zero_add, tleaf] at c0 c1 c2 c3 c4 c5 c6
          have f0 := HBXV.fz 0 (by omega)
          have f1 := HBXV.fz 1 (by omega)
          have f2 := HBXV.fz 2 (by omega)
          have f3 := HBXV.fz 3 (by omega)
          have f4 := HBXV.fz 4 (by omega)
          have f5 := HBXV.fz 5 (by omega)
          have f6 := HBXV.fz 6 (by omega)
          clear HBXV BAD HE H3 H2
          go_wp2_with fail
          refine bodyPost_ret (v := .tuple #[.agg #[.int .i64 0, .int .i64 0, .int .i64 0, .slice none 0 0, .int .i64 0, .slice none 0 0, .slice none 0 0], .int .i64 1]) ?_ rfl HP.out
          obtain ⟨d0, d1, d2, d3, d4, d5, d6⟩ := HGT.out
          simp only [tleaf, List.length_nil] at d0 d1 d2 d3 d4 d5 d6
          simp [results, Tryz.results40, go_sem, d0, d1, d2, d3, d4, d5, d6]
        · have HTI : Hid (TX = some t.tm) := by
            cases h : TX with
            | none => have := HTT.out.1; rw [h] at this; cases this
            | some i => show some i = some t.tm; rw [HTT.out.2 i h]
          obtain ⟨g, hg⟩ : ∃ g, goodM 0 t.tm = g := ⟨_, rfl⟩
          have HIS : Hid (Calls Tryz.prog 37 #[.agg #[.int .i64 t.k, .int .i64 t.n, .int .i64 t.t.k, .slice t.t.a t.t.l.length t.t.c, .int .i64 t.f.k, .slice t.f.a t.f.l.length t.f.c, .slice t.a t.l.length t.c], .int .i64 0] V fun e w' => e = .returned (.bool g) ∧ Below V.heap.size V w') := by
            obtain ⟨o1, o2⟩ := HTO.out t.tm HTI.out
            have h := isTerm_any t 0 V HT7.out.2 (by rw [TT.sz_tm]; omega) (ok_larger (ok_tm t o1) (by omega))
            rw [hg] at h
            exact h
          have HPG : Hid (parseS s.data.toList = if g = true then some t.tm else none) := by
            show _ = _
            rw [HPS.out, HTI.out, Option.bind_some, hg]
          obtain ⟨q0, q1, q2, q3, q4, q5, q6⟩ := HT7.out.1.all
          clear HPS HTO HTT HTI hg
          go_wp2_with fail
          refine HIS.out.mono ?_
          rintro e w4 ⟨rfl, hb4⟩
          have H4 : Hid (Below W1.heap.size W1 w4) := H3.out.trans (hb4.mono H3.out.size)
          have hlt : w3.heap.size < V.heap.size := HT7.out.1.lt
          obtain ⟨m0, m1, m2, m3, m4, m5, m6⟩ := (HT7.out.1.below hb4).all
          have HT4 : Hid (t.In w4) := HT7.out.2.below hb4
          clear q0 q1 q2 q3 q4 q5 q6 hb4 HIS HT7 hlt
          cases g
          · have BAD : Hid (∀ V, Below W1.heap.size W1 V → PtPost s w (.returned (.tuple #[.agg #[.int .i64 0, .int .i64 0, .int .i64 0, .slice none 0 0, .int .i64 0, .slice none 0 0, .slice none 0 0], .int .i64 1])) (put7 V w.heap.size (tleaf 0 0))) := BAD0.out (by rw [HPG.out]; rfl)
            clear BAD0 HPG HT4 m0 m1 m2 m3 m4 m5 m6
            have HP : Hid (PtPost s w (.returned (.tuple #[.agg #[.int .i64 0, .int .i64 0, .int .i64 0, .slice none 0 0, .int .i64 0, .slice none 0 0, .slice none 0 0], .int .i64 1])) (put7 w4 w.heap.size (tleaf 0 0))) := BAD.out w4 H4.out
            have HBXV := (HE.out w4 H4.out).1
            have HGT : Hid _ := put7_gets (x := tleaf 0 0) HBXV
            obtain ⟨c0, c1, c2, c3, c4, c5, c6⟩ := HBXV.at7
            simp only [Nat.zero_add, tleaf] at c0 c1 c2 c3 c4 c5 c6
            have f0 := HBXV.fz 0 (by omega)
            have f1 := HBXV.fz 1 (by omega)
            have f2 := HBXV.fz 2 (by omega)
            have f3 := HBXV.fz 3 (by omega)
            have f4 := HBXV.fz 4 (by omega)
            have f5 := HBXV.fz 5 (by omega)
            have f6 := HBXV.fz 6 (by omega)
            clear HBXV BAD HE H4 H3 H2
            go_wp2_with fail
            refine bodyPost_ret (v := .tuple #[.agg #[.int .i64 0, .int .i64 0, .int .i64 0, .slice none 0 0, .int .i64 0, .slice none 0 0, .slice none 0 0], .int .i64 1]) ?_ rfl HP.out
            obtain ⟨d0, d1, d2, d3, d4, d5, d6⟩ := HGT.out
            simp only [tleaf, List.length_nil] at d0 d1 d2 d3 d4 d5 d6
            simp [results, Tryz.results40, go_sem, d0, d1, d2, d3, d4, d5, d6]
          · have HP : Hid (PtPost s w (.returned (.tuple #[.agg #[.int .i64 t.k, .int .i64 t.n, .int .i64 t.t.k, .slice t.t.a t.t.l.length t.t.c, .int .i64 t.f.k, .slice t.f.a t.f.l.length t.f.c, .slice t.a t.l.length t.c], .int .i64 0])) (put7 w4 w.heap.size t)) := by
              have hbl : t.Bl (· ≠ w.heap.size) := HBL.out
              have hk := put7_kept (w := w4) (J := w.heap.size) (x := t)
              exact ⟨t, 0, rfl, HT4.out.keptR hk hbl, put7_below (HE.out w4 H4.out).2.1, .inr (.inr ⟨hs, by rw [HPG.out, if_pos rfl], rfl⟩)⟩
            have HBXV := (HE.out w4 H4.out).1
            have HGT : Hid _ := put7_gets (x := t) HBXV
            obtain ⟨c0, c1, c2, c3, c4, c5, c6⟩ := HBXV.at7
            simp only [Nat.zero_add, tleaf] at c0 c1 c2 c3 c4 c5 c6
            have f0 := HBXV.fz 0 (by omega)
            have f1 := HBXV.fz 1 (by omega)
            have f2 := HBXV.fz 2 (by omega)
            have f3 := HBXV.fz 3 (by omega)
            have f4 := HBXV.fz 4 (by omega)
            have f5 := HBXV.fz 5 (by omega)
            have f6 := HBXV.fz 6 (by omega)
            clear HBXV BAD0 HE HPG HT4 H4 H3 H2
            go_wp2_with fail
            refine bodyPost_ret (v := .tuple #[.agg #[.int .i64 t.k, .int .i64 t.n, .int .i64 t.t.k, .slice t.t.a t.t.l.length t.t.c, .int .i64 t.f.k, .slice t.f.a t.f.l.length t.f.c, .slice t.a t.l.length t.c], .int .i64 0]) ?_ rfl HP.out
            obtain ⟨d0, d1, d2, d3, d4, d5, d6⟩ := HGT.out
            simp [results, Tryz.results40, go_sem, d0, d1, d2, d3, d4, d5, d6]
      · have BAD : Hid (∀ V, Below W1.heap.size W1 V → PtPost s w (.returned (.tuple #[.agg #[.int .i64 0, .int .i64 0, .int .i64 0, .slice none 0 0, .int .i64 0, .slice none 0 0, .slice none 0 0], .int .i64 1])) (put7 V w.heap.size (tleaf 0 0))) := BAD0.out (by
          rw [parse_TR, hp]
          split
          · rename_i x q e
            exfalso
            have e1 := Option.some.inj e
            have := congrArg List.length hpt
            rw [e1] at this
            simp at this
            omega
          · rfl)
        have hl1 : (((ts.length : Nat) : Int) == 1) = false := by
          rw [beq_eq_false_iff_ne]
          omega
        clear BAD0 HP hp hpt hpr h1 hll
        have HP : Hid (PtPost s w (.returned (.tuple #[.agg #[.int .i64 0, .int .i64 0, .int .i64 0, .slice none 0 0, .int .i64 0, .slice none 0 0, .slice none 0 0], .int .i64 1])) (put7 w2 w.heap.size (tleaf 0 0))) := BAD.out w2 H2.out
        have HBXV := (HE.out w2 H2.out).1
        have HGT : Hid _ := put7_gets (x := tleaf 0 0) HBXV
        obtain ⟨c0, c1, c2, c3, c4, c5, c6⟩ := HBXV.at7
        simp only [Nat.zero_add, tleaf] at c0 c1 c2 c3 c4 c5 c6
        have f0 := HBXV.fz 0 (by omega)
        have f1 := HBXV.fz 1 (by omega)
        have f2 := HBXV.fz 2 (by omega)
        have f3 := HBXV.fz 3 (by omega)
        have f4 := HBXV.fz 4 (by omega)
        have f5 := HBXV.fz 5 (by omega)
        have f6 := HBXV.fz 6 (by omega)
        clear HBXV BAD HE H2
        go_wp2_with fail
        refine bodyPost_ret (v := .tuple #[.agg #[.int .i64 0, .int .i64 0, .int .i64 0, .slice none 0 0, .int .i64 0, .slice none 0 0, .slice none 0 0], .int .i64 1]) ?_ rfl HP.out
        obtain ⟨d0, d1, d2, d3, d4, d5, d6⟩ := HGT.out
        simp only [tleaf, List.length_nil] at d0 d1 d2 d3 d4 d5 d6
        simp [results, Tryz.results40, go_sem, d0, d1, d2, d3, d4, d5, d6]
  · have hgt : (1000 : Int) < ((s.size : Nat) : Int) := by omega
    have BAD : Hid (∀ V, Below W1.heap.size W1 V → PtPost s w (.returned (.tuple #[.agg #[.int .i64 0, .int .i64 0, .int .i64 0, .slice none 0 0, .int .i64 0, .slice none 0 0, .slice none 0 0], .int .i64 4])) (put7 V w.heap.size (tleaf 0 0))) := fun V hV =>
      ⟨tleaf 0 0, 4, rfl, tleaf_in _ _ _, put7_below (HE.out V hV).2.1, .inl ⟨by omega, rfl, rfl⟩⟩
    go_enter Tryz.func40, Tryz.ntmps40
    go_upto_region 1 with fail
    rw [← hW1]
    clear hW1 hs
    have HP : Hid (PtPost s w (.returned (.tuple #[.agg #[.int .i64 0, .int .i64 0, .int .i64 0, .slice none 0 0, .int .i64 0, .slice none 0 0, .slice none 0 0], .int .i64 4])) (put7 W1 w.heap.size (tleaf 0 0))) := BAD.out W1 (Below.refl _ _)
    have HBXV := (HE.out W1 (Below.refl _ _)).1
    have HGT : Hid _ := put7_gets (x := tleaf 0 0) HBXV
    obtain ⟨c0, c1, c2, c3, c4, c5, c6⟩ := HBXV.at7
    simp only [Nat.zero_add, tleaf] at c0 c1 c2 c3 c4 c5 c6
    have f0 := HBXV.fz 0 (by omega)
    have f1 := HBXV.fz 1 (by omega)
    have f2 := HBXV.fz 2 (by omega)
    have f3 := HBXV.fz 3 (by omega)
    have f4 := HBXV.fz 4 (by omega)
    have f5 := HBXV.fz 5 (by omega)
    have f6 := HBXV.fz 6 (by omega)
    clear HBXV BAD HE 
    go_wp2_with fail
    refine bodyPost_ret (v := .tuple #[.agg #[.int .i64 0, .int .i64 0, .int .i64 0, .slice none 0 0, .int .i64 0, .slice none 0 0, .slice none 0 0], .int .i64 4]) ?_ rfl HP.out
    obtain ⟨d0, d1, d2, d3, d4, d5, d6⟩ := HGT.out
    simp only [tleaf, List.length_nil] at d0 d1 d2 d3 d4 d5 d6
    simp [results, Tryz.results40, go_sem, d0, d1, d2, d3, d4, d5, d6]
end Go.Proofs.YtnddkmccagiclabGreatDoor

/-
  What the call of ref's RunText answers: what Text does.
-/
namespace Go.Proofs.YtnddkmccagiclabGreatDoor
open Go.RowKit
theorem good_okM : ∀ (x : Tm) (ins : Nat), okTm x ins → ins + x.sz ≤ 900 → okM 100000000 x := by
  intro x
  induction x using Tm.ind with
  | h k n t f l ih =>
    intro ins hok hz
    obtain ⟨h0, h1⟩ := okTm_mk.1 hok
    obtain ⟨k1, k9, hl, hf, ht, hnt, hn1⟩ := okTop_all h0
    have hnum : okNum 0 (ins : Int) k n = true := by
      simp only [okTop, Bool.and_eq_true] at h0
      exact h0.2.2
    rw [Tm.sz_mk] at hz
    obtain ⟨n1, n2, n3⟩ := okNum_bounds hnum (by omega)
    have hts := goodY_sz 4 t ht
    have hfs : f.sz ≤ 100000000 := by
      rw [isAny_eq hf]
      simp [anyY, Ty.sz_mk]
    refine okM_mk.2 ⟨⟨wf_small k (by omega), wf_small n (by omega), by omega, hfs, ?_⟩, fun x hx => ?_⟩
    · have := partsOf_le k
      omega
    · have hs := sz_mem l x hx
      refine ih x hx _ (h1 x hx) ?_
      split <;> omega
theorem parsed_ok {s : List UInt8} {x : TT} (h : parseS s = some x.tm) : x.ok 100000000 ∧ x.sz ≤ 2000000 := by
  have hg : goodM 0 x.tm = true := by
    unfold parseS at h
    split at h
    · split at h
      · rename_i hg
        rw [Option.some.inj h] at hg
        exact hg
      · cases h
    · cases h
  obtain ⟨hok, hsz⟩ := goodM_ok hg
  refine ⟨ok_tm x (good_okM x.tm 0 hok (by omega)), ?_⟩
  rw [TT.sz_tm]
  omega
set_option maxRecDepth 20000 in
set_option maxHeartbeats 8000000 in
/-- ref's RunText. -/
theorem lawText_any (s : ByteArray) (f : Int) (w : World) (hg : Ta w) : Calls Tryz.prog 24 #[.string s, .int .i64 f] w (OutPost (textR s f) w) := by
  obtain ⟨W1, hW1⟩ : ∃ W, W = w.alloc (.cells #[.int .i64 0, .int .i64 0, .bool false] 29) := ⟨_, rfl⟩
  have hb1 : Below w.heap.size w W1 := by rw [hW1]; exact (Below.refl _ _).alloc (Nat.le_refl _) _
  have hs1 : W1.heap.size = w.heap.size + 1 := by rw [hW1]; simp
  have z0 : W1.cell? ⟨w.heap.size, 0, none⟩ = some (.int .i64 0) := by rw [hW1]; simp [go_sem]
  have z1 : W1.cell? ⟨w.heap.size, 1, none⟩ = some (.int .i64 0) := by rw [hW1]; simp [go_sem]
  have z2 : W1.cell? ⟨w.heap.size, 2, none⟩ = some (.bool false) := by rw [hW1]; simp [go_sem]
  have zf : ∀ i, W1.frozen? ⟨w.heap.size, i, none⟩ = false := by intro i; rw [hW1]; simp [go_sem]
  have HC : Hid (Calls Tryz.prog 40 #[.string s] W1 (PtPost s W1)) := parseTerm_any s W1 (hg.below hb1)
  have HZ : Hid (∀ W, Below W1.heap.size W1 W → W.cell? ⟨w.heap.size, 0, none⟩ = some (.int .i64 0) ∧ W.cell? ⟨w.heap.size, 1, none⟩ = some (.int .i64 0) ∧ W.cell? ⟨w.heap.size, 2, none⟩ = some (.bool false) ∧ W.frozen? ⟨w.heap.size, 0, none⟩ = false ∧ W.frozen? ⟨w.heap.size, 1, none⟩ = false ∧ W.frozen? ⟨w.heap.size, 2, none⟩ = false ∧ w.heap.size < W.heap.size ∧ Below w.heap.size w W ∧ Ta W) := fun W hW =>
    ⟨cell_later hW z0, cell_later hW z1, cell_later hW z2, (hW.frozen (p := ⟨w.heap.size, 0, none⟩) (by rw [hs1]; show w.heap.size < _; omega)).trans (zf 0), (hW.frozen (p := ⟨w.heap.size, 1, none⟩) (by rw [hs1]; show w.heap.size < _; omega)).trans (zf 1), (hW.frozen (p := ⟨w.heap.size, 2, none⟩) (by rw [hs1]; show w.heap.size < _; omega)).trans (zf 2), by have := hW.size; omega, hb1.trans (hW.mono hb1.size), hg.below (hb1.trans (hW.mono hb1.size))⟩
  obtain ⟨R, hR⟩ : ∃ R, R = textR s f := ⟨_, rfl⟩
  rw [← hR]
  have HR : Hid (R = textR s f) := hR
  have HE : Hid (∀ (o : Out) (er : Int) (W : World), R = (o, er) → Below w.heap.size w W → OutPost R w (.returned (.tuple #[.agg #[.int .i64 o.k, .int .i64 o.n, .bool o.b], .int .i64 er])) (((W.setCell ⟨w.heap.size, 0, none⟩ (.int .i64 o.k)).setCell ⟨w.heap.size, 1, none⟩ (.int .i64 o.n)).setCell ⟨w.heap.size, 2, none⟩ (.bool o.b))) := fun o er W h1 h2 => by
    rw [h1]
    exact ⟨rfl, ((h2.setCell (by simp) _).setCell (by simp) _).setCell (by simp) _⟩
  clear hR hb1 hs1 z0 z1 z2 zf hg
  go_enter Tryz.func24, Tryz.ntmps24
  go_wp2_with fail
  rw [← hW1]
  clear hW1
  refine HC.out.mono ?_
  rintro e w2 ⟨x, er, rfl, HPt⟩
  obtain ⟨hxi, hb2, hcase⟩ := HPt.out
  clear HPt
  have hc2 : (er = 0 ∧ Hid (R = runR x.tm f ∧ x.ok 100000000 ∧ x.sz ≤ 2000000)) ∨ ((er != 0) = true ∧ Hid (R = (out0, er))) := by
    rcases hcase with ⟨h1, rfl, _⟩ | ⟨h1, h2, rfl, _⟩ | ⟨h1, h2, rfl⟩
    · refine .inr ⟨rfl, ?_⟩
      rw [HR.out]; unfold textR; rw [if_pos h1]; exact rfl
    · refine .inr ⟨rfl, ?_⟩
      rw [HR.out]; unfold textR; rw [if_neg (by omega), h2]; exact rfl
    · refine .inl ⟨rfl, ?_, parsed_ok h2⟩
      rw [HR.out]; unfold textR; rw [if_neg (by omega), h2]
  obtain ⟨W3, hW3⟩ : ∃ W3, W3 = w2.alloc (.cells #[.int .i64 x.k, .int .i64 x.n, .int .i64 x.t.k, .slice x.t.a x.t.l.length x.t.c, .int .i64 x.f.k, .slice x.f.a x.f.l.length x.f.c, .slice x.a x.l.length x.c] 27) := ⟨_, rfl⟩
  have hA2 : Below w2.heap.size w2 W3 := by rw [hW3]; exact (Below.refl _ _).alloc (Nat.le_refl _) _
  have hA : Below W1.heap.size W1 W3 := hb2.trans (hA2.mono hb2.size)
  have p0 : W3.cell? ⟨w2.heap.size, 0, none⟩ = some (.int .i64 x.k) := by rw [hW3]; simp [go_sem]
  have p1 : W3.cell? ⟨w2.heap.size, 1, none⟩ = some (.int .i64 x.n) := by rw [hW3]; simp [go_sem]
  have p2 : W3.cell? ⟨w2.heap.size, 2, none⟩ = some (.int .i64 x.t.k) := by rw [hW3]; simp [go_sem]
  have p3 : W3.cell? ⟨w2.heap.size, 3, none⟩ = some (.slice x.t.a x.t.l.length x.t.c) := by rw [hW3]; simp [go_sem]
  have p4 : W3.cell? ⟨w2.heap.size, 4, none⟩ = some (.int .i64 x.f.k) := by rw [hW3]; simp [go_sem]
  have p5 : W3.cell? ⟨w2.heap.size, 5, none⟩ = some (.slice x.f.a x.f.l.length x.f.c) := by rw [hW3]; simp [go_sem]
  have p6 : W3.cell? ⟨w2.heap.size, 6, none⟩ = some (.slice x.a x.l.length x.c) := by rw [hW3]; simp [go_sem]
  have lw2 : w2.heap.size < W3.heap.size := World.block_lt_of_cell? _ _ p0
  obtain ⟨r0, r1, r2, f0, f1, f2, rl, hB, hG3⟩ := HZ.out W3 hA
  have HO : Hid (x.ok 100000000 ∧ x.sz ≤ 2000000 → Calls Tryz.prog 20 #[.agg #[.int .i64 x.k, .int .i64 x.n, .int .i64 x.t.k, .slice x.t.a x.t.l.length x.t.c, .int .i64 x.f.k, .slice x.f.a x.f.l.length x.f.c, .slice x.a x.l.length x.c], .int .i64 f] W3 fun e w' => e = .returned (.tuple #[.agg #[.int .i64 (runR x.tm f).1.k, .int .i64 (runR x.tm f).1.n, .bool (runR x.tm f).1.b], .int .i64 (runR x.tm f).2]) ∧ Below W1.heap.size W1 w') := by
    intro hok
    refine (lawRun_any x f W3 (hxi.below hA2) hok.2 hok.1).mono ?_
    rintro e w' ⟨he, hb⟩
    exact ⟨he, hA.trans (hb.mono hA.size)⟩
  have HB : Hid (Below w.heap.size w W3) := hB
  clear hA hA2 hb2 HC hxi hB hG3 hcase HR
  rcases hc2 with ⟨rfl, HR1⟩ | ⟨he, HR1⟩
  · obtain ⟨r, hr⟩ : ∃ r, r = runR x.tm f := ⟨_, rfl⟩
    rw [← hr] at HO HR1
    clear hr r0 r1 r2 f0 f1 f2 rl
    go_upto_region 2 with fail
    rw [← hW3]
    clear hW3
    go_wp2_with fail
    refine (HO.out HR1.out.2).mono ?_
    rintro e w4 ⟨rfl, hb4⟩
    obtain ⟨r0, r1, r2, f0, f1, f2, rl, hB, _⟩ := HZ.out w4 hb4
    have HB4 : Hid (Below w.heap.size w w4) := hB
    clear hb4 hB HZ p0 p1 p2 p3 p4 p5 p6
    go_wp2_with fail
    obtain ⟨q0, q1, q2⟩ := set3_cells (u := .int .i64 r.1.k) (v := .int .i64 r.1.n) (z := .bool r.1.b) r0 r1 r2
    exact bodyPost_ret (v := .tuple #[.agg #[.int .i64 r.1.k, .int .i64 r.1.n, .bool r.1.b], .int .i64 r.2]) (by simp [results, Tryz.results24, go_sem, q0, q1, q2]) rfl (HE.out r.1 r.2 w4 HR1.out.1 HB4.out)
  · clear HO HZ p0 p1 p2 p3 p4 p5 p6
    go_upto_region 2 with fail
    rw [← hW3]
    clear hW3
    go_wp2_with fail
    obtain ⟨q0, q1, q2⟩ := set3_cells (u := .int .i64 0) (v := .int .i64 0) (z := .bool false) r0 r1 r2
    exact bodyPost_ret (v := .tuple #[.agg #[.int .i64 0, .int .i64 0, .bool false], .int .i64 er]) (by simp [results, Tryz.results24, go_sem, q0, q1, q2]) rfl (HE.out out0 er W3 HR1.out HB.out)
end Go.Proofs.YtnddkmccagiclabGreatDoor

/-
  What the laws' own call 'alive' answers: true.
-/
namespace Go.Proofs.YtnddkmccagiclabGreatDoor
open Go.RowKit
/-- (call (fun any (add #0 1)) (as any 6)) -/
def aX : Tm := ⟨8, 0, anyY, anyY, [⟨7, 0, anyY, anyY, [⟨4, 0, anyY, anyY, [⟨1, 0, anyY, anyY, []⟩, ⟨2, 1, anyY, anyY, []⟩]⟩]⟩, ⟨9, 0, anyY, anyY, [⟨2, 6, anyY, anyY, []⟩]⟩]⟩
/-- The same with its casts. -/
def aY : Tm := ⟨8, 0, anyY, anyY, [⟨7, 0, anyY, anyY, [⟨4, 0, anyY, anyY, [⟨10, 3, ⟨1, []⟩, anyY, [⟨1, 0, anyY, anyY, []⟩]⟩, ⟨2, 1, anyY, anyY, []⟩]⟩]⟩, ⟨9, 0, anyY, anyY, [⟨10, 6, anyY, ⟨1, []⟩, [⟨2, 6, anyY, anyY, []⟩]⟩]⟩]⟩
def aS : ByteArray := ⟨#[40, 99, 97, 108, 108, 32, 40, 102, 117, 110, 32, 97, 110, 121, 32, 40, 97, 100, 100, 32, 35, 48, 32, 49, 41, 41, 32, 40, 97, 115, 32, 97, 110, 121, 32, 54, 41, 41]⟩
theorem a_any : isAnyY anyY = true := by simp [isAnyY, anyY, relY_mk, relL]
theorem a_good4 : goodY 4 anyY = true := by simp [goodY, anyY]
theorem aX_good : goodM 0 aX = true := by
  have : goodS 0 40 0 aX 40 = some 33 := by
    simp [aX, goodS, okTop, okTypes, okNum, tells, partsOf, bindL, a_any, a_good4, insOf]
  exact congrArg Option.isSome this
theorem aX_read : readS aX [] 0 = some (aY, ⟨1, []⟩) := by
  simp [aX, aY, readS_mk, readL, takesIn, ruleY, fitL, castL, castY, relY_mk, relL, escFits, escSame, anyY, callY, Tm.sz_mk]
set_option maxRecDepth 100000 in
theorem aS_words : readTm ((wordsOf aS.data.toList).length + 1) (wordsOf aS.data.toList) = some (aX, []) := by kernel_rfl
theorem aS_parse : parseS aS.data.toList = some aX := by
  unfold parseS
  rw [aS_words]
  simp only
  rw [if_pos aX_good]
theorem a_new1 (o : Out) : newC 100 ⟨1, []⟩ anyY o = some ⟨false, out0, 1, out0, none, none, true⟩ := by
  have e : newC 99 ⟨1, []⟩ ⟨1, []⟩ o = none := by rw [newC, if_pos (by simp [relY_mk, relL])]
  rw [newC, if_neg (by simp [anyY, relY_mk, relL, escSame]), if_neg (by simp), if_pos (by rfl)]
  have g : groundY ⟨1, []⟩ = ⟨1, []⟩ := rfl
  simp only [g, e, someC]
theorem a_new2 (o : Out) : newC 100 anyY ⟨1, []⟩ o = some ⟨true, o, 1, out0, none, none, false⟩ := by
  have e : newC 99 ⟨1, []⟩ ⟨1, []⟩ o = none := by rw [newC, if_pos (by simp [relY_mk, relL])]
  rw [newC, if_neg (by simp [anyY, relY_mk, relL, escSame]), if_neg (by simp), if_neg (by simp), if_pos (by rfl)]
  have g : groundY ⟨1, []⟩ = ⟨1, []⟩ := rfl
  simp only [g, e, someC]
theorem aY_run : runM aY 5 = ⟨1, 7, false⟩ := by
  obtain ⟨h1, h2, _⟩ := check_run aX_good aX_read
  have e : runN 13 (st0 aY 5) = ⟨[], [numV 7], 1, 5, out0⟩ := by
    simp [runN, st0, stepS, doS, lookS, bothS, St.plan, St.push, lookT, doT, changeT, aY, Tm.at, changeS, callS, enterS, funV, numV, a_new1, a_new2, ofC, knownV, clampI, Val.core, out0, tm0]
    omega
  rw [runM_of h1 h2 (by omega) (n := 13) (by rw [e]; exact .inr rfl), e]
  rfl
theorem aS_text : textR aS 5 = (⟨1, 7, false⟩, 0) := by
  unfold textR
  rw [if_neg (by show ¬ (1000 < 38); omega), aS_parse]
  simp only
  unfold runR
  rw [if_pos aX_good, aX_read]
  simp only
  rw [if_neg (by omega)]
  show (runM aY 5, (0 : Int)) = _
  rw [aY_run]
end Go.Proofs.YtnddkmccagiclabGreatDoor

/-
  What the law's own call 'runs' answers: true.
-/
namespace Go.Proofs.YtnddkmccagiclabGreatDoor
open Go.RowKit
set_option maxRecDepth 20000 in
set_option maxHeartbeats 4000000 in
/-- runs. -/
theorem runs_any (w : World) (hg : Gl w) : Calls Tryz.prog 23 #[] w fun e w' => e = .returned (.bool true) ∧ Below w.heap.size w w' := by
  have HT : Hid (Calls Tryz.prog 17 #[.string aS, .int .i64 5] w fun e w' => e = .returned (.tuple #[.agg #[.int .i64 1, .int .i64 7, .bool false], .int .i64 0]) ∧ Below w.heap.size w w') := by
    have := textFn_any aS (by show 38 ≤ 9223372036854775807; omega) 5 w hg
    rw [aS_text] at this
    exact this
  unfold aS at HT
  clear hg
  go_enter Tryz.func23, Tryz.ntmps23
  go_wp2_with fail
  refine HT.out.mono ?_
  rintro e w2 ⟨rfl, hb⟩
  have HB : Hid (Below w.heap.size w w2) := hb
  clear hb HT
  go_wp2_with fail
  go_ret
  exact ⟨rfl, HB.out.alloc HB.out.size _⟩
end Go.Proofs.YtnddkmccagiclabGreatDoor

/-
  What the call of chaperonelaw.RunTexts answers.
-/
namespace Go.Proofs.YtnddkmccagiclabGreatDoor
open Go.RowKit
set_option maxRecDepth 20000 in
set_option maxHeartbeats 8000000 in
/-- RunTexts. -/
theorem runTexts_any (s : ByteArray) (hm : s.size ≤ 9223372036854775807) (f : Int) (w : World) (hg : Gl w) (hta : Ta w) : Calls Tryz.prog 10 #[.string s, .int .i64 f] w fun e w' => e = .returned (.bool true) ∧ Below w.heap.size w w' := by
  obtain ⟨P, hP⟩ : ∃ P, textR s f = P := ⟨_, rfl⟩
  have HC1 : Hid (Calls Tryz.prog 17 #[.string s, .int .i64 f] w (OutPost P w)) := by
    have := textFn_any s hm f w hg
    rw [hP] at this
    exact this
  have HC2 : Hid (∀ W, Below w.heap.size w W → Calls Tryz.prog 24 #[.string s, .int .i64 f] W (OutPost P W)) := fun W hb => by
    have := lawText_any s f W (hta.below hb)
    rw [hP] at this
    exact this
  have HC3 : Hid (∀ W, Below w.heap.size w W → Calls Tryz.prog 23 #[] W fun e w' => e = .returned (.bool true) ∧ Below W.heap.size W w') := fun W hb => runs_any W (hg.below hb)
  clear hm hg hta hP
  go_enter Tryz.func10, Tryz.ntmps10
  go_wp2_with fail
  refine HC1.out.mono ?_
  rintro e w4 ⟨rfl, hb4⟩
  obtain ⟨W5, hW5⟩ : ∃ V, V = w4.alloc (.cells #[.int .i64 P.1.k, .int .i64 P.1.n, .bool P.1.b] 29) := ⟨_, rfl⟩
  have hbW5 : Below w4.heap.size w4 W5 := by rw [hW5]; exact (Below.refl _ _).alloc (Nat.le_refl _) _
  have HW5 : Hid (Below w.heap.size w W5) := hb4.trans (hbW5.mono hb4.size)
  have HO1 : Hid (∀ W, Below W5.heap.size W5 W → W.cell? ⟨w4.heap.size, 0, none⟩ = some (.int .i64 P.1.k) ∧ W.cell? ⟨w4.heap.size, 1, none⟩ = some (.int .i64 P.1.n) ∧ W.cell? ⟨w4.heap.size, 2, none⟩ = some (.bool P.1.b)) := fun W hb => by
    have q0 : W5.cell? ⟨w4.heap.size, 0, none⟩ = some (.int .i64 P.1.k) := by rw [hW5]; simp [go_sem]
    have q1 : W5.cell? ⟨w4.heap.size, 1, none⟩ = some (.int .i64 P.1.n) := by rw [hW5]; simp [go_sem]
    have q2 : W5.cell? ⟨w4.heap.size, 2, none⟩ = some (.bool P.1.b) := by rw [hW5]; simp [go_sem]
    exact ⟨cell_later hb q0, cell_later hb q1, cell_later hb q2⟩
  clear hb4 hbW5 HC1
  go_upto_region 2 with fail
  rw [← hW5]
  clear hW5
  go_wp2_with fail
  refine (HC2.out W5 HW5.out).mono ?_
  rintro e w6 ⟨rfl, hb6⟩
  obtain ⟨W7, hW7⟩ : ∃ V, V = w6.alloc (.cells #[.int .i64 P.1.k, .int .i64 P.1.n, .bool P.1.b] 29) := ⟨_, rfl⟩
  have hbW7 : Below w6.heap.size w6 W7 := by rw [hW7]; exact (Below.refl _ _).alloc (Nat.le_refl _) _
  have HW57 : Hid (Below W5.heap.size W5 W7) := hb6.trans (hbW7.mono hb6.size)
  have HW7 : Hid (Below w.heap.size w W7) := HW5.out.trans (HW57.out.mono HW5.out.size)
  obtain ⟨a0, a1, a2⟩ := HO1.out W7 HW57.out
  have d0 : W7.cell? ⟨w6.heap.size, 0, none⟩ = some (.int .i64 P.1.k) := by rw [hW7]; simp [go_sem]
  have d1 : W7.cell? ⟨w6.heap.size, 1, none⟩ = some (.int .i64 P.1.n) := by rw [hW7]; simp [go_sem]
  have d2 : W7.cell? ⟨w6.heap.size, 2, none⟩ = some (.bool P.1.b) := by rw [hW7]; simp [go_sem]
  clear hb6 hbW7 HC2 HO1 HW57 HW5
  go_upto_region 3 with fail
  rw [← hW7]
  clear hW7
  go_wp2_with fail
  refine (HC3.out W7 HW7.out).mono ?_
  rintro e w8 ⟨rfl, hb8⟩
  have HB8 : Hid (Below w.heap.size w w8) := HW7.out.trans (hb8.mono HW7.out.size)
  clear hb8 HC3 HW7 a0 a1 a2 d0 d1 d2
  go_wp2_with fail
  refine bodyPost_ret (v := .bool true) ?_ rfl ⟨rfl, HB8.out⟩
  simp [results, Tryz.results10, go_sem]
end Go.Proofs.YtnddkmccagiclabGreatDoor

/-
  Whatever can be read as data of the type 'Type{Kind int, L []Type}' is a tree that lies in memory.
-/
namespace Go.Proofs.YtnddkmccagiclabGreatDoor
open Go.ChangeShapes Go.WideShapes Go.ChangeAt Go.RowKit
theorem Tryz.cells24 : Tryz.prog.cellsOf 24 = 2 := by kernel_rfl
theorem Tryz.cells22 : Tryz.prog.cellsOf 22 = 1 := by kernel_rfl
theorem Tryz.cells3 : Tryz.prog.cellsOf 3 = 1 := by kernel_rfl
theorem cell_spot {w : World} {a : Addr} {v : Value} (h : w.cell? a = some v) : a = ⟨a.block, a.off, none⟩ := by
  obtain ⟨b, o, s⟩ := a
  cases s with
  | none => rfl
  | some s =>
    unfold World.cell? at h
    split at h <;> simp at h
theorem cellsTwo {w : World} {base : Nat} {a : Addr} {u v : Value} (h : w.cells? base a 2 = some [u, v]) : w.cell? a = some u ∧ w.cell? (a.add 1) = some v := by
  unfold World.cells? at h
  split at h
  · have h0 : a.add 0 = a := by simp [Addr.add]
    simp only [List.range_succ, List.range_zero, List.nil_append, List.cons_append, List.mapM_cons, List.mapM_nil, h0] at h
    cases hu : w.cell? a with
    | none => simp [hu] at h
    | some u' =>
      cases hv : w.cell? (a.add 1) with
      | none => simp [hu, hv] at h
      | some v' =>
        simp [hu, hv] at h
        exact ⟨by rw [h.1], by rw [h.2]⟩
  · cases h
end Go.Proofs.YtnddkmccagiclabGreatDoor

/-
  Whatever can be read as data of the type 'Term' is a term's tree that lies in memory.
-/
namespace Go.Proofs.YtnddkmccagiclabGreatDoor
open Go.ChangeShapes Go.WideShapes Go.ChangeAt Go.RowKit
theorem Tryz.cells27 : Tryz.prog.cellsOf 27 = 7 := by kernel_rfl
theorem Tryz.cells25 : Tryz.prog.cellsOf 25 = 1 := by kernel_rfl
theorem cells_seven {w : World} {base : Nat} {a : Addr} {l : List Value} (h : w.cells? base a 7 = some l) : ∀ i, i < 7 → w.cell? (a.add i) = l[i]? := by
  unfold World.cells? at h
  split at h
  · intro i hi
    have hm := Lib.mapM_at h i i (by simp [hi])
    obtain ⟨b, hb, hf⟩ := hm
    rw [hb]
    exact hf
  · cases h
end Go.Proofs.YtnddkmccagiclabGreatDoor

/-
  What the row's list of package-level variables gives: the tables hold what they were laid with.
-/
namespace Go.Proofs.YtnddkmccagiclabGreatDoor
open Go.ChangeShapes Go.RowKit
/-- The head of the list. -/
theorem laid_head {n : String} {d : DataW Unit} {r : List (String × DataW Unit)} {W : World} {g t : Nat} (h : laidMet Tryz.prog ((n, d) :: r) W) (hg : Tryz.prog.globalNamed n = some g) (ht : (Tryz.prog.globals[g]?).map (·.type) = some t) :
    ∃ (cs : Array Value) (fuel : Nat) (p : List MemPlace), Vc W g cs ∧ DataW.trod (fun _ => ()) Tryz.prog W 0 (fun _ => true) false fuel t cs.toList = some (d, p) := by
  obtain ⟨ps, ⟨g', t', cs, fuel, p, q, hg', ht', hvar, hd, _, _⟩, _⟩ := h
  obtain rfl := Option.some.inj (hg.symm.trans hg')
  obtain rfl := Option.some.inj (ht.symm.trans ht')
  refine ⟨cs, fuel, p, ?_, hd⟩
  unfold World.var? at hvar
  rw [hg] at hvar
  simp only [Option.bind_some] at hvar
  split at hvar
  · rename_i cs' t fr hh
    cases hvar
    exact ⟨t, fr, hh⟩
  · cases hvar
/-- An array of texts that reads as these texts holds them. -/
theorem cells_of_strs {W : World} {fuel t n : Nat} {cs : List Value} {ss : List (List UInt8)} {p : List MemPlace}
    (ht : Tryz.prog.underlying t = some (.array n 9)) (hct : Tryz.prog.cellsOf t = n)
    (h : DataW.trod (fun _ => ()) Tryz.prog W 0 (fun _ => true) false fuel t cs = some (.agg (ss.map fun s => .lit (.string s)), p)) : cs = ss.map fun s => Value.string ⟨s.toArray⟩ := by
  have hce : Tryz.prog.cellsOf 9 = 1 := by kernel_rfl
  cases fuel with
  | zero => simp [DataW.trod] at h
  | succ fuel =>
    simp only [DataW.trod, ht, hce, hct, Nat.mul_one] at h
    split at h
    · rename_i hl
      obtain ⟨xs, hm, hx⟩ := Option.map_eq_some_iff.1 h
      have hxs : xs.map (·.1) = ss.map fun s => (DataW.lit (.string s) : DataW Unit) := by
        have := congrArg Prod.fst hx
        simpa using this
      have hxl : xs.length = n := by simpa using Lib.mapM_length hm
      have hzl : ss.length = n := by
        have := congrArg List.length hxs
        simp at this
        omega
      apply List.ext_getElem?
      intro i
      by_cases hi : i < n
      · obtain ⟨b, hb, hf⟩ := Lib.mapM_at hm i i (by simp [hi])
        obtain ⟨s, hc, rfl, _⟩ := DataW.trod_string Tryz.underlying9 hf
        have h1 : cs[i]? = some (.string s) := by
          have := congrArg (·[0]?) hc
          simpa [List.getElem?_take, List.getElem?_drop] using this
        have h2 : (xs.map (·.1))[i]? = some (DataW.lit (.string s.data.toList) : DataW Unit) := by simp [hb]
        rw [hxs] at h2
        simp only [List.getElem?_map, Option.map_eq_some_iff, DataW.lit.injEq, Lit.string.injEq] at h2
        obtain ⟨s', hs', e⟩ := h2
        simp only [List.getElem?_map, hs', Option.map_some, h1, e]
      · rw [List.getElem?_eq_none (by omega), List.getElem?_eq_none (by simp; omega)]
    · cases h
theorem cells84 : Tryz.prog.cellsOf 84 = 2 := by kernel_rfl
theorem cells85 : Tryz.prog.cellsOf 180 = 10 := by kernel_rfl
theorem cells122 : Tryz.prog.cellsOf 145 = 10 := by kernel_rfl
theorem cells123 : Tryz.prog.cellsOf 209 = 3 := by kernel_rfl
theorem cells166 : Tryz.prog.cellsOf 265 = 20 := by kernel_rfl
theorem cells3' : Tryz.prog.cellsOf 3 = 1 := by kernel_rfl
theorem cells152 : Tryz.prog.cellsOf 233 = 1 := by kernel_rfl
theorem vc_list {W : World} {g : Nat} {cs : Array Value} {l : List Value} (h : Vc W g cs) (e : cs.toList = l) : Vc W g l.toArray := by
  rw [← e]; exact h
theorem gl_parts {r : List (String × DataW Unit)} {W : World} (h : laidMet Tryz.prog (("chaperone/term.parts", Rows.laid_chaperone_term_parts) :: r) W) :
    Vc W 0 #[.int .i64 0, .int .i64 0, .int .i64 0, .int .i64 0, .int .i64 2, .int .i64 2, .int .i64 3, .int .i64 1, .int .i64 2, .int .i64 1] := by
  obtain ⟨cs, fuel, p, hv, ht⟩ := laid_head h (g := 0) (t := 145) (by kernel_rfl) (by kernel_rfl)
  exact vc_list hv (Lib.cells_of_tab (zs := [0, 0, 0, 0, 2, 2, 3, 1, 2, 1]) Tryz.underlying145 Tryz.underlying3 cells3' cells122 ht)
theorem gl_truth {r : List (String × DataW Unit)} {W : World} (h : laidMet Tryz.prog (("chaperone/term.truthWords", Rows.laid_chaperone_term_truthWords) :: r) W) :
    Vc W 1 #[.string ⟨#[110, 111]⟩, .string ⟨#[121, 101, 115]⟩] := by
  obtain ⟨cs, fuel, p, hv, ht⟩ := laid_head h (g := 1) (t := 84) (by kernel_rfl) (by kernel_rfl)
  exact vc_list hv (cells_of_strs (ss := [[110, 111], [121, 101, 115]]) Tryz.underlying84 cells84 ht)
theorem gl_words {r : List (String × DataW Unit)} {W : World} (h : laidMet Tryz.prog (("chaperone/term.words", Rows.laid_chaperone_term_words) :: r) W) :
    Vc W 2 #[.string ⟨#[]⟩, .string ⟨#[]⟩, .string ⟨#[]⟩, .string ⟨#[]⟩, .string ⟨#[97, 100, 100]⟩, .string ⟨#[108, 101, 115, 115]⟩, .string ⟨#[105, 102]⟩, .string ⟨#[102, 117, 110]⟩, .string ⟨#[99, 97, 108, 108]⟩, .string ⟨#[97, 115]⟩] := by
  obtain ⟨cs, fuel, p, hv, ht⟩ := laid_head h (g := 2) (t := 180) (by kernel_rfl) (by kernel_rfl)
  exact vc_list hv (cells_of_strs (ss := [[], [], [], [], [97, 100, 100], [108, 101, 115, 115], [105, 102], [102, 117, 110], [99, 97, 108, 108], [97, 115]]) Tryz.underlying180 cells85 ht)
theorem gl_types {r : List (String × DataW Unit)} {W : World} (h : laidMet Tryz.prog (("chaperone/term.typeWords", Rows.laid_chaperone_term_typeWords) :: r) W) :
    Vc W 4 #[.string ⟨#[97, 110, 121]⟩, .string ⟨#[110, 117, 109]⟩, .string ⟨#[116, 114, 117, 116, 104]⟩] := by
  obtain ⟨cs, fuel, p, hv, ht⟩ := laid_head h (g := 4) (t := 209) (by kernel_rfl) (by kernel_rfl)
  exact vc_list hv (cells_of_strs (ss := [[97, 110, 121], [110, 117, 109], [116, 114, 117, 116, 104]]) Tryz.underlying209 cells123 ht)
theorem gl_pow {r : List (String × DataW Unit)} {W : World} (h : laidMet Tryz.prog (("internal/strconv.uint64pow10", Rows.laid_internal_strconv_uint64pow10) :: r) W) :
    Vc W 11 (Lib.pow10Tab.map fun z => Value.int .u64 z).toArray := by
  obtain ⟨cs, fuel, p, hv, ht⟩ := laid_head h (g := 11) (t := 265) (by kernel_rfl) (by kernel_rfl)
  exact vc_list hv (Lib.cells_of_tab (zs := Lib.pow10Tab) Tryz.underlying265 Tryz.underlying233 cells152 cells166 ht)
theorem gl_err {n nm : String} {g : Nat} {d : DataW Unit} {r : List (String × DataW Unit)} {W : World} (h : laidMet Tryz.prog ((n, .iface nm d) :: r) W) (hg : Tryz.prog.globalNamed n = some g) (ht : (Tryz.prog.globals[g]?).map (·.type) = some 153) : ∃ te pe, Vc W g #[.iface te pe] := by
  obtain ⟨cs, fuel, p, hv, hd⟩ := laid_head h hg ht
  obtain ⟨_, u, v, hc, _⟩ := iface_of_trod Tryz.underlying153 hd
  exact ⟨u, v, vc_list hv hc⟩
theorem gl_max {W : World} (h : W.ShapedOpen Tryz.prog) : ∃ m, Vc W 6 #[.int .i64 m] := by
  obtain ⟨m, hm⟩ := Tryz.laysM155.s1_3 W h
  have hm' : W.cell? ⟨6, 0, none⟩ = some (.int .i64 m) := hm
  obtain ⟨cs, hh, hs, _⟩ := h.1 6 #[.int .i64 0] 3 (by show 6 < 15; omega) (by kernel_rfl)
  refine ⟨m, ?_⟩
  have hs1 : cs.size = 1 := hs
  have hc : W.cell? ⟨6, 0, none⟩ = cs[0]? := cell_of_row W 6 0 cs _ _ hh
  rw [hc] at hm'
  have e : cs = #[.int .i64 m] := by
    apply Array.ext
    · simpa using hs1
    · intro i h1 h2
      obtain rfl : i = 0 := by omega
      have := Array.getElem?_eq_some_iff.1 hm'
      simpa using this.2
  rw [← e]
  exact ⟨_, _, hh⟩
/-- The tables, at the rows of the laws of the whole. -/
theorem gl_rows {W : World} (h' : laidMet Tryz.prog [("math/bits.deBruijn32tab", Rows.laid_math_bits_deBruijn32tab), ("math/bits.deBruijn64tab", Rows.laid_math_bits_deBruijn64tab), ("internal/strconv.uint64pow10", Rows.laid_internal_strconv_uint64pow10), ("unicode/utf8.acceptRanges", Rows.laid_unicode_utf8_acceptRanges), ("strconv.ErrRange", Rows.laid_strconv_ErrRange), ("strconv.ErrSyntax", Rows.laid_strconv_ErrSyntax), ("chaperone/term.words", Rows.laid_chaperone_term_words), ("chaperone/term.truthWords", Rows.laid_chaperone_term_truthWords), ("chaperone/term.typeWords", Rows.laid_chaperone_term_typeWords), ("chaperone/term.parts", Rows.laid_chaperone_term_parts), ("unicode/utf8.first", Rows.laid_unicode_utf8_first)] W) (hs : W.ShapedOpen Tryz.prog) : Gl W := by
  have h1 := h'.tail.tail
  have h2 := h1.tail.tail
  have h3 := h2.tail
  have h4 := h3.tail
  have h5 := h4.tail
  have h6 := h5.tail
  have h7 := h6.tail
  exact ⟨gl_truth h5, gl_words h4, gl_parts h7, gl_types h6, gl_pow h1, gl_max hs, gl_err h3 (by kernel_rfl) (by kernel_rfl), gl_err h2 (by kernel_rfl) (by kernel_rfl)⟩
end Go.Proofs.YtnddkmccagiclabGreatDoor

/-
  What the list of thirteen package-level variables gives: the tables hold what they were laid with, the table of ASCII's spaces among them.
-/
namespace Go.Proofs.YtnddkmccagiclabGreatDoor
open Go.ChangeShapes Go.RowKit
set_option maxRecDepth 100000 in
theorem gl_rows13 {W : World} (h' : laidMet Tryz.prog [("math/bits.deBruijn32tab", Rows.laid_math_bits_deBruijn32tab), ("math/bits.deBruijn64tab", Rows.laid_math_bits_deBruijn64tab), ("internal/strconv.uint64pow10", Rows.laid_internal_strconv_uint64pow10), ("unicode/utf8.acceptRanges", Rows.laid_unicode_utf8_acceptRanges), ("strconv.ErrRange", Rows.laid_strconv_ErrRange), ("strconv.ErrSyntax", Rows.laid_strconv_ErrSyntax), ("unicode.White_Space", Rows.laid_unicode_White_Space), ("strings.asciiSpace", Rows.laid_strings_asciiSpace), ("chaperone/term.words", Rows.laid_chaperone_term_words), ("chaperone/term.truthWords", Rows.laid_chaperone_term_truthWords), ("chaperone/term.typeWords", Rows.laid_chaperone_term_typeWords), ("chaperone/term.parts", Rows.laid_chaperone_term_parts), ("unicode/utf8.first", Rows.laid_unicode_utf8_first)] W) (hs : W.ShapedOpen Tryz.prog) : Gl W ∧ Ta W := by
  have h1 := h'.tail.tail
  have h2 := h1.tail.tail
  have h3 := h2.tail
  have hA := h3.tail.tail
  have h4 := hA.tail
  have h5 := h4.tail
  have h6 := h5.tail
  have h7 := h6.tail
  exact ⟨⟨gl_truth h5, gl_words h4, gl_parts h7, gl_types h6, gl_pow h1, gl_max hs, gl_err h3 (by kernel_rfl) (by kernel_rfl), gl_err h2 (by kernel_rfl) (by kernel_rfl)⟩,
    Lib.tabIs_of_head (g := 3) (t := 194) (e := 5) (n := 256) (zs := Lib.asciiSpaceTab) (by kernel_rfl) (by kernel_rfl) (by kernel_rfl) (by kernel_rfl) (by kernel_rfl) (by kernel_rfl) hA⟩
end Go.Proofs.YtnddkmccagiclabGreatDoor

/-
  That a list of laid variables is met, by a run; that no place is met twice is told by keys that grow, so that the run stays short.
-/
namespace Go.Proofs.YtnddkmccagiclabGreatDoor
/-- Each is greater than the one ahead of it. -/
def incB : List Nat → Bool
  | a :: b :: r => decide (a < b) && incB (b :: r)
  | _ => true
theorem inc_head {α : Type} (key : α → Nat) : ∀ (l : List α) (a : α), incB ((a :: l).map key) = true → ∀ b, b ∈ l → key a < key b
  | [], _, _, b, h => by cases h
  | c :: l, a, h, b, hb => by
    simp only [List.map_cons, incB, Bool.and_eq_true, decide_eq_true_eq] at h
    have h2 : incB ((c :: l).map key) = true := by simpa only [List.map_cons] using h.2
    rcases List.mem_cons.1 hb with rfl | hb
    · exact h.1
    · have := inc_head key l c h2 b hb
      omega
theorem inc_nodup {α : Type} (key : α → Nat) : ∀ l : List α, incB (l.map key) = true → l.Nodup
  | [], _ => List.nodup_nil
  | a :: l, h => by
    refine List.nodup_cons.2 ⟨fun hm => ?_, inc_nodup key l ?_⟩
    · have := inc_head key l a h a hm
      omega
    · cases l with
      | nil => rfl
      | cons b l =>
        simp only [List.map_cons, incB, Bool.and_eq_true] at h
        simpa only [List.map_cons] using h.2
/-- A place's key: the rank of its block, and where in it. -/
def keyAt (bs : List Nat) : MemPlace → Nat
  | .cell b off => bs.idxOf b * 1000 + off
  | .map _ => 0
theorem laidMet_of_key {P : Program} {w : World} {l : List (String × DataW Unit)} (fuel : Nat) (bs : List Nat) (h : (DataW.laidRun P w fuel (l.map (·.1))).map (·.1) = some l)
    (hr : (DataW.laidRun P w fuel (l.map (·.1))).map (fun x => incB (x.2.map (keyAt bs)) && laidRowsB P w x.2) = some true) : laidMet P l w := by
  cases hx : DataW.laidRun P w fuel (l.map (·.1)) with
  | none => simp [hx] at h
  | some x =>
    obtain ⟨l', ps⟩ := x
    simp only [hx, Option.map_some, Option.some.injEq] at h hr
    subst h
    simp only [Bool.and_eq_true] at hr
    exact laidMet_of_run fuel hx (decide_eq_true (inc_nodup _ _ hr.1)) hr.2
end Go.Proofs.YtnddkmccagiclabGreatDoor
