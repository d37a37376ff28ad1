/-
  The words of a text, byte by byte: what FieldsFunc at spaces and line ends gives of a text around whose brackets spaces were laid; no program in it.
-/
import Derived.Lib.SpaceUEq
import Derived.Lib.FieldsP
import Derived.Lib.Replace
import Derived.Lib.MapLaws
namespace Go.Proofs.YtibjnkpmnimgoaaDoor

def spB (c : UInt8) : Bool := c == 32 || c == 10
def spR (r : Nat) : Bool := r == 32 || r == 10

def flush (cur : List UInt8) : List (List UInt8) := if cur = [] then [] else [cur]

/-- The words between spaces. -/
def splitW (cur : List UInt8) : List UInt8 → List (List UInt8)
  | [] => flush cur
  | c :: r => if spB c = true then flush cur ++ splitW [] r else splitW (cur ++ [c]) r

theorem splitW_skip : ∀ (k : Nat) (cur l : List UInt8), k ≤ l.length → (∀ j, j < k → spB (l.getD j 0) = false) → splitW cur l = splitW (cur ++ l.take k) (l.drop k)
  | 0, cur, l, _, _ => by simp
  | k + 1, cur, [], h, _ => by simp at h
  | k + 1, cur, b :: t, h, hz => by
    have h0 := hz 0 (by omega)
    simp only [List.getD_cons_zero] at h0
    rw [splitW, if_neg (by simp [h0])]
    rw [splitW_skip k (cur ++ [b]) t (by simpa using h) (fun j hj => by have := hz (j + 1) (by omega); simpa using this)]
    simp

def curOf (s : ByteArray) (st : Option Nat) (pos : Nat) : List UInt8 :=
  match st with
  | none => []
  | some a => (s.data.toList.drop a).take (pos - a)

theorem curOf_ne (s : ByteArray) (a pos : Nat) (h : a < pos) (hp : pos ≤ s.size) : curOf s (some a) pos ≠ [] := by
  intro e
  have : (curOf s (some a) pos).length = 0 := by rw [e]; rfl
  have hl : s.data.toList.length = s.size := Array.length_toList
  simp only [curOf, List.length_take, List.length_drop, hl] at this
  omega

theorem spB_big (c : UInt8) (h : 128 ≤ c.toNat) : spB c = false := by
  simp only [spB, Bool.or_eq_false_iff, beq_eq_false_iff_ne]
  constructor
  · rintro rfl; simp at h
  · rintro rfl; simp at h

theorem spB_spR (c : UInt8) : spR c.toNat = spB c := by
  have e : ∀ n : UInt8, (c.toNat == n.toNat) = (c == n) := by
    intro n
    rw [Bool.eq_iff_iff, beq_iff_eq, beq_iff_eq]
    exact UInt8.toNat_inj
  have e1 := e 32
  have e2 := e 10
  simp only [spR, spB, ← e1, ← e2]
  rfl

theorem cur_step (s : ByteArray) (st : Option Nat) (pos k : Nat) (hst : ∀ a, st = some a → a < pos) :
    curOf s st pos ++ (s.data.toList.drop pos).take k = curOf s (some (st.getD pos)) (pos + k) := by
  cases st with
  | none =>
    simp only [curOf, Option.getD_none, List.nil_append]
    rw [show pos + k - pos = k by omega]
  | some a =>
    have := hst a rfl
    simp only [curOf, Option.getD_some]
    rw [show pos + k - a = (pos - a) + k by omega, List.take_add, List.drop_drop, show a + (pos - a) = pos by omega]

def bytesOf (s : ByteArray) (x : Nat × Nat) : List UInt8 := (s.data.toList.drop x.1).take (x.2 - x.1)

theorem spans_end (s : ByteArray) (f pos : Nat) (st : Option Nat) (acc : List (Nat × Nat)) (hp : pos ≤ s.size) (hlt : ¬ pos < s.size) (hst : ∀ a, st = some a → a < pos) :
    (Lib.closeSpans s (Lib.spansFromP spR s f pos st acc)).map (bytesOf s) = acc.map (bytesOf s) ++ splitW (curOf s st pos) (s.data.toList.drop pos) := by
  have hl : s.data.toList.length = s.size := Array.length_toList
  have e : pos = s.size := by omega
  rw [Lib.spansFromP_end spR s f pos st acc hlt]
  rw [List.drop_eq_nil_of_le (by rw [hl]; omega), splitW]
  cases st with
  | none => simp [Lib.closeSpans, curOf, flush]
  | some a =>
    rw [flush, if_neg (curOf_ne s a pos (hst a rfl) hp)]
    simp [Lib.closeSpans, curOf, bytesOf, e]

theorem spans_split (s : ByteArray) : ∀ (f pos : Nat) (st : Option Nat) (acc : List (Nat × Nat)), pos ≤ s.size → s.size ≤ pos + f → (∀ a, st = some a → a < pos) →
    (Lib.closeSpans s (Lib.spansFromP spR s f pos st acc)).map (bytesOf s) = acc.map (bytesOf s) ++ splitW (curOf s st pos) (s.data.toList.drop pos)
  | 0, pos, st, acc, hp, hf, hst => spans_end s 0 pos st acc hp (by omega) hst
  | f + 1, pos, st, acc, hp, hf, hst => by
    have hl : s.data.toList.length = s.size := Array.length_toList
    by_cases hlt : pos < s.size
    · have hd := Lib.decode_N s pos
      generalize hR : Utf8.decode s pos = D at hd
      have hyes : spR D.1 = true → Lib.spansFromP spR s (f + 1) pos st acc = Lib.spansFromP spR s f (pos + D.2) none (acc ++ (st.map fun a => (a, pos)).toList) := by
        intro h
        cases st <;> simp [Lib.spansFromP, hlt, hR, h]
      have hno : spR D.1 = false → Lib.spansFromP spR s (f + 1) pos st acc = Lib.spansFromP spR s f (pos + D.2) (some (st.getD pos)) acc := by
        intro h
        cases st <;> simp [Lib.spansFromP, hlt, hR, h]
      have hg : s.data.toList.drop pos = s.data.toList.getD pos 0 :: s.data.toList.drop (pos + 1) := by
        rw [List.drop_eq_getElem_cons (by rw [hl]; exact hlt)]
        simp [List.getD_eq_getElem?_getD, hl, hlt]
      have hge : ∀ j, (s.data.toList.drop pos).getD j 0 = s.data.toList.getD (pos + j) 0 := by
        intro j; simp [List.getD_eq_getElem?_getD, List.getElem?_drop]
      have hcon := Lib.decodeN_conts (s.data.toList.length - pos) (s.data.toList.getD pos 0).toNat (s.data.toList.getD (pos + 1) 0).toNat (s.data.toList.getD (pos + 2) 0).toNat (s.data.toList.getD (pos + 3) 0).toNat
      have hge1 := Lib.decodeN_ge1 (s.data.toList.length - pos) (s.data.toList.getD pos 0).toNat (s.data.toList.getD (pos + 1) 0).toNat (s.data.toList.getD (pos + 2) 0).toNat (s.data.toList.getD (pos + 3) 0).toNat
      have hsh := Lib.decodeN_shape (s.data.toList.length - pos) (s.data.toList.getD pos 0).toNat (s.data.toList.getD (pos + 1) 0).toNat (s.data.toList.getD (pos + 2) 0).toNat (s.data.toList.getD (pos + 3) 0).toNat
      rw [← hd] at hcon hge1 hsh
      -- a step that goes on with the word
      have go : ∀ k, D.2 = k → spR D.1 = false → pos + k ≤ s.size → (∀ j, j < k → spB (s.data.toList.getD (pos + j) 0) = false) → 1 ≤ k →
          (Lib.closeSpans s (Lib.spansFromP spR s (f + 1) pos st acc)).map (bytesOf s) = acc.map (bytesOf s) ++ splitW (curOf s st pos) (s.data.toList.drop pos) := by
        intro k hk hs hpk hz h1
        rw [hno hs, hk]
        have ih := spans_split s f (pos + k) (some (st.getD pos)) acc hpk (by omega) (by
          intro a ha
          cases st with
          | none => simp at ha; omega
          | some b => have := hst b rfl; simp at ha; omega)
        rw [splitW_skip k (curOf s st pos) (s.data.toList.drop pos) (by simp [hl]; omega) (fun j hj => by rw [hge]; exact hz j hj), cur_step s st pos k hst, List.drop_drop, ← ih]
      rcases hsh with ⟨hb, he⟩ | ⟨hb, hn, hb1, hb2, he⟩ | ⟨hb, hn, hb1, hb2, hb3, _, he⟩ | ⟨hb, hn, hb1, hb2, hb3, hb4, _, he⟩ | he
      · by_cases hs : spB (s.data.toList.getD pos 0) = true
        · have hr : spR D.1 = true := by rw [he]; exact (spB_spR _).trans hs
          rw [hyes hr, he]
          rw [hg, splitW, if_pos hs]
          cases st with
          | none =>
            rw [spans_split s f (pos + 1) none _ (by omega) (by omega) (by intro a h; cases h)]
            simp [curOf, flush]
          | some a =>
            have ha := hst a rfl
            rw [spans_split s f (pos + 1) none _ (by omega) (by omega) (by intro a h; cases h)]
            rw [flush, if_neg (curOf_ne s a pos ha hp)]
            simp [curOf, bytesOf]
        · have hs' : spB (s.data.toList.getD pos 0) = false := by simpa using hs
          exact go 1 (by rw [he]) (by rw [he]; exact (spB_spR _).trans hs') (by omega) (fun j hj => by rw [show j = 0 by omega]; exact hs') (by omega)
      · refine go 2 (by rw [he]) ?_ (by omega) (fun j hj => ?_) (by omega)
        · rw [he]; simp only [spR, Bool.or_eq_false_iff, beq_eq_false_iff_ne]; omega
        · refine spB_big _ ?_
          obtain rfl | rfl : j = 0 ∨ j = 1 := by omega
          · show 128 ≤ (s.data.toList.getD pos 0).toNat; omega
          · omega
      · refine go 3 (by rw [he]) ?_ (by omega) (fun j hj => ?_) (by omega)
        · rw [he]; simp only [spR, Bool.or_eq_false_iff, beq_eq_false_iff_ne]; omega
        · refine spB_big _ ?_
          obtain rfl | rfl | rfl : j = 0 ∨ j = 1 ∨ j = 2 := by omega
          · show 128 ≤ (s.data.toList.getD pos 0).toNat; omega
          · omega
          · omega
      · refine go 4 (by rw [he]) ?_ (by omega) (fun j hj => ?_) (by omega)
        · rw [he]; simp only [spR, Bool.or_eq_false_iff, beq_eq_false_iff_ne]; omega
        · refine spB_big _ ?_
          obtain rfl | rfl | rfl | rfl : j = 0 ∨ j = 1 ∨ j = 2 ∨ j = 3 := by omega
          · show 128 ≤ (s.data.toList.getD pos 0).toNat; omega
          · omega
          · omega
          · omega
      · by_cases hb : (s.data.toList.getD pos 0).toNat < 128
        · have e2 := Lib.decodeN_ascii (s.data.toList.length - pos) _ (s.data.toList.getD (pos + 1) 0).toNat (s.data.toList.getD (pos + 2) 0).toNat (s.data.toList.getD (pos + 3) 0).toNat hb
          rw [← hd, he] at e2
          have := congrArg Prod.fst e2
          simp only at this
          omega
        · refine go 1 (by rw [he]) (by rw [he]; rfl) (by omega) (fun j hj => ?_) (by omega)
          rw [show j = 0 by omega]
          exact spB_big _ (by show 128 ≤ (s.data.toList.getD pos 0).toNat; omega)
    · exact spans_end s (f + 1) pos st acc hp hlt hst

end Go.Proofs.YtibjnkpmnimgoaaDoor
