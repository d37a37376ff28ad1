/-
  What the calls of term.isSpace and term.cut answer: the words of a text.
-/
import Derived.Test.YtibjnkpmnimgoaaDoorLook
import Derived.Test.YtibjnkpmnimgoaaDoorShelf
namespace Go.Proofs.YtibjnkpmnimgoaaDoor
open Go.RowKit

theorem replaceK_skip (c b : UInt8) (new : List UInt8) (h : b ≠ c) : ∀ (n : Nat) (l : List UInt8), n ≤ Lib.count l [c] → Lib.replaceK [c] new n (b :: l) = b :: Lib.replaceK [c] new n l
  | 0, l, _ => rfl
  | n + 1, l, hn => by
    obtain ⟨j, hj⟩ := Lib.index_of_count (s := l) (old := [c]) (by omega)
    have hp : ([c] : List UInt8).isPrefixOf (b :: l) = false := by simp [List.isPrefixOf, Ne.symm h]
    have hj' : Lib.index (b :: l) [c] = ((j + 1 : Nat) : Int) := by
      rw [Lib.index, hp]
      simp only [Bool.false_eq_true, if_false]
      rw [if_neg (by rw [hj]; simp), hj]
      omega
    rw [Lib.replaceK_hit _ _ _ _ _ hj', Lib.replaceK_hit _ _ _ _ _ hj]
    have e : j + 1 + [c].length = (j + [c].length) + 1 := by omega
    rw [e, List.take_succ_cons, List.drop_succ_cons]
    rfl

theorem replaceK_around (c : UInt8) : ∀ s : List UInt8, Lib.replaceK [c] [32, c, 32] (Lib.count s [c]) s = around c s
  | [] => by rw [Lib.count_one]; rfl
  | b :: l => by
    by_cases h : b = c
    · subst h
      have hi : Lib.index (b :: l) [b] = ((0 : Nat) : Int) := by rw [Lib.index]; simp [List.isPrefixOf]
      rw [Lib.count_cons_eq, Nat.add_comm, Lib.replaceK_hit _ _ _ _ _ hi, around_cons, if_pos rfl]
      have e : 0 + [b].length = 0 + 1 := rfl
      rw [e, List.drop_succ_cons, List.drop_zero, replaceK_around b l]
      simp
    · rw [Lib.count_cons_ne b c l h, replaceK_skip c b _ h _ l (Nat.le_refl _), replaceK_around c l, around_cons, if_neg h]
      rfl

theorem replaceAll_around (c : UInt8) (s : List UInt8) : Lib.replaceAll s [c] [32, c, 32] = around c s := by
  have hne : ([c] == [32, c, 32]) = false := by simp
  have hn : Lib.replaceNum s [c] (-1) = Lib.count s [c] := by rw [Lib.replaceNum, if_pos (.inl (by omega))]
  rw [Lib.replaceAll, Lib.replace, hne, hn]
  exact replaceK_around c s

theorem around_len (c : UInt8) : ∀ s : List UInt8, (around c s).length ≤ 3 * s.length
  | [] => by simp [around]
  | x :: s => by
    rw [around_cons]
    have := around_len c s
    split <;> simp <;> omega

/-- The words of a text. -/
def wordsOf (s : List UInt8) : List ByteArray := (tokW [] s).map bw

theorem fields_words (s : List UInt8) : Lib.goFieldsP spR (bw (around 41 (around 40 s))) = wordsOf s := by
  have h := spans_split (bw (around 41 (around 40 s))) (bw (around 41 (around 40 s))).size 0 none [] (Nat.zero_le _) (by omega) (by intro a h; cases h)
  simp only [List.map_nil, List.nil_append, curOf, List.drop_zero, bw_data] at h
  rw [split_tok] at h
  rw [wordsOf, ← h, Lib.goFieldsP, Lib.spansOfP, List.map_map]
  refine List.map_congr_left fun x _ => ?_
  show _ = bw (bytesOf _ x)
  have e : ((bw (around 41 (around 40 s))).extract x.1 x.2).data.toList = bytesOf (bw (around 41 (around 40 s))) x := by
    rw [Lib.extract_data]
    rfl
  rw [← e]
  rfl

set_option maxHeartbeats 400000 in
/-- term.isSpace. -/
theorem isSpace_any (x : Nat) (w : World) : Calls Tryd.prog 56 #[.int .i32 (x : Int)] w fun e w' => e = .returned (.bool (spR x)) ∧ w' = w := by
  have e1 : ((x : Int) == 32) = (x == 32) := by rw [Bool.eq_iff_iff]; simp; omega
  have e2 : ((x : Int) == 10) = (x == 10) := by rw [Bool.eq_iff_iff]; simp; omega
  cases h : (x == 32) with
  | true =>
    rw [h] at e1
    have HO : Hid (spR x = true) := by show _ = _; simp [spR, h]
    clear e2 h
    go_enter Tryd.func56, Tryd.ntmps56
    go_wp2_with fail
    go_ret
    exact ⟨by rw [HO.out]; rfl, rfl⟩
  | false =>
    rw [h] at e1
    have HO : Hid (spR x = (x == 10)) := by show _ = _; simp [spR, h]
    have HE : Hid (((x : Int) == 10) = (x == 10)) := e2
    clear e2 h
    go_enter Tryd.func56, Tryd.ntmps56
    go_wp2_with fail
    go_ret
    exact ⟨by rw [HO.out, ← HE.out]; rfl, rfl⟩

theorem sp_open : (({ data := #[32] } ++ { data := #[40] } ++ { data := #[32] } : ByteArray)) = ⟨#[32, 40, 32]⟩ := by decide
theorem sp_close : (({ data := #[32] } ++ { data := #[41] } ++ { data := #[32] } : ByteArray)) = ⟨#[32, 41, 32]⟩ := by decide

theorem repl_any (c : UInt8) (s new : ByteArray) (hnew : new = ⟨#[32, c, 32]⟩) (hs : s.size ≤ 100000) (w : World) (hg : Gl w) :
    Calls Tryd.prog 54 #[.string s, .string ⟨#[c]⟩, .string new] w fun e w' => e = .returned (.string (bw (around c s.data.toList))) ∧ Below w.heap.size w w' := by
  obtain ⟨m, hm⟩ := hg.mx
  have hc := hm.cell 0
  have hcb := Lib.countB_le ⟨#[c]⟩ (by show 1 ≤ 1; omega) s.size s (Nat.le_refl _)
  have hns : new.size = 3 := by rw [hnew]; rfl
  have h := Tryd.strings_ReplaceAll s ⟨#[c]⟩ new m w (by omega) (by simpa using hc) (by show 1 ≤ 1; omega) (by rw [hns]; omega)
  have e : Lib.replaceAll s.data.toList (⟨#[c]⟩ : ByteArray).data.toList new.data.toList = around c s.data.toList := by rw [hnew]; exact replaceAll_around c _
  rw [e] at h
  exact h

set_option maxRecDepth 20000 in
set_option maxHeartbeats 1000000 in
/-- term.cut. -/
theorem cut_any (s : ByteArray) (hs : s.size ≤ 1000) (w : World) (hg : Gl w) :
    Calls Tryd.prog 34 #[.string s] w fun e w' => ∃ A, e = .returned (.slice (some ⟨A, 0, none⟩) (wordsOf s.data.toList).length (wordsOf s.data.toList).length) ∧ w.heap.size ≤ A ∧
      w'.ownsRow w.heap.size 9 1 (.slice (some ⟨A, 0, none⟩) (wordsOf s.data.toList).length (wordsOf s.data.toList).length) (wordsOf s.data.toList).length ((wordsOf s.data.toList).map Value.string) ∧ Below w.heap.size w w' := by
  have x0 := idx84_0 (.string ⟨#[40]⟩) (.string ⟨#[41]⟩)
  have x1 := idx84_1 (.string ⟨#[40]⟩) (.string ⟨#[41]⟩)
  go_enter Tryd.func34, Tryd.ntmps34
  go_wp2_with fail
  go_loopg [0, 6] 2 (fun k v i wr => ∃ j : Nat, k + j = 2 ∧ i = .int .i64 (j : Int) ∧ Below w.heap.size w wr ∧ ((j = 0 ∧ v = .string s ∧ wr = w) ∨ (j = 1 ∧ v = .string (bw (around 40 s.data.toList))) ∨ (j = 2 ∧ v = .string (bw (around 41 (around 40 s.data.toList))))))
  case atStart => exact ⟨0, rfl, rfl, Below.refl _ _, .inl ⟨rfl, rfl, rfl⟩⟩
  case round =>
    obtain ⟨j, hj, rfl, hb, ⟨rfl, rfl, rfl⟩ | ⟨rfl, rfl⟩ | ⟨rfl, rfl⟩⟩ := hrel
    · have HR : Hid (Calls Tryd.prog 54 #[.string s, .string ⟨#[40]⟩, .string (⟨#[32]⟩ ++ ⟨#[40]⟩ ++ ⟨#[32]⟩)] wr fun e w' => e = .returned (.string (bw (around 40 s.data.toList))) ∧ Below wr.heap.size wr w') := repl_any 40 s _ sp_open (by omega) wr hg
      clear hg
      go_wp2_with fail
      refine HR.out.mono ?_
      rintro e w1 ⟨rfl, hb1⟩
      go_wp2_with fail
      go_roundg 1
      case measure => omega
      case rel => exact ⟨1, rfl, rfl, hb1, .inr (.inl ⟨rfl, rfl⟩)⟩
    · have hl := around_len 40 s.data.toList
      have hsl : s.data.toList.length = s.size := Array.length_toList
      have hsz : (bw (around 40 s.data.toList)).size ≤ 3000 := by show (around 40 s.data.toList).toArray.size ≤ 3000; simp; omega
      have HR : Hid (Calls Tryd.prog 54 #[.string (bw (around 40 s.data.toList)), .string ⟨#[41]⟩, .string (⟨#[32]⟩ ++ ⟨#[41]⟩ ++ ⟨#[32]⟩)] wr fun e w' => e = .returned (.string (bw (around 41 (around 40 s.data.toList)))) ∧ Below wr.heap.size wr w') := repl_any 41 (bw (around 40 s.data.toList)) _ sp_close (by omega) wr (hg.below hb)
      clear hg hl hsl hsz
      go_wp2_with fail
      refine HR.out.mono ?_
      rintro e w1 ⟨rfl, hb1⟩
      have hb2 := hb.trans (hb1.mono hb.size)
      clear hb1 hb
      go_wp2_with fail
      go_roundg 0
      case measure => omega
      case rel => exact ⟨2, rfl, rfl, hb2, .inr (.inr ⟨rfl, rfl⟩)⟩
    · have hl := around_len 40 s.data.toList
      have hl2 := around_len 41 (around 40 s.data.toList)
      have hsl : s.data.toList.length = s.size := Array.length_toList
      have hsz : (bw (around 41 (around 40 s.data.toList))).size ≤ 9000 := by show (around 41 (around 40 s.data.toList)).toArray.size ≤ 9000; simp; omega
      have HF : Hid (Calls Tryd.prog 55 #[.string (bw (around 41 (around 40 s.data.toList))), .func (.func 56) #[] #[]] wr fun e w' => ∃ A, e = .returned (.slice (some ⟨A, 0, none⟩) (wordsOf s.data.toList).length (wordsOf s.data.toList).length) ∧ wr.heap.size ≤ A ∧
          w'.ownsRow wr.heap.size 9 1 (.slice (some ⟨A, 0, none⟩) (wordsOf s.data.toList).length (wordsOf s.data.toList).length) (wordsOf s.data.toList).length ((wordsOf s.data.toList).map Value.string) ∧ Below wr.heap.size wr w') := by
        have h := Tryd.strings_FieldsFunc_grows 56 #[] (enters_of Tryd.func56 (by kernel_rfl) rfl) spR (bw (around 41 (around 40 s.data.toList))) wr (by omega) (fun W x _ _ => (isSpace_any x W).mono (by rintro e w' ⟨rfl, rfl⟩; exact ⟨rfl, Below.refl _ _⟩))
        rw [fields_words] at h
        exact h
      clear hg hl hl2 hsl hsz
      go_wp2_with fail
      refine HF.out.mono ?_
      rintro e w1 ⟨A, rfl, hA, hown, hb1⟩
      have HE : Hid (w.heap.size ≤ A ∧ w1.ownsRow w.heap.size 9 1 (.slice (some ⟨A, 0, none⟩) (wordsOf s.data.toList).length (wordsOf s.data.toList).length) (wordsOf s.data.toList).length ((wordsOf s.data.toList).map Value.string) ∧ Below w.heap.size w w1) := by
        have hsz := hb.size
        refine ⟨by omega, ⟨hown.1, ?_⟩, hb.trans (hb1.mono hb.size)⟩
        rcases hown.2 with hn | ⟨g, cap, cur, hv, hbg, rest⟩
        · exact .inl hn
        · exact .inr ⟨g, cap, cur, hv, by omega, rest⟩
      clear hA hown hb1 hb HF
      go_wp2_with fail
      go_ret
      exact ⟨A, rfl, HE.out.1, HE.out.2.1, HE.out.2.2⟩
end Go.Proofs.YtibjnkpmnimgoaaDoor
