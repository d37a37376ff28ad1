/-
  What the call of (*reader).readTerm does where no word is left, and at a word that opens no brackets.
-/
import Derived.Test.YtibjnkpmnimgoaaDoorReadTmA
namespace Go.Proofs.YtibjnkpmnimgoaaDoor
open Go.RowKit

/-- The world behind the first box. -/
def w7 (w : World) : World := w.alloc (.cells #[.int .i64 0, .int .i64 0, .int .i64 0, .slice none 0 0, .int .i64 0, .slice none 0 0, .slice none 0 0] 27)

theorem w7_below (w : World) : Below w.heap.size w (w7 w) := (Below.refl _ _).alloc (Nat.le_refl _) _

theorem cut_yes (x : ByteArray) (d : List UInt8) (h : x.data.toList = 35 :: d) : Lib.trimPrefix x.data.toList [35] = d ∧ Lib.hasPrefix x.data.toList [35] = true := by
  rw [h]
  simp [Lib.trimPrefix, Lib.hasPrefix]

theorem cut_no (x : ByteArray) (h : ∀ d, x.data.toList ≠ 35 :: d) : Lib.hasPrefix x.data.toList [35] = false := by
  cases hx : x.data.toList with
  | nil => rfl
  | cons c r =>
    have : c ≠ 35 := fun e => h r (by rw [hx, e])
    have h2 : (35 == c) = false := by simpa using fun e => this e.symm
    simp [Lib.hasPrefix, List.isPrefixOf, h2]

/-- What a number's call leaves, in letters. -/
theorem num_letters {R : Nat} {ws : List ByteArray} {b : Bool} {d : ByteArray} {w : World} {e : Ending} {w' : World} (h : NumPost R ws b d w e w') : ∃ (n : Int) (ws' : List ByteArray) (b' : Bool), e = .returned (.int .i64 n) ∧ RS R ws' b' w' ∧ Kept R none w w' ∧
    (∀ K : Int → Tm, StepR (((numOf d).map fun n => (K n, ws)).map (·.2)) b ws' b' ∧ ∀ p, ((numOf d).map fun n => (K n, ws)) = some p → K n = p.1) := by
  obtain ⟨n, he, ⟨hn, hr⟩ | ⟨hn, hr⟩, hk⟩ := h
  · exact ⟨n, ws, b, he, hr, hk, fun K => ⟨.inl ⟨by rw [hn]; rfl, rfl⟩, fun p hp => by rw [hn] at hp; cases hp; rfl⟩⟩
  · exact ⟨n, [], true, he, hr, hk, fun K => ⟨.inr ⟨by rw [hn]; rfl, rfl, rfl⟩, fun p hp => by rw [hn] at hp; cases hp⟩⟩

set_option maxRecDepth 20000 in
set_option maxHeartbeats 2000000 in
/-- From the word on: the truths, the marks of a Ref, the numbers. -/
theorem readTerm_by (R : Nat) (x : ByteArray) (hxs : x.size ≤ 1000000) (r : List ByteArray) (b b1 : Bool) (o : Option (Tm × List ByteArray)) (w : World) (hg : Gl w) (hR : 10 ≤ R) (hRl : R < w.heap.size) (hx : x ≠ opB)
    (HN : Hid (Calls Tryd.prog 57 #[.pointer (some ⟨R, 0, none⟩)] (w7 w) fun e w' => e = .returned (.string x) ∧ RS R r b1 w' ∧ Kept R none (w7 w) w'))
    (HO : Hid (∀ (t : TT) ws' b', StepR ((readWord x r).map (·.2)) b1 ws' b' → (∀ p, readWord x r = some p → t.tm = p.1) → StepR (o.map (·.2)) b ws' b' ∧ ∀ p, o = some p → t.tm = p.1)) :
    Calls Tryd.prog 35 #[.pointer (some ⟨R, 0, none⟩)] w (TmPost R b o w) := by
  have hq : (x.toList == [40]) = false := by
    have := (Lib.bytes_beq_false_iff x opB).2 hx
    rw [opB, Lib.toList_data ⟨#[40]⟩] at this
    exact this
  have HG : Hid (Gl (w7 w)) := hg.below (w7_below w)
  clear hg hx
  go_enter Tryd.func35, Tryd.ntmps35
  go_wp2_with fail
  refine HN.out.mono ?_
  rintro e w1 ⟨rfl, hr, hk⟩
  have hne : w.heap.size ≠ R := by omega
  have hbx : Box7 w1 w.heap.size (tleaf 0 0) := (box7_alloc w).kept hk hne
  have hs1 : w.heap.size < w1.heap.size := hbx.lt
  have HD : Hid (RS R r b1 w1 ∧ Gl w1 ∧ Kept R none w w1 ∧ Box7 w1 w.heap.size (tleaf 0 0)) := ⟨hr, HG.out.kept hR hk, (Kept.of_below (w7_below w)).trans hk, hbx⟩
  clear hr hk HN HG hbx
  have HT : Hid (Calls Tryd.prog 59 #[.string x] w1 fun e w' => e = .returned (foundV (atWord x truthWs 0)) ∧ w' = w1) := truthOf_any x w1 HD.out.2.1
  cases ha : atWord x truthWs 0 with
  | some k =>
    rw [ha] at HT
    replace HT : Hid (Calls Tryd.prog 59 #[.string x] w1 fun e w' => e = .returned (.tuple #[.int .i64 (k : Int), .bool true]) ∧ w' = w1) := HT
    have HE : Hid (readWord x r = some (⟨3, (k : Int), anyY, anyY, []⟩, r)) := by show _ = _; simp [readWord, ha]
    clear ha
    have h7 := HD.out.2.2.2.at7
    have c0 := h7.c0
    have c1 := h7.c1
    have c2 := h7.c2
    have c3 := h7.c3
    have c4 := h7.c4
    have c5 := h7.c5
    have c6 := h7.c6
    simp only [Nat.zero_add, tleaf] at c0 c1 c2 c3 c4 c5 c6
    have f0 := HD.out.2.2.2.fz 0 (by omega)
    have f1 := HD.out.2.2.2.fz 1 (by omega)
    have f2 := HD.out.2.2.2.fz 2 (by omega)
    have f3 := HD.out.2.2.2.fz 3 (by omega)
    have f4 := HD.out.2.2.2.fz 4 (by omega)
    have f5 := HD.out.2.2.2.fz 5 (by omega)
    have f6 := HD.out.2.2.2.fz 6 (by omega)
    clear h7
    go_wp2_with fail
    refine HT.out.mono ?_
    rintro e w2 ⟨rfl, rfl⟩
    go_wp2_with fail
    have h9 := HO.out (tleaf 3 (k : Int)) r b1 (by rw [HE.out]; exact .inl ⟨rfl, rfl⟩) (fun p hp => by rw [HE.out] at hp; cases hp; exact tleaf_tm _ _)
    have hE := tm_end (x := tleaf 3 (k : Int)) (w := w) HD.out.2.2.2 (Nat.le_refl _) hRl (tleaf_in _ _ _) (tleaf_bl _ _ _) HD.out.2.2.1 HD.out.1 h9.1 h9.2
    refine bodyPost_ret (v := .agg #[.int .i64 3, .int .i64 (k : Int), .int .i64 0, .slice none 0 0, .int .i64 0, .slice none 0 0, .slice none 0 0]) ?_ rfl hE.1
    obtain ⟨d0, d1, d2, d3, d4, d5, d6⟩ := put7_gets (x := tleaf 3 (k : Int)) HD.out.2.2.2
    simp only [tleaf, List.length_nil] at d0 d1 d2 d3 d4 d5 d6
    simp [results, Tryd.results35, go_sem, d0, d1, d2, d3, d4, d5, d6]
  | none =>
    rw [ha] at HT
    replace HT : Hid (Calls Tryd.prog 59 #[.string x] w1 fun e w' => e = .returned (.tuple #[.int .i64 0, .bool false]) ∧ w' = w1) := HT
    by_cases hp : ∃ d, x.data.toList = 35 :: d
    · obtain ⟨d, hd⟩ := hp
      have HE : Hid (readWord x r = (numOf ⟨d.toArray⟩).map fun n => (⟨1, n, anyY, anyY, []⟩, r)) := by show _ = _; simp [readWord, ha, hd]
      have HC : Hid (Calls Tryd.prog 60 #[.string x, .string ⟨#[35]⟩] w1 fun e w' => e = .returned (.tuple #[.string ⟨d.toArray⟩, .bool true]) ∧ w' = w1) := by
        have := Tryd.strings_CutPrefix x ⟨#[35]⟩ w1
        have hc := cut_yes x d hd
        rw [show (⟨#[35]⟩ : ByteArray).data.toList = [35] from rfl, hc.1, hc.2] at this
        exact this
      have HM : Hid (Calls Tryd.prog 61 #[.pointer (some ⟨R, 0, none⟩), .string ⟨d.toArray⟩] w1 (NumPost R r b1 ⟨d.toArray⟩ w1)) := by
        refine number_any R r b1 ⟨d.toArray⟩ ?_ w1 HD.out.2.1 HD.out.1
        have : x.data.toList.length = x.size := Array.length_toList
        rw [hd] at this
        show d.toArray.size ≤ 1000000
        simp at this ⊢
        omega
      clear ha hd
      go_wp2_with fail
      refine HT.out.mono ?_
      rintro e w2 ⟨rfl, rfl⟩
      go_wp2_with fail
      refine HC.out.mono ?_
      rintro e w3 ⟨rfl, rfl⟩
      go_wp2_with fail
      refine HM.out.mono ?_
      intro e w4 hpost
      obtain ⟨n, ws', b', rfl, hr4, hk4, hs4⟩ := num_letters hpost
      have HB : Hid (Box7 w4 w.heap.size (tleaf 0 0) ∧ RS R ws' b' w4 ∧ Kept R none w w4) := ⟨HD.out.2.2.2.kept hk4 hne, hr4, HD.out.2.2.1.trans hk4⟩
      have HS : Hid (StepR ((readWord x r).map (·.2)) b1 ws' b' ∧ ∀ p, readWord x r = some p → (tleaf 1 n).tm = p.1) := by
        have := hs4 (fun n => ⟨1, n, anyY, anyY, []⟩)
        rw [HE.out, tleaf_tm]
        exact this
      have h7 := HB.out.1.at7
      have c0 := h7.c0
      have c1 := h7.c1
      have c2 := h7.c2
      have c3 := h7.c3
      have c4 := h7.c4
      have c5 := h7.c5
      have c6 := h7.c6
      simp only [Nat.zero_add, tleaf] at c0 c1 c2 c3 c4 c5 c6
      have f0 := HB.out.1.fz 0 (by omega)
      have f1 := HB.out.1.fz 1 (by omega)
      have f2 := HB.out.1.fz 2 (by omega)
      have f3 := HB.out.1.fz 3 (by omega)
      have f4 := HB.out.1.fz 4 (by omega)
      have f5 := HB.out.1.fz 5 (by omega)
      have f6 := HB.out.1.fz 6 (by omega)
      clear h7 hpost hr4 hk4 hs4 HM HC HT
      go_wp2_with fail
      have h9 := HO.out (tleaf 1 n) ws' b' HS.out.1 HS.out.2
      have hE := tm_end (x := tleaf 1 n) (w := w) HB.out.1 (Nat.le_refl _) hRl (tleaf_in _ _ _) (tleaf_bl _ _ _) HB.out.2.2 HB.out.2.1 h9.1 h9.2
      refine bodyPost_ret (v := .agg #[.int .i64 1, .int .i64 n, .int .i64 0, .slice none 0 0, .int .i64 0, .slice none 0 0, .slice none 0 0]) ?_ rfl hE.1
      obtain ⟨d0, d1, d2, d3, d4, d5, d6⟩ := put7_gets (x := tleaf 1 n) HB.out.1
      simp only [tleaf, List.length_nil] at d0 d1 d2 d3 d4 d5 d6
      simp [results, Tryd.results35, go_sem, d0, d1, d2, d3, d4, d5, d6]
    · have hp' : ∀ d, x.data.toList ≠ 35 :: d := fun d hd => hp ⟨d, hd⟩
      have HE : Hid (readWord x r = (numOf x).map fun n => (⟨2, n, anyY, anyY, []⟩, r)) := by
        show _ = _
        simp only [readWord, ha]
      have HC : Hid (Calls Tryd.prog 60 #[.string x, .string ⟨#[35]⟩] w1 fun e w' => ∃ y, e = .returned (.tuple #[.string y, .bool false]) ∧ w' = w1) := by
        refine (Tryd.strings_CutPrefix x ⟨#[35]⟩ w1).mono ?_
        rintro e w' ⟨rfl, rfl⟩
        exact ⟨⟨(Lib.trimPrefix x.data.toList [35]).toArray⟩, by rw [show (⟨#[35]⟩ : ByteArray).data.toList = [35] from rfl, cut_no x hp'], rfl⟩
      have HM : Hid (Calls Tryd.prog 61 #[.pointer (some ⟨R, 0, none⟩), .string x] w1 (NumPost R r b1 x w1)) := number_any R r b1 x hxs w1 HD.out.2.1 HD.out.1
      clear ha hp hp'
      go_wp2_with fail
      refine HT.out.mono ?_
      rintro e w2 ⟨rfl, rfl⟩
      go_wp2_with fail
      refine HC.out.mono ?_
      rintro e w3 ⟨y, rfl, rfl⟩
      go_wp2_with fail
      refine HM.out.mono ?_
      intro e w4 hpost
      obtain ⟨n, ws', b', rfl, hr4, hk4, hs4⟩ := num_letters hpost
      have HB : Hid (Box7 w4 w.heap.size (tleaf 0 0) ∧ RS R ws' b' w4 ∧ Kept R none w w4) := ⟨HD.out.2.2.2.kept hk4 hne, hr4, HD.out.2.2.1.trans hk4⟩
      have HS : Hid (StepR ((readWord x r).map (·.2)) b1 ws' b' ∧ ∀ p, readWord x r = some p → (tleaf 2 n).tm = p.1) := by
        have := hs4 (fun n => ⟨2, n, anyY, anyY, []⟩)
        rw [HE.out, tleaf_tm]
        exact this
      have h7 := HB.out.1.at7
      have c0 := h7.c0
      have c1 := h7.c1
      have c2 := h7.c2
      have c3 := h7.c3
      have c4 := h7.c4
      have c5 := h7.c5
      have c6 := h7.c6
      simp only [Nat.zero_add, tleaf] at c0 c1 c2 c3 c4 c5 c6
      have f0 := HB.out.1.fz 0 (by omega)
      have f1 := HB.out.1.fz 1 (by omega)
      have f2 := HB.out.1.fz 2 (by omega)
      have f3 := HB.out.1.fz 3 (by omega)
      have f4 := HB.out.1.fz 4 (by omega)
      have f5 := HB.out.1.fz 5 (by omega)
      have f6 := HB.out.1.fz 6 (by omega)
      clear h7 hpost hr4 hk4 hs4 HM HC HT
      go_wp2_with fail
      have h9 := HO.out (tleaf 2 n) ws' b' HS.out.1 HS.out.2
      have hE := tm_end (x := tleaf 2 n) (w := w) HB.out.1 (Nat.le_refl _) hRl (tleaf_in _ _ _) (tleaf_bl _ _ _) HB.out.2.2 HB.out.2.1 h9.1 h9.2
      refine bodyPost_ret (v := .agg #[.int .i64 2, .int .i64 n, .int .i64 0, .slice none 0 0, .int .i64 0, .slice none 0 0, .slice none 0 0]) ?_ rfl hE.1
      obtain ⟨d0, d1, d2, d3, d4, d5, d6⟩ := put7_gets (x := tleaf 2 n) HB.out.1
      simp only [tleaf, List.length_nil] at d0 d1 d2 d3 d4 d5 d6
      simp [results, Tryd.results35, go_sem, d0, d1, d2, d3, d4, d5, d6]

/-- (*reader).readTerm where no word is left. -/
theorem readTerm_nil (R n : Nat) (b : Bool) (w : World) (hg : Gl w) (hR : 10 ≤ R) (h : RS R [] b w) :
    Calls Tryd.prog 35 #[.pointer (some ⟨R, 0, none⟩)] w (TmPost R b (readTm n []) w) := by
  rw [readTm_nil]
  refine readTerm_by R ⟨#[]⟩ (by decide) [] b true none w hg hR h.lt (by decide) (next_nil R b _ (h.below (w7_below w))) ?_
  intro t ws' b' hs _
  have e : readWord ⟨#[]⟩ [] = none := by
    have e1 : atWord ⟨#[]⟩ truthWs 0 = none := by decide
    have e2 : numOf ⟨#[]⟩ = none := rfl
    simp only [readWord, e1, e2]
    rfl
  rw [e] at hs
  rcases hs with ⟨ho, _⟩ | ⟨_, h1, h2⟩
  · cases ho
  · exact ⟨.inr ⟨rfl, h1, h2⟩, fun p hp => by cases hp⟩

/-- (*reader).readTerm at a word that opens no brackets. -/
theorem readTerm_word (R n : Nat) (x : ByteArray) (hxs : x.size ≤ 1000000) (r : List ByteArray) (hx : x ≠ opB) (b : Bool) (w : World) (hg : Gl w) (hR : 10 ≤ R) (h : RS R (x :: r) b w) :
    Calls Tryd.prog 35 #[.pointer (some ⟨R, 0, none⟩)] w (TmPost R b (readTm (n + 1) (x :: r)) w) := by
  rw [readTm_word n x r hx]
  exact readTerm_by R x hxs r b b (readWord x r) w hg hR h.lt hx (next_cons R x r b _ (h.below (w7_below w))) (fun t ws' b' hs he => ⟨hs, he⟩)
end Go.Proofs.YtibjnkpmnimgoaaDoor
