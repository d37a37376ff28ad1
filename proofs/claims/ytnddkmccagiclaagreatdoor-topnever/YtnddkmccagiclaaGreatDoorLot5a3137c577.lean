/-
  What the call of (*reader).readTerm does where no word is left, and at a word that opens no brackets.
-/
import Derived.Test.YtnddkmccagiclaaGreatDoorLot2a8c5b14e7
import Derived.Test.YtnddkmccagiclaaGreatDoorLotb751e12d97
import Derived.Test.YtnddkmccagiclaaGreatDoorLotb19f3f36a9
namespace Go.Proofs.YtnddkmccagiclaaGreatDoor
open Go.RowKit
/-- The world behind the first box. -/
def w7 (w : World) : World := w.alloc (.cells #[.int .i64 0, .int .i64 0, .int .i64 0, .slice none 0 0, .int .i64 0, .slice none 0 0, .slice none 0 0] 27)
theorem w7_below (w : World) : Below w.heap.size w (w7 w) := (Below.refl _ _).alloc (Nat.le_refl _) _
theorem cut_yes (x : ByteArray) (d : List UInt8) (h : x.data.toList = 35 :: d) : Lib.trimPrefix x.data.toList [35] = d ∧ Lib.hasPrefix x.data.toList [35] = true := by
  rw [h]
  simp [Lib.trimPrefix, Lib.hasPrefix]
theorem cut_no (x : ByteArray) (h : ∀ d, x.data.toList ≠ 35 :: d) : Lib.hasPrefix x.data.toList [35] = false := by
  cases hx : x.data.toList with
  | nil => rfl
  | cons c r =>
    have : c ≠ 35 := fun e => h r (by rw [hx, e])
    have h2 : (35 == c) = false := by simpa using fun e => this e.symm
    simp [Lib.hasPrefix, List.isPrefixOf, h2]
/-- What a number's call leaves, in letters. -/
theorem num_letters {R : Nat} {ws : List ByteArray} {b : Bool} {d : ByteArray} {w : World} {e : Ending} {w' : World} (h : NumPost R ws b d w e w') : ∃ (n : Int) (ws' : List ByteArray) (b' : Bool), e = .returned (.int .i64 n) ∧ RS R ws' b' w' ∧ Kept R none w w' ∧
    (∀ K : Int → Tm, StepR (((numOf d).map fun n => (K n, ws)).map (·.2)) b ws' b' ∧ ∀ p, ((numOf d).map fun n => (K n, ws)) = some p → K n = p.1) := by
  obtain ⟨n, he, ⟨hn, hr⟩ | ⟨hn, hr⟩, hk⟩ := h
  · exact ⟨n, ws, b, he, hr, hk, fun K => ⟨.inl ⟨by rw [hn]; rfl, rfl⟩, fun p hp => by rw [hn] at hp; cases hp; rfl⟩⟩
  · exact ⟨n, [], true, he, hr, hk, fun K => ⟨.inr ⟨by rw [hn]; rfl, rfl, rfl⟩, fun p hp => by rw [hn] at hp; cases hp⟩⟩
set_option maxRecDepth 20000 in
set_option maxHeartbeats 2000000 in
/-- From the word on: the truths, the marks of a Ref, the numbers. -/
theorem readTerm_by (R : Nat) (x : ByteArray) (hxs : x.size ≤ 1000000) (r : List ByteArray) (b b1 : Bool) (o : Option (Tm × List ByteArray)) (w : World) (hg : Gl w) (hR : 12 ≤ R) (hRl : R < w.heap.size) (hx : x ≠ opB)
    (HN : Hid (Calls Tryz.prog 52 #[.pointer (some ⟨R, 0, none⟩)] (w7 w) fun e w' => e = .returned (.string x) ∧ RS R r b1 w' ∧ Kept R none (w7 w) w'))
    (HO : Hid (∀ (t : TT) ws' b', StepR ((readWord x r).map (·.2)) b1 ws' b' → (∀ p, readWord x r = some p → t.tm = p.1) → StepR (o.map (·.2)) b ws' b' ∧ ∀ p, o = some p → t.tm = p.1)) :
    Calls Tryz.prog 29 #[.pointer (some ⟨R, 0, none⟩)] w (TmPost R b o w) := by
  have hq : (x.toList == [40]) = false := by
    have := (Lib.bytes_beq_false_iff x opB).2 hx
    rw [opB, Lib.toList_data ⟨#[40]⟩] at this
    exact this
  have HG : Hid (Gl (w7 w)) := hg.below (w7_below w)
  clear hg hx
  go_enter Tryz.func29, Tryz.ntmps29
  go_wp2_with fail
  refine HN.out.mono ?_
  rintro e w1 ⟨rfl, hr, hk⟩
  have hne : w.heap.size ≠ R := by omega
  have hbx : Box7 w1 w.heap.size (tleaf 0 0) := (box7_alloc w).kept hk hne
  have hs1 : w.heap.size < w1.heap.size := hbx.lt
  have HD : Hid (RS R r b1 w1 ∧ Gl w1 ∧ Kept R none w w1 ∧ Box7 w1 w.heap.size (tleaf 0 0)) := ⟨hr, HG.out.kept hR hk, (Kept.of_below (w7_below w)).trans hk, hbx⟩
  clear hr hk HN HG hbx
  have HT : Hid (Calls Tryz.prog 54 #[.string x] w1 fun e w' => e = .returned (foundV (atWord x truthWs 0)) ∧ w' = w1) := truthOf_any x w1 HD.out.2.1
  cases ha : atWord x truthWs 0 with
  | some k =>
    rw [ha] at HT
    replace HT : Hid (Calls Tryz.prog 54 #[.string x] w1 fun e w' => e = .returned (.tuple #[.int .i64 (k : Int), .bool true]) ∧ w' = w1) := HT
    have HE : Hid (readWord x r = some (⟨3, (k : Int), anyY, anyY, []⟩, r)) := by show _ = _; simp [readWord, ha]
    clear ha
    have h7 := HD.out.2.2.2.at7
    have c0 := h7.c0
    have c1 := h7.c1
    have c2 := h7.c2
    have c3 := h7.c3
    have c4 := h7.c4
    have c5 := h7.c5
    have c6 := h7.c6
    simp only [Nat.zero_add, tleaf] at c0 c1 c2 c3 c4 c5 c6
    have f0 := HD.out.2.2.2.fz 0 (by omega)
    have f1 := HD.out.2.2.2.fz 1 (by omega)
    have f2 := HD.out.2.2.2.fz 2 (by omega)
    have f3 := HD.out.2.2.2.fz 3 (by omega)
    have f4 := HD.out.2.2.2.fz 4 (by omega)
    have f5 := HD.out.2.2.2.fz 5 (by omega)
    have f6 := HD.out.2.2.2.fz 6 (by omega)
    clear h7
    go_wp2_with fail
    refine HT.out.mono ?_
    rintro e w2 ⟨rfl, rfl⟩
    go_wp2_with fail
    have h9 := HO.out (tleaf 3 (k : Int)) r b1 (by rw [HE.out]; exact .inl ⟨rfl, rfl⟩) (fun p hp => by rw [HE.out] at hp; cases hp; exact tleaf_tm _ _)
    have hE := tm_end (x := tleaf 3 (k : Int)) (w := w) HD.out.2.2.2 (Nat.le_refl _) hRl (tleaf_in _ _ _) (tleaf_bl _ _ _) HD.out.2.2.1 HD.out.1 h9.1 h9.2
    refine bodyPost_ret (v := .agg #[.int .i64 3, .int .i64 (k : Int), .int .i64 0, .slice none 0 0, .int .i64 0, .slice none 0 0, .slice none 0 0]) ?_ rfl hE.1
    obtain ⟨d0, d1, d2, d3, d4, d5, d6⟩ := put7_gets (x := tleaf 3 (k : Int)) HD.out.2.2.2
    simp only [tleaf, List.length_nil] at d0 d1 d2 d3 d4 d5 d6
    simp [results, Tryz.results29, go_sem, d0, d1, d2, d3, d4, d5, d6]
  | none =>
    rw [ha] at HT
    replace HT : Hid (Calls Tryz.prog 54 #[.string x] w1 fun e w' => e = .returned (.tuple #[.int .i64 0, .bool false]) ∧ w' = w1) := HT
    by_cases hp : ∃ d, x.data.toList = 35 :: d
    · obtain ⟨d, hd⟩ := hp
      have HE : Hid (readWord x r = (numOf ⟨d.toArray⟩).map fun n => (⟨1, n, anyY, anyY, []⟩, r)) := by show _ = _; simp [readWord, ha, hd]
      have HC : Hid (Calls Tryz.prog 55 #[.string x, .string ⟨#[35]⟩] w1 fun e w' => e = .returned (.tuple #[.string ⟨d.toArray⟩, .bool true]) ∧ w' = w1) := by
        have := Tryz.strings_CutPrefix x ⟨#[35]⟩ w1
        have hc := cut_yes x d hd
        rw [show (⟨#[35]⟩ : ByteArray).data.toList = [35] from rfl, hc.1, hc.2] at this
        exact this
      have HM : Hid (Calls Tryz.prog 56 #[.pointer (some ⟨R, 0, none⟩), .string ⟨d.toArray⟩] w1 (NumPost R r b1 ⟨d.toArray⟩ w1)) := by
        refine number_any R r b1 ⟨d.toArray⟩ ?_ w1 HD.out.2.1 HD.out.1
        have : x.data.toList.length = x.size := Array.length_toList
        rw [hd] at this
        show d.toArray.size ≤ 1000000
        simp at this ⊢
        omega
      clear ha hd
      go_wp2_with fail
      refine HT.out.mono ?_
      rintro e w2 ⟨rfl, rfl⟩
      go_wp2_with fail
      refine HC.out.mono ?_
      rintro e w3 ⟨rfl, rfl⟩
      go_wp2_with fail
      refine HM.out.mono ?_
      intro e w4 hpost
      obtain ⟨n, ws', b', rfl, hr4, hk4, hs4⟩ := num_letters hpost
      have HB : Hid (Box7 w4 w.heap.size (tleaf 0 0) ∧ RS R ws' b' w4 ∧ Kept R none w w4) := ⟨HD.out.2.2.2.kept hk4 hne, hr4, HD.out.2.2.1.trans hk4⟩
      have HS : Hid (StepR ((readWord x r).map (·.2)) b1 ws' b' ∧ ∀ p, readWord x r = some p → (tleaf 1 n).tm = p.1) := by
        have := hs4 (fun n => ⟨1, n, anyY, anyY, []⟩)
        rw [HE.out, tleaf_tm]
        exact this
      have h7 := HB.out.1.at7
      have c0 := h7.c0
      have c1 := h7.c1
      have c2 := h7.c2
      have c3 := h7.c3
      have c4 := h7.c4
      have c5 := h7.c5
      have c6 := h7.c6
      simp only [Nat.zero_add, tleaf] at c0 c1 c2 c3 c4 c5 c6
      have f0 := HB.out.1.fz 0 (by omega)
      have f1 := HB.out.1.fz 1 (by omega)
      have f2 := HB.out.1.fz 2 (by omega)
      have f3 := HB.out.1.fz 3 (by omega)
      have f4 := HB.out.1.fz 4 (by omega)
      have f5 := HB.out.1.fz 5 (by omega)
      have f6 := HB.out.1.fz 6 (by omega)
      clear h7 hpost hr4 hk4 hs4 HM HC HT
      go_wp2_with fail
      have h9 := HO.out (tleaf 1 n) ws' b' HS.out.1 HS.out.2
      have hE := tm_end (x := tleaf 1 n) (w := w) HB.out.1 (Nat.le_refl _) hRl (tleaf_in _ _ _) (tleaf_bl _ _ _) HB.out.2.2 HB.out.2.1 h9.1 h9.2
      refine bodyPost_ret (v := .agg #[.int .i64 1, .int .i64 n, .int .i64 0, .slice none 0 0, .int .i64 0, .slice none 0 0, .slice none 0 0]) ?_ rfl hE.1
      obtain ⟨d0, d1, d2, d3, d4, d5, d6⟩ := put7_gets (x := tleaf 1 n) HB.out.1
      simp only [tleaf, List.length_nil] at d0 d1 d2 d3 d4 d5 d6
      simp [results, Tryz.results29, go_sem, d0, d1, d2, d3, d4, d5, d6]
    · have hp' : ∀ d, x.data.toList ≠ 35 :: d := fun d hd => hp ⟨d, hd⟩
      have HE : Hid (readWord x r = (numOf x).map fun n => (⟨2, n, anyY, anyY, []⟩, r)) := by
        show _ = _
        simp only [readWord, ha]
      have HC : Hid (Calls Tryz.prog 55 #[.string x, .string ⟨#[35]⟩] w1 fun e w' => ∃ y, e = .returned (.tuple #[.string y, .bool false]) ∧ w' = w1) := by
        refine (Tryz.strings_CutPrefix x ⟨#[35]⟩ w1).mono ?_
        rintro e w' ⟨rfl, rfl⟩
        exact ⟨⟨(Lib.trimPrefix x.data.toList [35]).toArray⟩, by rw [show (⟨#[35]⟩ : ByteArray).data.toList = [35] from rfl, cut_no x hp'], rfl⟩
      have HM : Hid (Calls Tryz.prog 56 #[.pointer (some ⟨R, 0, none⟩), .string x] w1 (NumPost R r b1 x w1)) := number_any R r b1 x hxs w1 HD.out.2.1 HD.out.1
      clear ha hp hp'
      go_wp2_with fail
      refine HT.out.mono ?_
      rintro e w2 ⟨rfl, rfl⟩
      go_wp2_with fail
      refine HC.out.mono ?_
      rintro e w3 ⟨y, rfl, rfl⟩
      go_wp2_with fail
      refine HM.out.mono ?_
      intro e w4 hpost
      obtain ⟨n, ws', b', rfl, hr4, hk4, hs4⟩ := num_letters hpost
      have HB : Hid (Box7 w4 w.heap.size (tleaf 0 0) ∧ RS R ws' b' w4 ∧ Kept R none w w4) := ⟨HD.out.2.2.2.kept hk4 hne, hr4, HD.out.2.2.1.trans hk4⟩
      have HS : Hid (StepR ((readWord x r).map (·.2)) b1 ws' b' ∧ ∀ p, readWord x r = some p → (tleaf 2 n).tm = p.1) := by
        have := hs4 (fun n => ⟨2, n, anyY, anyY, []⟩)
        rw [HE.out, tleaf_tm]
        exact this
      have h7 := HB.out.1.at7
      have c0 := h7.c0
      have c1 := h7.c1
      have c2 := h7.c2
      have c3 := h7.c3
      have c4 := h7.c4
      have c5 := h7.c5
      have c6 := h7.c6
      simp only [Nat.zero_add, tleaf] at c0 c1 c2 c3 c4 c5 c6
      have f0 := HB.out.1.fz 0 (by omega)
      have f1 := HB.out.1.fz 1 (by omega)
      have f2 := HB.out.1.fz 2 (by omega)
      have f3 := HB.out.1.fz 3 (by omega)
      have f4 := HB.out.1.fz 4 (by omega)
      have f5 := HB.out.1.fz 5 (by omega)
      have f6 := HB.out.1.fz 6 (by omega)
      clear h7 hpost hr4 hk4 hs4 HM HC HT
      go_wp2_with fail
      have h9 := HO.out (tleaf 2 n) ws' b' HS.out.1 HS.out.2
      have hE := tm_end (x := tleaf 2 n) (w := w) HB.out.1 (Nat.le_refl _) hRl (tleaf_in _ _ _) (tleaf_bl _ _ _) HB.out.2.2 HB.out.2.1 h9.1 h9.2
      refine bodyPost_ret (v := .agg #[.int .i64 2, .int .i64 n, .int .i64 0, .slice none 0 0, .int .i64 0, .slice none 0 0, .slice none 0 0]) ?_ rfl hE.1
      obtain ⟨d0, d1, d2, d3, d4, d5, d6⟩ := put7_gets (x := tleaf 2 n) HB.out.1
      simp only [tleaf, List.length_nil] at d0 d1 d2 d3 d4 d5 d6
      simp [results, Tryz.results29, go_sem, d0, d1, d2, d3, d4, d5, d6]
/-- (*reader).readTerm where no word is left. -/
theorem readTerm_nil (R n : Nat) (b : Bool) (w : World) (hg : Gl w) (hR : 12 ≤ R) (h : RS R [] b w) :
    Calls Tryz.prog 29 #[.pointer (some ⟨R, 0, none⟩)] w (TmPost R b (readTm n []) w) := by
  rw [readTm_nil]
  refine readTerm_by R ⟨#[]⟩ (by decide) [] b true none w hg hR h.lt (by decide) (next_nil R b _ (h.below (w7_below w))) ?_
  intro t ws' b' hs _
  have e : readWord ⟨#[]⟩ [] = none := by
    have e1 : atWord ⟨#[]⟩ truthWs 0 = none := by decide
    have e2 : numOf ⟨#[]⟩ = none := rfl
    simp only [readWord, e1, e2]
    rfl
  rw [e] at hs
  rcases hs with ⟨ho, _⟩ | ⟨_, h1, h2⟩
  · cases ho
  · exact ⟨.inr ⟨rfl, h1, h2⟩, fun p hp => by cases hp⟩
/-- (*reader).readTerm at a word that opens no brackets. -/
theorem readTerm_word (R n : Nat) (x : ByteArray) (hxs : x.size ≤ 1000000) (r : List ByteArray) (hx : x ≠ opB) (b : Bool) (w : World) (hg : Gl w) (hR : 12 ≤ R) (h : RS R (x :: r) b w) :
    Calls Tryz.prog 29 #[.pointer (some ⟨R, 0, none⟩)] w (TmPost R b (readTm (n + 1) (x :: r)) w) := by
  rw [readTm_word n x r hx]
  exact readTerm_by R x hxs r b b (readWord x r) w hg hR h.lt hx (next_cons R x r b _ (h.below (w7_below w))) (fun t ws' b' hs he => ⟨hs, he⟩)
end Go.Proofs.YtnddkmccagiclaaGreatDoor

/-
  What the call of (*reader).readTermInBrackets does: where the word is none of the words, and while the parts are read.
-/
namespace Go.Proofs.YtnddkmccagiclaaGreatDoor
open Go.RowKit
theorem behind_suf {x : ByteArray} {ws r : List ByteArray} (h : behind x ws = some r) : r <:+ ws := by
  cases ws with
  | nil => cases h
  | cons y s =>
    simp only [behind] at h
    split at h
    · cases h; exact List.suffix_cons _ _
    · cases h
theorem readTy_suf : ∀ (n : Nat) (ws : List ByteArray) (p : Ty × List ByteArray), readTy n ws = some p → p.2 <:+ ws
  | 0, _, _, h => by simp [readTy] at h
  | n + 1, [], _, h => by simp [readTy] at h
  | n + 1, x :: r, p, h => by
    simp only [readTy] at h
    split at h
    · simp only [Option.bind_eq_some_iff, Option.map_eq_some_iff] at h
      obtain ⟨r1, h1, q1, h2, q2, h3, r4, h4, rfl⟩ := h
      exact (behind_suf h4).trans ((readTy_suf n _ _ h3).trans ((readTy_suf n _ _ h2).trans ((behind_suf h1).trans (List.suffix_cons _ _))))
    · simp only [Option.map_eq_some_iff] at h
      obtain ⟨k, _, rfl⟩ := h
      exact List.suffix_cons _ _
theorem readT_suf {n k : Nat} {ws : List ByteArray} {p : Ty × List ByteArray} (h : readT n k ws = some p) : p.2 <:+ ws := by
  unfold readT at h
  split at h
  · exact readTy_suf n _ _ h
  · cases h; exact List.suffix_rfl
theorem readN_suf (f : List ByteArray → Option (Tm × List ByteArray)) (hf : ∀ ws p, f ws = some p → p.2 <:+ ws) : ∀ (m : Nat) (ws : List ByteArray) (q : List Tm × List ByteArray), readN f m ws = some q → q.2 <:+ ws
  | 0, ws, q, h => by simp [readN] at h; rw [← h]; exact List.suffix_rfl
  | m + 1, ws, q, h => by
    simp only [readN, Option.bind_eq_some_iff, Option.map_eq_some_iff] at h
    obtain ⟨p, hp, q', hq, rfl⟩ := h
    exact (readN_suf f hf m _ _ hq).trans (hf ws p hp)
theorem readTm_suf : ∀ (n : Nat) (ws : List ByteArray) (p : Tm × List ByteArray), readTm n ws = some p → p.2 <:+ ws
  | 0, _, _, h => by simp [readTm] at h
  | n + 1, [], _, h => by simp [readTm] at h
  | n + 1, x :: r, p, h => by
    by_cases hx : x = opB
    · subst hx
      rw [readTm_open] at h
      cases r with
      | nil => cases h
      | cons y r1 =>
        simp only [inTm, Option.bind_eq_some_iff, Option.map_eq_some_iff] at h
        obtain ⟨k, _, p1, h1, q, h2, r4, h3, rfl⟩ := h
        have a2 := readN_suf (readTm n) (fun ws p hp => readTm_suf n ws p hp) _ _ _ h2
        exact (behind_suf h3).trans (a2.trans ((readT_suf h1).trans ((List.suffix_cons _ _).trans (List.suffix_cons _ _))))
    · rw [readTm_word n x r hx] at h
      rw [readWord_len h]
      exact List.suffix_cons _ _
/-- No word is long. -/
def SmW (ws : List ByteArray) : Prop := ∀ x, x ∈ ws → x.size ≤ 1000000
theorem SmW.suf {a b : List ByteArray} (h : SmW b) (hs : a <:+ b) : SmW a := fun x hx => h x (hs.subset hx)
theorem SmW.step {o : Option (List ByteArray)} {b b' : Bool} {ws ws' : List ByteArray} (h : SmW ws) (hs : StepR o b ws' b') (ho : ∀ r, o = some r → r <:+ ws) : SmW ws' := by
  rcases hs with ⟨e, _⟩ | ⟨_, rfl, _⟩
  · exact h.suf (ho _ e)
  · intro x hx; cases hx
/-! ### What stays where other blocks are written -/
theorem RS.agree {R : Nat} {ws : List ByteArray} {b : Bool} {w w' : World} (h : RS R ws b w) (e : ∀ k, k ≤ R → w'.heap[k]? = w.heap[k]?) : RS R ws b w' := by
  obtain ⟨⟨a, c, hc, hn, hw⟩, h1, h2, h3, hz⟩ := h
  refine ⟨⟨a, c, (World.cell?_of_block (a := ⟨R, 0, none⟩) (e R (Nat.le_refl _))).trans hc, hn, fun hne => ?_⟩, (World.cell?_of_block (a := ⟨R, 1, none⟩) (e R (Nat.le_refl _))).trans h1, (World.frozen?_of_block (a := ⟨R, 0, none⟩) (e R (Nat.le_refl _))).trans h2, (World.frozen?_of_block (a := ⟨R, 1, none⟩) (e R (Nat.le_refl _))).trans h3, hz⟩
  obtain ⟨A, o, ha, hA, hx⟩ := hw hne
  exact ⟨A, o, ha, hA, fun i x hi => (World.cell?_of_block (a := ⟨A, o + i, none⟩) (e A (Nat.le_of_lt hA))).trans (hx i x hi)⟩
theorem Box7.agree {J : Nat} {w w' : World} {x : TT} (h : Box7 w J x) (e : w'.heap[J]? = w.heap[J]?) : Box7 w' J x :=
  ⟨h.at7.of fun i => World.cell?_of_block (a := ⟨J, i, none⟩) e, fun i hi => (World.frozen?_of_block (a := ⟨J, i, none⟩) e).trans (h.fz i hi)⟩
theorem Kept.agree {R : Nat} {w w2 w3 : World} (h : Kept R none w w2) (h1 : w3.os = w2.os) (h2 : w3.tape = w2.tape) (h3 : w3.output = w2.output) (h4 : w2.heap.size ≤ w3.heap.size) (e : ∀ k, k < w.heap.size → w3.heap[k]? = w2.heap[k]?) : Kept R none w w3 :=
  ⟨h1.trans h.os, h2.trans h.tape, h3.trans h.output, Nat.le_trans h.size h4, fun k hk a b => (e k hk).trans (h.block k hk a b)⟩
theorem Tr.In.agree {w w' : World} {t : Tr} {P : Nat → Prop} (h : t.In w) (hb : t.Bl P) (e : ∀ k, P k → w'.heap[k]? = w.heap[k]?) : t.In w' :=
  h.congr (P := P) (fun b hb o => World.cell?_of_block (a := ⟨b, o, none⟩) (e b hb)) hb
theorem Tryz.info27 : (Tryz.prog.info? 27).map (fun i => (i.zero, i.size, i.bytes)) = some (some (.agg #[.int .i64 0, .int .i64 0, .int .i64 0, .slice none 0 0, .int .i64 0, .slice none 0 0, .slice none 0 0]), 7, 104) := by kernel_rfl
set_option maxRecDepth 20000 in
set_option maxHeartbeats 2000000 in
/-- The word is none of the words. -/
theorem brack_bad (R : Nat) (y : ByteArray) (hy : kindAt y = none) (r : List ByteArray) (b b1 : Bool) (w : World) (hg : Gl w) (hR : 12 ≤ R) (hRl : R < w.heap.size)
    (HN : Hid (Calls Tryz.prog 52 #[.pointer (some ⟨R, 0, none⟩)] (w7 w) fun e w' => e = .returned (.string y) ∧ RS R r b1 w' ∧ Kept R none (w7 w) w')) :
    Calls Tryz.prog 53 #[.pointer (some ⟨R, 0, none⟩)] w (TmPost R b none w) := by
  have HG : Hid (Gl (w7 w)) := hg.below (w7_below w)
  clear hg
  go_enter Tryz.func53, Tryz.ntmps53
  go_wp2_with fail
  refine HN.out.mono ?_
  rintro e w1 ⟨rfl, hr, hk⟩
  have hne : w.heap.size ≠ R := by omega
  have HT : Hid (Calls Tryz.prog 83 #[.string y] w1 fun e w' => e = .returned (.tuple #[.int .i64 0, .bool false]) ∧ w' = w1) := by
    have := kindOf_any y w1 (HG.out.kept hR hk)
    rw [hy] at this
    exact this
  have HF : Hid (Calls Tryz.prog 82 #[.pointer (some ⟨R, 0, none⟩)] w1 fun e w' => e = .returned (.tuple #[]) ∧ RS R [] true w' ∧ Kept R none w1 w') := fail_any R r b1 w1 hr
  have HD : Hid (Kept R none w w1 ∧ Box7 w1 w.heap.size (tleaf 0 0)) := ⟨(Kept.of_below (w7_below w)).trans hk, (box7_alloc w).kept hk hne⟩
  clear hr hk HN HG hy
  go_wp2_with fail
  refine HT.out.mono ?_
  rintro e w2 ⟨rfl, rfl⟩
  go_wp2_with fail
  refine HF.out.mono ?_
  rintro e w4 ⟨rfl, hr4, hk4⟩
  have HB : Hid (Box7 w4 w.heap.size (tleaf 0 0) ∧ RS R [] true w4 ∧ Kept R none w w4) := ⟨HD.out.2.kept hk4 hne, hr4, HD.out.1.trans hk4⟩
  have h7 := HB.out.1.at7
  have c0 := h7.c0
  have c1 := h7.c1
  have c2 := h7.c2
  have c3 := h7.c3
  have c4 := h7.c4
  have c5 := h7.c5
  have c6 := h7.c6
  simp only [Nat.zero_add, tleaf] at c0 c1 c2 c3 c4 c5 c6
  have f0 := HB.out.1.fz 0 (by omega)
  have f1 := HB.out.1.fz 1 (by omega)
  have f2 := HB.out.1.fz 2 (by omega)
  have f3 := HB.out.1.fz 3 (by omega)
  have f4 := HB.out.1.fz 4 (by omega)
  have f5 := HB.out.1.fz 5 (by omega)
  have f6 := HB.out.1.fz 6 (by omega)
  clear h7 hr4 hk4 HF HT
  go_wp2_with fail
  have hE := tm_end (x := tleaf 0 0) (w := w) (o := none) (b := b) HB.out.1 (Nat.le_refl _) hRl (tleaf_in _ _ _) (tleaf_bl _ _ _) HB.out.2.2 HB.out.2.1 (.inr ⟨rfl, rfl, rfl⟩) (fun p hp => by cases hp)
  refine bodyPost_ret (v := .agg #[.int .i64 0, .int .i64 0, .int .i64 0, .slice none 0 0, .int .i64 0, .slice none 0 0, .slice none 0 0]) ?_ rfl hE.1
  obtain ⟨d0, d1, d2, d3, d4, d5, d6⟩ := put7_gets (x := tleaf 0 0) HB.out.1
  simp only [tleaf, List.length_nil] at d0 d1 d2 d3 d4 d5 d6
  simp [results, Tryz.results53, go_sem, d0, d1, d2, d3, d4, d5, d6]
set_option maxRecDepth 20000 in
set_option maxHeartbeats 1000000 in
/-- (*reader).readTerm at an open bracket. -/
theorem readTerm_open (R n : Nat) (r : List ByteArray) (b : Bool) (w : World) (hR : 12 ≤ R) (hg : Gl w) (h : RS R (opB :: r) b w)
    (ih : Hid (∀ (w : World), Gl w → RS R r b w → Calls Tryz.prog 53 #[.pointer (some ⟨R, 0, none⟩)] w (TmPost R b (inTm n r) w))) :
    Calls Tryz.prog 29 #[.pointer (some ⟨R, 0, none⟩)] w (TmPost R b (inTm n r) w) := by
  have HN : Hid (Calls Tryz.prog 52 #[.pointer (some ⟨R, 0, none⟩)] (w7 w) fun e w' => e = .returned (.string ⟨#[40]⟩) ∧ RS R r b w' ∧ Kept R none (w7 w) w') := next_cons R opB r b _ (h.below (w7_below w))
  have hRl := h.lt
  have HG : Hid (Gl (w7 w)) := hg.below (w7_below w)
  clear h hg
  go_enter Tryz.func29, Tryz.ntmps29
  go_wp2_with fail
  refine HN.out.mono ?_
  rintro e w1 ⟨rfl, hr, hk⟩
  have hne : w.heap.size ≠ R := by omega
  have hbx1 : Box7 w1 w.heap.size (tleaf 0 0) := (box7_alloc w).kept hk hne
  have hs1 : w.heap.size < w1.heap.size := hbx1.lt
  have HT : Hid (Calls Tryz.prog 53 #[.pointer (some ⟨R, 0, none⟩)] w1 (TmPost R b (inTm n r) w1)) := ih.out w1 (HG.out.kept hR hk) hr
  have HD : Hid (Kept R none w w1 ∧ Box7 w1 w.heap.size (tleaf 0 0)) := ⟨(Kept.of_below (w7_below w)).trans hk, hbx1⟩
  clear hk hr HN HG hbx1
  go_wp2_with fail
  refine HT.out.mono ?_
  rintro e w2 ⟨x, rfl, hi, hbl, hk2, hA, he⟩
  obtain ⟨ws', b', hr2, hs2⟩ := hA.letters
  have hbx := HD.out.2.kept hk2 hne
  have HE : Hid (TmPost R b (inTm n r) w (.returned (.agg #[.int .i64 x.k, .int .i64 x.n, .int .i64 x.t.k, .slice x.t.a x.t.l.length x.t.c, .int .i64 x.f.k, .slice x.f.a x.f.l.length x.f.c, .slice x.a x.l.length x.c])) (put7 w2 w.heap.size x)) :=
    (tm_end hbx (Nat.le_refl _) hRl hi (hbl.mono fun b hb => by omega) (HD.out.1.trans hk2) hr2 hs2 he).1
  have HGT : Hid _ := put7_gets (x := x) hbx
  have h7 := hbx.at7
  have c0 := h7.c0
  have c1 := h7.c1
  have c2 := h7.c2
  have c3 := h7.c3
  have c4 := h7.c4
  have c5 := h7.c5
  have c6 := h7.c6
  simp only [Nat.zero_add, tleaf] at c0 c1 c2 c3 c4 c5 c6
  have f0 := hbx.fz 0 (by omega)
  have f1 := hbx.fz 1 (by omega)
  have f2 := hbx.fz 2 (by omega)
  have f3 := hbx.fz 3 (by omega)
  have f4 := hbx.fz 4 (by omega)
  have f5 := hbx.fz 5 (by omega)
  have f6 := hbx.fz 6 (by omega)
  clear h7 hi hbl hk2 hA he hr2 hs2 hbx HT HD
  go_wp2_with fail
  refine bodyPost_ret (v := .agg #[.int .i64 x.k, .int .i64 x.n, .int .i64 x.t.k, .slice x.t.a x.t.l.length x.t.c, .int .i64 x.f.k, .slice x.f.a x.f.l.length x.f.c, .slice x.a x.l.length x.c]) ?_ rfl HE.out
  obtain ⟨d0, d1, d2, d3, d4, d5, d6⟩ := HGT.out
  simp [results, Tryz.results29, go_sem, d0, d1, d2, d3, d4, d5, d6]
/-- While the parts are read. -/
structure LB (R H J B k n : Nat) (ws1 : List ByteArray) (b1 : Bool) (t : Tr) (w : World) (j : Nat) (v : Value) (cs : List TT) (ws' : List ByteArray) (b' : Bool) (wr : World) : Prop where
  row : Row B v cs wr
  len : cs.length = j
  box : ∃ a c, v = .slice a cs.length c ∧ Box7 wr J ⟨(k : Int), 0, t, leaf 0, a, c, cs⟩
  res : Box7 wr H (tleaf 0 0)
  rs : RS R ws' b' wr
  kept : Kept R none w wr
  inv : InvN (readTm n) (partsOf (k : Int)) ws1 b1 j ws' b' (cs.map TT.tm)
  tin : t.In wr
  tbl : t.Bl (fun b => J < b ∧ b < B)
  gl : Gl wr
  sm : SmW ws'
  small : ws'.length < n
  size : B ≤ wr.heap.size
theorem LB.step {R H J B k n : Nat} {ws1 : List ByteArray} {b1 : Bool} {t : Tr} {w : World} {j : Nat} {v : Value} {cs : List TT} {ws' ws'' : List ByteArray} {b' b'' : Bool} {wr w2 w3 : World} {x : TT} {gg cap1 : Nat} {X : Obj}
    (h : LB R H J B k n ws1 b1 t w j v cs ws' b' wr) (hRH : R < H) (hHJ : H < J) (hJB : J < B) (hw : w.heap.size ≤ H) (hR : 12 ≤ R) (hj : j < partsOf (k : Int))
    (hin : x.In w2) (hbl : x.Bl (wr.heap.size ≤ ·)) (hk : Kept R none wr w2) (hr : RS R ws'' b'' w2) (hs : StepR ((readTm n ws').map (·.2)) b' ws'' b'') (he : ∀ p, readTm n ws' = some p → x.tm = p.1)
    (hown : w3.ownsRow B 27 7 (.slice (some ⟨gg, 0, none⟩) (cs.length + 1) cap1) (cs.length + 1) (cells7 cs ++ cells7 [x])) (hgrow : (w2.alloc X).grownBy w3 v.ownBlock) (hat : v.ownBlock = some gg ∨ gg = w2.heap.size + 1) :
    LB R H J B k n ws1 b1 t w (j + 1) (.slice (some ⟨gg, 0, none⟩) (cs.length + 1) cap1) (cs ++ [x]) ws'' b'' (w3.setCell ⟨J, 6, none⟩ (.slice (some ⟨gg, 0, none⟩) (cs.length + 1) cap1)) := by
  have hsz := h.size
  have hks := hk.size
  have hov : ∀ q, v.ownBlock = some q → B ≤ q ∧ q < wr.heap.size := h.row.lt
  have hrow2 : Row B v cs w2 := h.row.kept hk (by omega)
  obtain ⟨hrow3, hblk⟩ := hrow2.step hin (hbl.mono fun b hb => ⟨by omega, fun e => by have := (hov b e.symm).2; omega⟩) hown hgrow hat
  have hlow : ∀ q, q < B → w3.heap[q]? = w2.heap[q]? := fun q hq => hblk q (by omega) (fun e => by have := (hov q e.symm).1; omega)
  have hs3 : w2.heap.size ≤ w3.heap.size := by have := hgrow.size; simp at this; omega
  have hk23 : ∀ {u : World}, Kept R none u w2 → u.heap.size ≤ B → Kept R none u w3 := fun hu hB => hu.agree (hgrow.os.trans rfl) (hgrow.tape.trans rfl) (hgrow.output.trans rfl) hs3 (fun q hq => hlow q (by omega))
  have hkJ : Kept J none w3 (w3.setCell ⟨J, 6, none⟩ (.slice (some ⟨gg, 0, none⟩) (cs.length + 1) cap1)) := setR_kept
  obtain ⟨a, c, hv, hbox⟩ := h.box
  have hbox3 : Box7 w3 J ⟨(k : Int), 0, t, leaf 0, a, c, cs⟩ := (hbox.kept hk (by omega)).agree (hlow J hJB)
  have hw2 : Kept R none w w2 := h.kept.trans hk
  have hinv := h.inv.step (readTm_nil n) hj hs he
  refine ⟨hrow3.kept hkJ (by omega), by rw [List.length_append, h.len]; rfl, ⟨some ⟨gg, 0, none⟩, cap1, ?_, ?_⟩, ?_, ?_, ?_, ?_, ?_, h.tbl, ?_, ?_, ?_, ?_⟩
  · rw [List.length_append, List.length_singleton]
  · have := hbox3.set6 (a' := some ⟨gg, 0, none⟩) (c' := cap1) (l' := cs ++ [x])
    rw [List.length_append, List.length_singleton] at this
    exact this
  · exact ((h.res.kept hk (by omega)).agree (hlow H (by omega))).kept hkJ (by omega)
  · exact (hr.agree fun q hq => hlow q (by omega)).new hkJ (by omega)
  · exact (hk23 hw2 (by omega)).new hkJ (by omega)
  · rw [List.map_append]
    exact hinv
  · exact ((h.tin.keptR hk (h.tbl.mono fun b hb => by omega)).agree h.tbl (fun q hq => hlow q hq.2)).keptR hkJ (h.tbl.mono fun b hb => by omega)
  · exact ((h.gl.kept hR hk).of fun g hg => hlow g (by omega)).kept (by omega) hkJ
  · exact h.sm.step hs (fun r hr => by obtain ⟨p, hp, rfl⟩ := Option.map_eq_some_iff.1 hr; exact readTm_suf n _ _ hp)
  · have := h.small
    refine Nat.lt_of_le_of_lt (hs.len (N := ws'.length) fun r hr => ?_) this
    obtain ⟨p, hp, rfl⟩ := Option.map_eq_some_iff.1 hr
    exact Nat.le_of_lt (readTm_len n _ _ hp)
  · have := hkJ.size
    omega
end Go.Proofs.YtnddkmccagiclaaGreatDoor

/-
  What the calls of (*reader).readTermInBrackets and (*reader).readTerm do, whatever words are left.
-/
namespace Go.Proofs.YtnddkmccagiclaaGreatDoor
open Go.RowKit
theorem kindAt_range {y : ByteArray} {k : Nat} (h : kindAt y = some k) : 4 ≤ k ∧ k ≤ 9 := by
  simp only [kindAt, kindWs, atWord] at h
  repeat' split at h
  all_goals first
    | (cases h; omega)
    | cases h
set_option maxRecDepth 20000 in
set_option maxHeartbeats 8000000 in
/-- The word is one of the words. -/
theorem brack_good (R n : Nat) (y : ByteArray) (k : Nat) (hy : kindAt y = some k) (r1 : List ByteArray) (b : Bool) (w : World) (hg : Gl w) (hR : 12 ≤ R) (h : RS R (y :: r1) b w) (hn : r1.length < n) (hsm : SmW r1)
    (ih : Hid (∀ (ws : List ByteArray) (b : Bool) (w : World), ws.length < n → SmW ws → Gl w → RS R ws b w → Calls Tryz.prog 29 #[.pointer (some ⟨R, 0, none⟩)] w (TmPost R b (readTm n ws) w))) :
    Calls Tryz.prog 53 #[.pointer (some ⟨R, 0, none⟩)] w (TmPost R b (inTm n (y :: r1)) w) := by
  obtain ⟨i0, hi0, hz0, hz1, hz2⟩ := info_parts Tryz.info27
  have HN : Hid (Calls Tryz.prog 52 #[.pointer (some ⟨R, 0, none⟩)] (w7 w) fun e w' => e = .returned (.string y) ∧ RS R r1 b w' ∧ Kept R none (w7 w) w') := next_cons R y r1 b _ (h.below (w7_below w))
  have hRl := h.lt
  have HG : Hid (Gl (w7 w)) := hg.below (w7_below w)
  have hkr := kindAt_range hy
  have HY : Hid (kindAt y = some k) := hy
  have HL : Hid (r1.length < n ∧ SmW r1) := ⟨hn, hsm⟩
  have hpl := parts_le (k : Int)
  have HP3 : Hid (partsOf (k : Int) ≤ 3) := hpl
  clear hg h hn hsm
  obtain ⟨P, hP⟩ : ∃ P, partsOf (k : Int) = P := ⟨_, rfl⟩
  have HP : Hid (partsOf (k : Int) = P) := hP
  have hPl : (P : Int) ≤ 3 := by rw [← hP]; omega
  clear hP hpl
  go_enter Tryz.func53, Tryz.ntmps53
  go_wp2_with fail
  refine HN.out.mono ?_
  rintro e w1 ⟨rfl, hr, hk⟩
  have hne : w.heap.size ≠ R := by omega
  have HT : Hid (Calls Tryz.prog 83 #[.string y] w1 fun e w' => e = .returned (.tuple #[.int .i64 (k : Int), .bool true]) ∧ w' = w1) := by
    have := kindOf_any y w1 (HG.out.kept hR hk)
    rw [hy] at this
    exact this
  have hres1 : Box7 w1 w.heap.size (tleaf 0 0) := (box7_alloc w).kept hk hne
  have hs1 : w.heap.size < w1.heap.size := hres1.lt
  have HD : Hid (Kept R none w w1 ∧ Box7 w1 w.heap.size (tleaf 0 0) ∧ RS R r1 b w1 ∧ Gl w1) := ⟨(Kept.of_below (w7_below w)).trans hk, hres1, hr, HG.out.kept hR hk⟩
  clear hr hk HN HG hy hres1
  have HK : Hid (∀ w, Calls Tryz.prog 37 #[.int .i64 (k : Int)] w fun e w' => e = .returned (.bool (tells (k : Int))) ∧ w' = w) := tells_any (k : Int)
  -- the box of the term
  obtain ⟨O, hO⟩ : ∃ O, O = Obj.cells #[.int .i64 (k : Int), .int .i64 0, .int .i64 0, .slice none 0 0, .int .i64 0, .slice none 0 0, .slice none 0 0] 27 := ⟨_, rfl⟩
  have hb2 : Below w1.heap.size w1 (w1.alloc O) := (Below.refl _ _).alloc (Nat.le_refl _) _
  have hbx2 : Box7 (w1.alloc O) w1.heap.size ⟨(k : Int), 0, leaf 0, leaf 0, none, 0, []⟩ := by
    subst hO
    refine ⟨⟨?_, ?_, ?_, ?_, ?_, ?_, ?_⟩, fun i hi => ?_⟩
    · simp [go_sem]
    · simp [go_sem]
    · simp [go_sem, leaf]
    · simp [go_sem, leaf]
    · simp [go_sem, leaf]
    · simp [go_sem, leaf]
    · simp [go_sem]
    · simp [go_sem]
  have HE : Hid (Kept R none w (w1.alloc O) ∧ Box7 (w1.alloc O) w.heap.size (tleaf 0 0) ∧ RS R r1 b (w1.alloc O) ∧ Gl (w1.alloc O) ∧ Box7 (w1.alloc O) w1.heap.size ⟨(k : Int), 0, leaf 0, leaf 0, none, 0, []⟩) :=
    ⟨HD.out.1.trans (Kept.of_below hb2), HD.out.2.1.below hb2, HD.out.2.2.1.below hb2, HD.out.2.2.2.below hb2, hbx2⟩
  have hs2 : (w1.alloc O).heap.size = w1.heap.size + 1 := by simp
  obtain ⟨bt, hbt⟩ : ∃ bt, tells (k : Int) = bt := ⟨_, rfl⟩
  rw [hbt] at HK
  have HBT : Hid (tells (k : Int) = bt) := hbt
  clear hbt hbx2 hb2 HD
  cases bt
  rotate_left
  focus
    have HTY : Hid (Calls Tryz.prog 84 #[.pointer (some ⟨R, 0, none⟩)] (w1.alloc O) (TyPost R b (readTy n r1) (w1.alloc O))) := readType_any R hR n r1 b _ HL.out.1 HE.out.2.2.2.1 HE.out.2.2.1
    have HRT : Hid (readT n k r1 = readTy n r1) := by show _ = _; unfold readT; rw [HBT.out]; rfl
    have hpk : 0 < partsOf (k : Int) := by
      have := HBT.out
      simp only [tells, Bool.or_eq_true, beq_iff_eq] at this
      rcases this with e | e <;> rw [e] <;> decide
    have HPK : Hid (0 < partsOf (k : Int)) := hpk
    clear hpk
    have i1 : (0 : Int) ≤ (k : Int) := by omega
    have i2 : (k : Int) < 10 := by omega
    subst hO
    go_wp2_with fail
    refine HT.out.mono ?_
    rintro e w2 ⟨rfl, rfl⟩
    go_wp2_with fail
    refine (HK.out _).mono ?_
    rintro e w2 ⟨rfl, rfl⟩
    go_wp2_with fail
    refine HTY.out.mono ?_
    rintro e w3 ⟨t, rfl, hit, hblt, hk3, hA3, het⟩
    obtain ⟨ws1, b1, hr3, hs3⟩ := hA3.letters
    have hneJ : w2.heap.size ≠ R := by omega
    have hbx3 := HE.out.2.2.2.2.kept hk3 hneJ
    have hsz3 : w2.heap.size < w3.heap.size := hbx3.lt
    have hkJ : Kept w2.heap.size none w3 ((w3.setCell ⟨w2.heap.size, 2, none⟩ (.int .i64 t.k)).setCell ⟨w2.heap.size, 3, none⟩ (.slice t.a t.l.length t.c)) := set23_kept
    have hszW : ((w3.setCell ⟨w2.heap.size, 2, none⟩ (.int .i64 t.k)).setCell ⟨w2.heap.size, 3, none⟩ (.slice t.a t.l.length t.c)).heap.size = w3.heap.size := by simp [World.setCell]
    have hgl3 : Gl w3 := HE.out.2.2.2.1.kept hR hk3
    have HLB0 : Hid (LB R w.heap.size w2.heap.size w3.heap.size k n ws1 b1 t w 0 (.slice none 0 0) [] ws1 b1 ((w3.setCell ⟨w2.heap.size, 2, none⟩ (.int .i64 t.k)).setCell ⟨w2.heap.size, 3, none⟩ (.slice t.a t.l.length t.c))) := by
      have hst : StepR ((readTy n r1).map (·.2)) b ws1 b1 := hs3
      refine ⟨Row.nil _ _, rfl, ⟨none, 0, rfl, hbx3.set23⟩, (HE.out.2.1.kept hk3 hne).kept hkJ (by omega), hr3.new hkJ (by omega), (HE.out.1.trans hk3).new hkJ (by omega), InvN.start _ _ _ _, hit.keptR hkJ (hblt.mono fun b hb => by simp at hb; omega), (hit.bl.and hblt).mono (fun b hb => ⟨by have := hb.2; simp at this; omega, hb.1⟩), hgl3.kept (by omega) hkJ, HL.out.2.step hst (fun r hr => by obtain ⟨p, hp, rfl⟩ := Option.map_eq_some_iff.1 hr; exact readTy_suf n _ _ hp), ?_, by rw [hszW]; exact Nat.le_refl _⟩
      refine Nat.lt_of_le_of_lt (hst.len (N := r1.length) fun r hr => ?_) HL.out.1
      obtain ⟨p, hp, rfl⟩ := Option.map_eq_some_iff.1 hr
      exact Nat.le_of_lt (readTy_len n _ _ hp)
    have HS : Hid (StepR ((readT n k r1).map (·.2)) b ws1 b1 ∧ (∀ p, readT n k r1 = some p → t.ty = p.1) ∧ (readT n k r1 = none → 0 < partsOf (k : Int))) := by
      show _ ∧ _
      rw [HRT.out]
      exact ⟨hs3, het, fun _ => HPK.out⟩
    have hp : w3.cell? ⟨2, k, none⟩ = some (.int .i64 (P : Int)) := by
      rw [← HP.out]
      exact parts_cell hgl3.gp (k : Int) (by omega) (by omega)
    have h2J : (2 : Nat) ≠ w2.heap.size := by omega
    have q2 := hbx3.at7.c2
    have q3 := hbx3.at7.c3
    simp only [Nat.zero_add, leaf] at q2 q3
    have g2 := hbx3.fz 2 (by omega)
    have g3 := hbx3.fz 3 (by omega)
    obtain ⟨B, hB⟩ : ∃ B, w3.heap.size = B := ⟨_, rfl⟩
    have hJB : w2.heap.size < B := by omega
    rw [hB] at HLB0
    clear hB hs2 hit hblt hk3 hA3 het hr3 hs3 hbx3 hkJ hszW hgl3 HTY
    go_wp2_with fail
  rotate_left
  focus
    have HLB : Hid (∃ (t : Tr) (ws1 : List ByteArray) (b1 : Bool), LB R w.heap.size w1.heap.size (w1.alloc O).heap.size k n ws1 b1 t w 0 (.slice none 0 0) [] ws1 b1 (w1.alloc O) ∧ StepR ((readT n k r1).map (·.2)) b ws1 b1 ∧ (∀ p, readT n k r1 = some p → t.ty = p.1) ∧ (readT n k r1 = none → 0 < partsOf (k : Int))) := by
      have e : readT n k r1 = some (anyY, r1) := by unfold readT; rw [HBT.out]; rfl
      refine ⟨leaf 0, r1, b, ⟨Row.nil _ _, rfl, ⟨none, 0, rfl, HE.out.2.2.2.2⟩, HE.out.2.1, HE.out.2.2.1, HE.out.1, InvN.start _ _ _ _, leaf_in _ _, leaf_bl _ _, HE.out.2.2.2.1, HL.out.2, HL.out.1, Nat.le_refl _⟩, ?_, ?_, ?_⟩
      · rw [e]; exact .inl ⟨rfl, rfl⟩
      · intro p hp; rw [e] at hp; cases hp; exact leaf_ty 0
      · intro hp; rw [e] at hp; cases hp
    obtain ⟨t, ws1, b1, hlb, hst, het, hdd⟩ := HLB.out
    have HS : Hid (StepR ((readT n k r1).map (·.2)) b ws1 b1 ∧ (∀ p, readT n k r1 = some p → t.ty = p.1) ∧ (readT n k r1 = none → 0 < partsOf (k : Int))) := ⟨hst, het, hdd⟩
    have HLB0 : Hid (LB R w.heap.size w1.heap.size (w1.alloc O).heap.size k n ws1 b1 t w 0 (.slice none 0 0) [] ws1 b1 (w1.alloc O)) := hlb
    clear hst het hdd hlb HLB
    have hp : (w1.alloc O).cell? ⟨2, k, none⟩ = some (.int .i64 (P : Int)) := by
      rw [← HP.out]
      exact parts_cell HE.out.2.2.2.1.gp (k : Int) (by omega) (by omega)
    obtain ⟨B, hB⟩ : ∃ B, (w1.alloc O).heap.size = B := ⟨_, rfl⟩
    have hJB : w1.heap.size < B := by rw [← hB, hs2]; omega
    rw [hB] at HLB0
    clear hB hs2
    have i1 : (0 : Int) ≤ (k : Int) := by omega
    have i2 : (k : Int) < 10 := by omega
    subst hO
    go_wp2_with fail
    refine HT.out.mono ?_
    rintro e w2 ⟨rfl, rfl⟩
    go_wp2_with fail
    refine (HK.out _).mono ?_
    rintro e w2 ⟨rfl, rfl⟩
    go_wp2_with fail
  all_goals
    go_loopg [27] P (fun g i wr => ∃ (j : Nat) (v : Value) (cs : List TT) (ws' : List ByteArray) (b' : Bool), g + j = P ∧ i = .int .i64 (j : Int) ∧ Hid (LB R w.heap.size w2.heap.size B k n ws1 b1 t w j v cs ws' b' wr))
    case atStart => exact ⟨0, _, _, _, _, by omega, rfl, HLB0⟩
    case round =>
      obtain ⟨j, v, cs, ws', b', hj, rfl, HQ⟩ := hrel
      have hJR : w2.heap.size ≠ R := by omega
      have hclen : cs.length = j := HQ.out.len
      by_cases hlt : j < P
      · have hb1 : Below wr.heap.size wr wr.drew := (Below.refl _ _).drew
        have HI : Hid (Calls Tryz.prog 29 #[.pointer (some ⟨R, 0, none⟩)] wr.drew (TmPost R b' (readTm n ws') wr.drew)) := ih.out ws' b' _ HQ.out.small HQ.out.sm (HQ.out.gl.below hb1) (HQ.out.rs.below hb1)
        have HRW : Hid (Row B v cs wr.drew) := HQ.out.row.below hb1
        obtain ⟨a, c, hv, hbx⟩ := HQ.out.box
        have u1 : wr.drew.cell? ⟨w2.heap.size, 6, none⟩ = some v := by rw [hv]; exact hbx.at7.c6
        have uf : wr.drew.frozen? ⟨w2.heap.size, 6, none⟩ = false := hbx.fz 6 (by omega)
        have uo : wr.drew.ownsRow B 27 7 v cs.length (cells7 cs) := HRW.out.own
        have us : w2.heap.size < wr.drew.heap.size := World.block_lt_of_cell? _ _ u1
        have hnv : v.ownBlock ≠ some w2.heap.size := fun e => by have := (HQ.out.row.lt _ e).1; omega
        have hszB : B ≤ wr.heap.size := HQ.out.size
        have hcl3 : cs.length ≤ 3 := by omega
        have hRB : R < B := by omega
        clear hv hbx
        have hJP : j < partsOf (k : Int) := by rw [HP.out]; exact hlt
        have HJP : Hid (j < partsOf (k : Int)) := hJP
        have HJ : Hid (j + 1 ≤ P ∧ gk + j = P) := ⟨hlt, hj⟩
        clear hJP hj hp hclen
        go_wp2_with fail
        go_region_law
          (first
            | (go_simp; go_at_call 29; refine HI.out.mono ?_; rintro e w5 ⟨x, rfl, hin, hbl, hk5, hA5, he5⟩; replace u1 := hk5.cell u1 hJR; replace uf := hk5.fz uf us hJR; replace uo := (HRW.out.kept hk5 hRB).own; replace us : w2.heap.size < w5.heap.size := World.block_lt_of_cell? _ _ u1; have hnew := heap_alloc_new w5 (.cells #[.int .i64 x.k, .int .i64 x.n, .int .i64 x.t.k, .slice x.t.a x.t.l.length x.t.c, .int .i64 x.f.k, .slice x.f.a x.f.l.length x.f.c, .slice x.a x.l.length x.c] 27); have un : w2.heap.size ≠ w5.heap.size := Nat.ne_of_lt us; go_wp2_with fail)
            | (refine step_append_lies _ (by rfl) _ _ _ (by rfl) B 27 i0 _ 7 104 Tryz.underlying25 hi0 hz0 hz1 hz2 rfl (by omega) v cs.length (cells7 cs) (by rfl) (uo.alloc _)
                  ⟨w5.heap.size, 0, none⟩ 1 1 [.int .i64 x.k, .int .i64 x.n, .int .i64 x.t.k, .slice x.t.a x.t.l.length x.t.c, .int .i64 x.f.k, .slice x.f.a x.f.l.length x.f.c, .slice x.a x.l.length x.c] (by rfl) (by rfl) (World.news_of_block (cs := #[.int .i64 x.k, .int .i64 x.n, .int .i64 x.t.k, .slice x.t.a x.t.l.length x.t.c, .int .i64 x.f.k, .slice x.f.a x.f.l.length x.f.c, .slice x.a x.l.length x.c]) (t := 27) (fr := (0, 0)) hnew) (by simp [Value.oneCell'])
                  (by omega) (by unfold maxLen; omega) (by omega) (by have := hk5.size; simp at this ⊢; omega) (w5.heap.size + 1) (by simp) ?_; intro gg cap1 w6 hown1 hgrow hat hlt3; have hcr : w6.cell? ⟨w2.heap.size, 6, none⟩ = some v := (by rw [hgrow.cell_far _ (by simp; omega) (Ne.symm hnv)]; exact cell_later ((Below.refl _ _).alloc (Nat.le_refl _) _) u1); have hfr : w6.frozen? ⟨w2.heap.size, 6, none⟩ = false := (by rw [hgrow.frozen_far _ (by simp; omega) (Ne.symm hnv)]; exact (((Below.refl _ _).alloc (Nat.le_refl _) _).frozen (p := ⟨w2.heap.size, 6, none⟩) us).trans uf)))
        all_goals
          obtain ⟨ws'', b'', hr5, hs5⟩ := hA5.letters
          have HN : Hid (LB R w.heap.size w2.heap.size B k n ws1 b1 t w (j + 1) (.slice (some ⟨gg, 0, none⟩) (cs.length + 1) cap1) (cs ++ [x]) ws'' b'' (w6.setCell ⟨w2.heap.size, 6, none⟩ (.slice (some ⟨gg, 0, none⟩) (cs.length + 1) cap1))) :=
            HQ.out.step hRl hs1 hJB (Nat.le_refl _) hR HJP.out hin (hbl.mono fun b hb => by simpa using hb) ((Kept.of_below hb1).trans hk5) hr5 hs5 he5 hown1 hgrow hat
          clear hown1 hgrow hat hcr hfr hin hbl hk5 hA5 he5 hr5 hs5 uo uf u1 us HI HRW HQ hnew un hb1
          go_wp2_with fail
          go_roundg (P - (j + 1))
          case measure => have := HJ.out; omega
          case rel => exact ⟨j + 1, _, _, _, _, by have := HJ.out; omega, by go_num, HN⟩
      · have hjP : j = P := by omega
        have HW : Hid (Calls Tryz.prog 85 #[.pointer (some ⟨R, 0, none⟩), .string ⟨#[41]⟩] wr fun e w' => e = .returned (.tuple #[]) ∧ After R b' (behind clB ws') w' ∧ Kept R none wr w') := want_any R clB (by decide) ws' b' _ HQ.out.rs
        have HJP : Hid (j = P) := hjP
        clear hp hclen hj hjP
        go_wp2_with fail
        refine HW.out.mono ?_
        rintro e w5 ⟨rfl, hA5, hk5⟩
        obtain ⟨ws3, b3, hr5, hs5⟩ := hA5.letters
        obtain ⟨a, c, hv, hbx⟩ := HQ.out.box
        have hszB : B ≤ wr.heap.size := HQ.out.size
        obtain ⟨a', c', hv', htree⟩ := (HQ.out.row.kept hk5 (by omega)).tree
        rw [hv] at hv'
        obtain ⟨rfl, rfl⟩ : a = a' ∧ c = c' := by cases hv'; exact ⟨rfl, rfl⟩
        have hbx5 := hbx.kept hk5 hJR
        have hres5 := HQ.out.res.kept hk5 hne
        have hti := htree (k : Int) 0 t (leaf 0) (HQ.out.tin.keptR hk5 (HQ.out.tbl.mono fun b hb => by omega)) (leaf_in _ _)
        have hbl := hti.2 (fun b => w.heap.size < b) (fun b hb => by omega) (HQ.out.tbl.mono fun b hb => by omega) (leaf_bl _ _)
        have hfin := inTm_steps HY.out HS.out.1 HS.out.2.1 (by have := HQ.out.inv; rw [HJP.out, ← HP.out] at this; exact this) hs5 HS.out.2.2
        have htm : (TT.mk (k : Int) 0 t (leaf 0) a c cs).tm = ⟨(k : Int), 0, t.ty, anyY, cs.map TT.tm⟩ := by rw [TT.tm_mk, leaf_ty]; rfl
        have HE5 : Hid (TmPost R b (inTm n (y :: r1)) w (.returned (.agg #[.int .i64 (k : Int), .int .i64 0, .int .i64 t.k, .slice t.a t.l.length t.c, .int .i64 0, .slice none 0 0, .slice a cs.length c])) (put7 w5 w.heap.size (TT.mk (k : Int) 0 t (leaf 0) a c cs))) :=
          (tm_end (x := TT.mk (k : Int) 0 t (leaf 0) a c cs) hres5 (Nat.le_refl _) hRl hti.1 hbl (HQ.out.kept.trans hk5) hr5 hfin.1 (fun p hp => by rw [htm]; exact hfin.2 p hp)).1
        have HGT := put7_gets (x := TT.mk (k : Int) 0 t (leaf 0) a c cs) hres5
        have h7 := hbx5.at7
        have c0 := h7.c0
        have c1 := h7.c1
        have c2 := h7.c2
        have c3 := h7.c3
        have c4 := h7.c4
        have c5 := h7.c5
        have c6 := h7.c6
        simp only [Nat.zero_add, leaf] at c0 c1 c2 c3 c4 c5 c6
        have r7 := hres5.at7
        have e0 := r7.c0
        have e1 := r7.c1
        have e2 := r7.c2
        have e3 := r7.c3
        have e4 := r7.c4
        have e5 := r7.c5
        have e6 := r7.c6
        simp only [Nat.zero_add, tleaf] at e0 e1 e2 e3 e4 e5 e6
        have f0 := hres5.fz 0 (by omega)
        have f1 := hres5.fz 1 (by omega)
        have f2 := hres5.fz 2 (by omega)
        have f3 := hres5.fz 3 (by omega)
        have f4 := hres5.fz 4 (by omega)
        have f5 := hres5.fz 5 (by omega)
        have f6 := hres5.fz 6 (by omega)
        have HGT' : Hid _ := HGT
        clear h7 r7 hA5 hk5 hr5 hs5 hv hv' hbx htree hbx5 hres5 hti hbl hfin htm HQ HW HGT
        go_wp2_with fail
        refine bodyPost_ret (v := .agg #[.int .i64 (k : Int), .int .i64 0, .int .i64 t.k, .slice t.a t.l.length t.c, .int .i64 0, .slice none 0 0, .slice a cs.length c]) ?_ rfl HE5.out
        obtain ⟨d0, d1, d2, d3, d4, d5, d6⟩ := HGT'.out
        simp only [leaf, List.length_nil] at d0 d1 d2 d3 d4 d5 d6
        simp [results, Tryz.results53, go_sem, d0, d1, d2, d3, d4, d5, d6]
/-- (*reader).readTerm. -/
theorem readTerm_any (R : Nat) (hR : 12 ≤ R) (n : Nat) : ∀ (ws : List ByteArray) (b : Bool) (w : World), ws.length < n → SmW ws → Gl w → RS R ws b w →
    Calls Tryz.prog 29 #[.pointer (some ⟨R, 0, none⟩)] w (TmPost R b (readTm n ws) w) := by
  induction n with
  | zero => intro ws b w h; omega
  | succ n ih =>
    intro ws b w hn hsm hg h
    cases ws with
    | nil => exact readTerm_nil R (n + 1) b w hg hR h
    | cons x r =>
      by_cases hx : x = opB
      · subst hx
        rw [readTm_open]
        refine readTerm_open R n r b w hR hg h (fun w hg h => ?_)
        have hsr : SmW r := fun x hx => hsm x (by simp [hx])
        cases r with
        | nil =>
          exact brack_bad R ⟨#[]⟩ (by decide) [] b true w hg hR h.lt (next_nil R b _ (h.below (w7_below w)))
        | cons y r1 =>
          cases hy : kindAt y with
          | none =>
            have e : inTm n (y :: r1) = none := by simp [inTm, hy]
            rw [e]
            exact brack_bad R y hy r1 b b w hg hR h.lt (next_cons R y r1 b _ (h.below (w7_below w)))
          | some k => exact brack_good R n y k hy r1 b w hg hR h (by simp at hn; omega) (fun x hx => hsr x (by simp [hx])) ih
      · exact readTerm_word R n x (hsm x (by simp)) r hx b w hg hR h
end Go.Proofs.YtnddkmccagiclaaGreatDoor

/-
  What the calls of term.isSpace and term.cut answer: the words of a text.
-/
namespace Go.Proofs.YtnddkmccagiclaaGreatDoor
open Go.RowKit
theorem replaceK_skip (c b : UInt8) (new : List UInt8) (h : b ≠ c) : ∀ (n : Nat) (l : List UInt8), n ≤ Lib.count l [c] → Lib.replaceK [c] new n (b :: l) = b :: Lib.replaceK [c] new n l
  | 0, l, _ => rfl
  | n + 1, l, hn => by
    obtain ⟨j, hj⟩ := Lib.index_of_count (s := l) (old := [c]) (by omega)
    have hp : ([c] : List UInt8).isPrefixOf (b :: l) = false := by simp [List.isPrefixOf, Ne.symm h]
    have hj' : Lib.index (b :: l) [c] = ((j + 1 : Nat) : Int) := by
      rw [Lib.index, hp]
      simp only [Bool.false_eq_true, if_false]
      rw [if_neg (by rw [hj]; simp), hj]
      omega
    rw [Lib.replaceK_hit _ _ _ _ _ hj', Lib.replaceK_hit _ _ _ _ _ hj]
    have e : j + 1 + [c].length = (j + [c].length) + 1 := by omega
    rw [e, List.take_succ_cons, List.drop_succ_cons]
    rfl
theorem replaceK_around (c : UInt8) : ∀ s : List UInt8, Lib.replaceK [c] [32, c, 32] (Lib.count s [c]) s = around c s
  | [] => by rw [Lib.count_one]; rfl
  | b :: l => by
    by_cases h : b = c
    · subst h
      have hi : Lib.index (b :: l) [b] = ((0 : Nat) : Int) := by rw [Lib.index]; simp [List.isPrefixOf]
      rw [Lib.count_cons_eq, Nat.add_comm, Lib.replaceK_hit _ _ _ _ _ hi, around_cons, if_pos rfl]
      have e : 0 + [b].length = 0 + 1 := rfl
      rw [e, List.drop_succ_cons, List.drop_zero, replaceK_around b l]
      simp
    · rw [Lib.count_cons_ne b c l h, replaceK_skip c b _ h _ l (Nat.le_refl _), replaceK_around c l, around_cons, if_neg h]
      rfl
theorem replaceAll_around (c : UInt8) (s : List UInt8) : Lib.replaceAll s [c] [32, c, 32] = around c s := by
  have hne : ([c] == [32, c, 32]) = false := by simp
  have hn : Lib.replaceNum s [c] (-1) = Lib.count s [c] := by rw [Lib.replaceNum, if_pos (.inl (by omega))]
  rw [Lib.replaceAll, Lib.replace, hne, hn]
  exact replaceK_around c s
theorem around_len (c : UInt8) : ∀ s : List UInt8, (around c s).length ≤ 3 * s.length
  | [] => by simp [around]
  | x :: s => by
    rw [around_cons]
    have := around_len c s
    split <;> simp <;> omega
/-- The words of a text. -/
def wordsOf (s : List UInt8) : List ByteArray := (tokW [] s).map bw
theorem fields_words (s : List UInt8) : Lib.goFieldsP spR (bw (around 41 (around 40 s))) = wordsOf s := by
  have h := spans_split (bw (around 41 (around 40 s))) (bw (around 41 (around 40 s))).size 0 none [] (Nat.zero_le _) (by omega) (by intro a h; cases h)
  simp only [List.map_nil, List.nil_append, curOf, List.drop_zero, bw_data] at h
  rw [split_tok] at h
  rw [wordsOf, ← h, Lib.goFieldsP, Lib.spansOfP, List.map_map]
  refine List.map_congr_left fun x _ => ?_
  show _ = bw (bytesOf _ x)
  have e : ((bw (around 41 (around 40 s))).extract x.1 x.2).data.toList = bytesOf (bw (around 41 (around 40 s))) x := by
    rw [Lib.extract_data]
    rfl
  rw [← e]
  rfl
set_option maxHeartbeats 400000 in
/-- term.isSpace. -/
theorem isSpace_any (x : Nat) (w : World) : Calls Tryz.prog 51 #[.int .i32 (x : Int)] w fun e w' => e = .returned (.bool (spR x)) ∧ w' = w := by
  have e1 : ((x : Int) == 32) = (x == 32) := by rw [Bool.eq_iff_iff]; simp; omega
  have e2 : ((x : Int) == 10) = (x == 10) := by rw [Bool.eq_iff_iff]; simp; omega
  cases h : (x == 32) with
  | true =>
    rw [h] at e1
    have HO : Hid (spR x = true) := by show _ = _; simp [spR, h]
    clear e2 h
    go_enter Tryz.func51, Tryz.ntmps51
    go_wp2_with fail
    go_ret
    exact ⟨by rw [HO.out]; rfl, rfl⟩
  | false =>
    rw [h] at e1
    have HO : Hid (spR x = (x == 10)) := by show _ = _; simp [spR, h]
    have HE : Hid (((x : Int) == 10) = (x == 10)) := e2
    clear e2 h
    go_enter Tryz.func51, Tryz.ntmps51
    go_wp2_with fail
    go_ret
    exact ⟨by rw [HO.out, ← HE.out]; rfl, rfl⟩
theorem sp_open : (({ data := #[32] } ++ { data := #[40] } ++ { data := #[32] } : ByteArray)) = ⟨#[32, 40, 32]⟩ := by decide
theorem sp_close : (({ data := #[32] } ++ { data := #[41] } ++ { data := #[32] } : ByteArray)) = ⟨#[32, 41, 32]⟩ := by decide
theorem repl_any (c : UInt8) (s new : ByteArray) (hnew : new = ⟨#[32, c, 32]⟩) (hs : s.size ≤ 100000) (w : World) (hg : Gl w) :
    Calls Tryz.prog 49 #[.string s, .string ⟨#[c]⟩, .string new] w fun e w' => e = .returned (.string (bw (around c s.data.toList))) ∧ Below w.heap.size w w' := by
  obtain ⟨m, hm⟩ := hg.mx
  have hc := hm.cell 0
  have hcb := Lib.countB_le ⟨#[c]⟩ (by show 1 ≤ 1; omega) s.size s (Nat.le_refl _)
  have hns : new.size = 3 := by rw [hnew]; rfl
  have h := Tryz.strings_ReplaceAll s ⟨#[c]⟩ new m w (by omega) (by simpa using hc) (by show 1 ≤ 1; omega) (by rw [hns]; omega)
  have e : Lib.replaceAll s.data.toList (⟨#[c]⟩ : ByteArray).data.toList new.data.toList = around c s.data.toList := by rw [hnew]; exact replaceAll_around c _
  rw [e] at h
  exact h
set_option maxRecDepth 20000 in
set_option maxHeartbeats 1000000 in
/-- term.cut. -/
theorem cut_any (s : ByteArray) (hs : s.size ≤ 1000) (w : World) (hg : Gl w) :
    Calls Tryz.prog 28 #[.string s] w fun e w' => ∃ A, e = .returned (.slice (some ⟨A, 0, none⟩) (wordsOf s.data.toList).length (wordsOf s.data.toList).length) ∧ w.heap.size ≤ A ∧
      w'.ownsRow w.heap.size 9 1 (.slice (some ⟨A, 0, none⟩) (wordsOf s.data.toList).length (wordsOf s.data.toList).length) (wordsOf s.data.toList).length ((wordsOf s.data.toList).map Value.string) ∧ Below w.heap.size w w' := by
  have x0 := idx78_0 (.string ⟨#[40]⟩) (.string ⟨#[41]⟩)
  have x1 := idx78_1 (.string ⟨#[40]⟩) (.string ⟨#[41]⟩)
  go_enter Tryz.func28, Tryz.ntmps28
  go_wp2_with fail
  go_loopg [0, 6] 2 (fun k v i wr => ∃ j : Nat, k + j = 2 ∧ i = .int .i64 (j : Int) ∧ Below w.heap.size w wr ∧ ((j = 0 ∧ v = .string s ∧ wr = w) ∨ (j = 1 ∧ v = .string (bw (around 40 s.data.toList))) ∨ (j = 2 ∧ v = .string (bw (around 41 (around 40 s.data.toList))))))
  case atStart => exact ⟨0, rfl, rfl, Below.refl _ _, .inl ⟨rfl, rfl, rfl⟩⟩
  case round =>
    obtain ⟨j, hj, rfl, hb, ⟨rfl, rfl, rfl⟩ | ⟨rfl, rfl⟩ | ⟨rfl, rfl⟩⟩ := hrel
    · have HR : Hid (Calls Tryz.prog 49 #[.string s, .string ⟨#[40]⟩, .string (⟨#[32]⟩ ++ ⟨#[40]⟩ ++ ⟨#[32]⟩)] wr fun e w' => e = .returned (.string (bw (around 40 s.data.toList))) ∧ Below wr.heap.size wr w') := repl_any 40 s _ sp_open (by omega) wr hg
      clear hg
      go_wp2_with fail
      refine HR.out.mono ?_
      rintro e w1 ⟨rfl, hb1⟩
      go_wp2_with fail
      go_roundg 1
      case measure => omega
      case rel => exact ⟨1, rfl, rfl, hb1, .inr (.inl ⟨rfl, rfl⟩)⟩
    · have hl := around_len 40 s.data.toList
      have hsl : s.data.toList.length = s.size := Array.length_toList
      have hsz : (bw (around 40 s.data.toList)).size ≤ 3000 := by show (around 40 s.data.toList).toArray.size ≤ 3000; simp; omega
      have HR : Hid (Calls Tryz.prog 49 #[.string (bw (around 40 s.data.toList)), .string ⟨#[41]⟩, .string (⟨#[32]⟩ ++ ⟨#[41]⟩ ++ ⟨#[32]⟩)] wr fun e w' => e = .returned (.string (bw (around 41 (around 40 s.data.toList)))) ∧ Below wr.heap.size wr w') := repl_any 41 (bw (around 40 s.data.toList)) _ sp_close (by omega) wr (hg.below hb)
      clear hg hl hsl hsz
      go_wp2_with fail
      refine HR.out.mono ?_
      rintro e w1 ⟨rfl, hb1⟩
      have hb2 := hb.trans (hb1.mono hb.size)
      clear hb1 hb
      go_wp2_with fail
      go_roundg 0
      case measure => omega
      case rel => exact ⟨2, rfl, rfl, hb2, .inr (.inr ⟨rfl, rfl⟩)⟩
    · have hl := around_len 40 s.data.toList
      have hl2 := around_len 41 (around 40 s.data.toList)
      have hsl : s.data.toList.length = s.size := Array.length_toList
      have hsz : (bw (around 41 (around 40 s.data.toList))).size ≤ 9000 := by show (around 41 (around 40 s.data.toList)).toArray.size ≤ 9000; simp; omega
      have HF : Hid (Calls Tryz.prog 50 #[.string (bw (around 41 (around 40 s.data.toList))), .func (.func 51) #[] #[]] wr fun e w' => ∃ A, e = .returned (.slice (some ⟨A, 0, none⟩) (wordsOf s.data.toList).length (wordsOf s.data.toList).length) ∧ wr.heap.size ≤ A ∧
          w'.ownsRow wr.heap.size 9 1 (.slice (some ⟨A, 0, none⟩) (wordsOf s.data.toList).length (wordsOf s.data.toList).length) (wordsOf s.data.toList).length ((wordsOf s.data.toList).map Value.string) ∧ Below wr.heap.size wr w') := by
        have h := Tryz.strings_FieldsFunc_grows 51 #[] (enters_of Tryz.func51 (by kernel_rfl) rfl) spR (bw (around 41 (around 40 s.data.toList))) wr (by omega) (fun W x _ _ => (isSpace_any x W).mono (by rintro e w' ⟨rfl, rfl⟩; exact ⟨rfl, Below.refl _ _⟩))
        rw [fields_words] at h
        exact h
      clear hg hl hl2 hsl hsz
      go_wp2_with fail
      refine HF.out.mono ?_
      rintro e w1 ⟨A, rfl, hA, hown, hb1⟩
      have HE : Hid (w.heap.size ≤ A ∧ w1.ownsRow w.heap.size 9 1 (.slice (some ⟨A, 0, none⟩) (wordsOf s.data.toList).length (wordsOf s.data.toList).length) (wordsOf s.data.toList).length ((wordsOf s.data.toList).map Value.string) ∧ Below w.heap.size w w1) := by
        have hsz := hb.size
        refine ⟨by omega, ⟨hown.1, ?_⟩, hb.trans (hb1.mono hb.size)⟩
        rcases hown.2 with hn | ⟨g, cap, cur, hv, hbg, rest⟩
        · exact .inl hn
        · exact .inr ⟨g, cap, cur, hv, by omega, rest⟩
      clear hA hown hb1 hb HF
      go_wp2_with fail
      go_ret
      exact ⟨A, rfl, HE.out.1, HE.out.2.1, HE.out.2.2⟩
end Go.Proofs.YtnddkmccagiclaaGreatDoor
