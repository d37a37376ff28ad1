/-
  How a term's text is read part by part: the plain mathematics, and the call of (*reader).readTerm at a word that opens no brackets.
-/
import Derived.Test.YtnddkmccagiclabGreatDoorLotffd82e37e5
import Derived.Test.YtnddkmccagiclabGreatDoorLot59e900709f
namespace Go.Proofs.YtnddkmccagiclabGreatDoor
open Go.RowKit
theorem readN_len (f : List ByteArray → Option (Tm × List ByteArray)) (hf : ∀ ws p, f ws = some p → p.2.length ≤ ws.length) : ∀ (m : Nat) (ws : List ByteArray) (q : List Tm × List ByteArray), readN f m ws = some q → q.2.length ≤ ws.length
  | 0, ws, q, h => by simp [readN] at h; rw [← h]; exact Nat.le_refl _
  | m + 1, ws, q, h => by
    simp only [readN, Option.bind_eq_some_iff, Option.map_eq_some_iff] at h
    obtain ⟨p, hp, q', hq, rfl⟩ := h
    have := hf ws p hp
    have := readN_len f hf m _ _ hq
    simp only
    omega
/-- What stands in the brackets. -/
def inTm (n : Nat) : List ByteArray → Option (Tm × List ByteArray)
  | [] => none
  | y :: r1 => (kindAt y).bind fun k => (readT n k r1).bind fun p => (readN (readTm n) (partsOf (k : Int)) p.2).bind fun q => (behind clB q.2).map fun r4 => (⟨(k : Int), 0, p.1, anyY, q.1⟩, r4)
theorem readTm_open (n : Nat) (r : List ByteArray) : readTm (n + 1) (opB :: r) = inTm n r := by
  cases r <;> simp [readTm, inTm]
theorem readTm_word (n : Nat) (x : ByteArray) (r : List ByteArray) (hx : x ≠ opB) : readTm (n + 1) (x :: r) = readWord x r := by
  cases r <;> simp [readTm, hx]
theorem readT_len {n k : Nat} {ws : List ByteArray} {p : Ty × List ByteArray} (h : readT n k ws = some p) : p.2.length ≤ ws.length := by
  unfold readT at h
  split at h
  · exact Nat.le_of_lt (readTy_len n _ _ h)
  · cases h; exact Nat.le_refl _
theorem readWord_len {x : ByteArray} {r : List ByteArray} {p : Tm × List ByteArray} (h : readWord x r = some p) : p.2 = r := by
  unfold readWord at h
  split at h
  · cases h; rfl
  · split at h
    · obtain ⟨_, _, rfl⟩ := Option.map_eq_some_iff.1 h; rfl
    · obtain ⟨_, _, rfl⟩ := Option.map_eq_some_iff.1 h; rfl
theorem readTm_len : ∀ (n : Nat) (ws : List ByteArray) (p : Tm × List ByteArray), readTm n ws = some p → p.2.length < ws.length
  | 0, _, _, h => by simp [readTm] at h
  | n + 1, [], _, h => by simp [readTm] at h
  | n + 1, x :: r, p, h => by
    by_cases hx : x = opB
    · subst hx
      rw [readTm_open] at h
      cases r with
      | nil => cases h
      | cons y r1 =>
        simp only [inTm, Option.bind_eq_some_iff, Option.map_eq_some_iff] at h
        obtain ⟨k, _, p1, h1, q, h2, r4, h3, rfl⟩ := h
        have a1 := readT_len h1
        have a2 := readN_len (readTm n) (fun ws p hp => Nat.le_of_lt (readTm_len n ws p hp)) _ _ _ h2
        have a3 := behind_len h3
        simp only [List.length_cons]; omega
    · rw [readTm_word n x r hx] at h
      rw [readWord_len h]
      simp
theorem readTm_nil (n : Nat) : readTm n [] = none := by cases n <;> rfl
/-- So many of the parts have been read. -/
def InvN (f : List ByteArray → Option (Tm × List ByteArray)) (m : Nat) (ws0 : List ByteArray) (b : Bool) (j : Nat) (ws' : List ByteArray) (b' : Bool) (tms : List Tm) : Prop :=
  (b' = b ∧ readN f m ws0 = (readN f (m - j) ws').map (fun q => (tms ++ q.1, q.2))) ∨ (ws' = [] ∧ b' = true ∧ readN f m ws0 = none)
theorem InvN.start (f : List ByteArray → Option (Tm × List ByteArray)) (m : Nat) (ws : List ByteArray) (b : Bool) : InvN f m ws b 0 ws b [] := by
  refine .inl ⟨rfl, ?_⟩
  simp
theorem InvN.step {f : List ByteArray → Option (Tm × List ByteArray)} {m j : Nat} {ws0 ws' ws'' : List ByteArray} {b b' b'' : Bool} {tms : List Tm} {x : Tm} (hf : f [] = none) (hj : j < m) (h : InvN f m ws0 b j ws' b' tms)
    (hs : StepR ((f ws').map (·.2)) b' ws'' b'') (he : ∀ p, f ws' = some p → x = p.1) : InvN f m ws0 b (j + 1) ws'' b'' (tms ++ [x]) := by
  rcases h with ⟨rfl, h⟩ | ⟨rfl, rfl, h⟩
  · have e : m - j = (m - (j + 1)) + 1 := by omega
    rw [e] at h
    rcases hs with ⟨ho, rfl⟩ | ⟨ho, hn, hb⟩
    · obtain ⟨p, hp, rfl⟩ := Option.map_eq_some_iff.1 ho
      refine .inl ⟨rfl, ?_⟩
      rw [h, readN, hp, he p hp]
      simp only [Option.bind_some, Option.map_map]
      congr 1
      funext q
      simp
    · have hp : f ws' = none := Option.map_eq_none_iff.1 ho
      refine .inr ⟨hn, hb, ?_⟩
      rw [h, readN, hp]
      rfl
  · rw [hf] at hs
    rcases hs with ⟨ho, _⟩ | ⟨_, hn, hb⟩
    · cases ho
    · exact .inr ⟨hn, hb, h⟩
/-- The steps make the whole. -/
theorem inTm_steps {n k : Nat} {y : ByteArray} {r1 ws1 ws2 ws3 : List ByteArray} {b b1 b2 b3 : Bool} {t : Ty} {tms : List Tm} (hk : kindAt y = some k)
    (h1 : StepR ((readT n k r1).map (·.2)) b ws1 b1) (e1 : ∀ p, readT n k r1 = some p → t = p.1)
    (h2 : InvN (readTm n) (partsOf (k : Int)) ws1 b1 (partsOf (k : Int)) ws2 b2 tms) (h3 : StepR (behind clB ws2) b2 ws3 b3) (hdead : readT n k r1 = none → 0 < partsOf (k : Int)) :
    StepR ((inTm n (y :: r1)).map (·.2)) b ws3 b3 ∧ ∀ p, inTm n (y :: r1) = some p → (⟨(k : Int), 0, t, anyY, tms⟩ : Tm) = p.1 := by
  have dead : ∀ (o : Option (Tm × List ByteArray)), o = none → ws3 = [] → b3 = true → StepR (o.map (·.2)) b ws3 b3 ∧ ∀ p, o = some p → (⟨(k : Int), 0, t, anyY, tms⟩ : Tm) = p.1 := by
    rintro o rfl rfl rfl
    exact ⟨.inr ⟨rfl, rfl, rfl⟩, fun p h => by cases h⟩
  have nil3 : ws2 = [] → b2 = true → ws3 = [] ∧ b3 = true := by
    rintro rfl rfl
    rcases h3 with ⟨h, _⟩ | ⟨_, h, h'⟩
    · cases h
    · exact ⟨h, h'⟩
  have e : inTm n (y :: r1) = (readT n k r1).bind fun p => (readN (readTm n) (partsOf (k : Int)) p.2).bind fun q => (behind clB q.2).map fun r4 => (⟨(k : Int), 0, p.1, anyY, q.1⟩, r4) := by
    simp only [inTm, hk, Option.bind_some]
  rw [e]
  rcases h1 with ⟨ho1, rfl⟩ | ⟨ho1, hn1, hb1⟩
  · obtain ⟨p, hp, hp2⟩ := Option.map_eq_some_iff.1 ho1
    rw [hp, Option.bind_some, hp2]
    rcases h2 with ⟨rfl, h2⟩ | ⟨hw2, hb2, h2⟩
    · rw [Nat.sub_self, readN] at h2
      simp only [Option.map_some, List.append_nil] at h2
      rw [h2, Option.bind_some]
      rcases h3 with ⟨ho3, rfl⟩ | ⟨ho3, hn3, hb3⟩
      · rw [ho3]
        refine ⟨.inl ⟨rfl, rfl⟩, fun x hx => ?_⟩
        cases hx
        rw [e1 p hp]
      · rw [ho3]
        exact dead _ rfl hn3 hb3
    · rw [h2]
      obtain ⟨a, c⟩ := nil3 hw2 hb2
      exact dead _ rfl a c
  · have hp : readT n k r1 = none := Option.map_eq_none_iff.1 ho1
    have hm := hdead hp
    rw [hp]
    subst hn1 hb1
    have hno : readN (readTm n) (partsOf (k : Int)) [] = none := by
      obtain ⟨m, hm'⟩ : ∃ m, partsOf (k : Int) = m + 1 := ⟨partsOf (k : Int) - 1, by omega⟩
      rw [hm', readN, readTm_nil]
      rfl
    rcases h2 with ⟨rfl, h2⟩ | ⟨hw2, hb2, _⟩
    · rw [hno, Nat.sub_self, readN] at h2
      cases h2
    · obtain ⟨a, c⟩ := nil3 hw2 hb2
      exact dead _ rfl a c
/-- What the call leaves: a term's tree, and the state. -/
def TmPost (R : Nat) (b : Bool) (o : Option (Tm × List ByteArray)) (w : World) (e : Ending) (w' : World) : Prop :=
  ∃ x : TT, e = .returned (.agg #[.int .i64 x.k, .int .i64 x.n, .int .i64 x.t.k, .slice x.t.a x.t.l.length x.t.c, .int .i64 x.f.k, .slice x.f.a x.f.l.length x.f.c, .slice x.a x.l.length x.c]) ∧ x.In w' ∧ x.Bl (w.heap.size ≤ ·) ∧ Kept R none w w' ∧ After R b (o.map (·.2)) w' ∧ ∀ p, o = some p → x.tm = p.1
theorem box7_alloc (w : World) : Box7 (w.alloc (.cells #[.int .i64 0, .int .i64 0, .int .i64 0, .slice none 0 0, .int .i64 0, .slice none 0 0, .slice none 0 0] 27)) w.heap.size (tleaf 0 0) := by
  refine ⟨⟨?_, ?_, ?_, ?_, ?_, ?_, ?_⟩, fun i hi => ?_⟩
  · simp [go_sem, tleaf]
  · simp [go_sem, tleaf]
  · simp [go_sem, tleaf]
  · simp [go_sem, tleaf]
  · simp [go_sem, tleaf]
  · simp [go_sem, tleaf]
  · simp [go_sem, tleaf]
  · simp [go_sem]
/-- Each cell, right behind its store. -/
theorem put7_gets {w : World} {k : Nat} {x y : TT} (hbx : Box7 w k y) : (w.setCell ⟨k, 0, none⟩ (.int .i64 x.k)).cell? ⟨k, 0, none⟩ = some (.int .i64 x.k) ∧ ((w.setCell ⟨k, 0, none⟩ (.int .i64 x.k)).setCell ⟨k, 1, none⟩ (.int .i64 x.n)).cell? ⟨k, 1, none⟩ = some (.int .i64 x.n) ∧ (((w.setCell ⟨k, 0, none⟩ (.int .i64 x.k)).setCell ⟨k, 1, none⟩ (.int .i64 x.n)).setCell ⟨k, 2, none⟩ (.int .i64 x.t.k)).cell? ⟨k, 2, none⟩ = some (.int .i64 x.t.k) ∧ ((((w.setCell ⟨k, 0, none⟩ (.int .i64 x.k)).setCell ⟨k, 1, none⟩ (.int .i64 x.n)).setCell ⟨k, 2, none⟩ (.int .i64 x.t.k)).setCell ⟨k, 3, none⟩ (.slice x.t.a x.t.l.length x.t.c)).cell? ⟨k, 3, none⟩ = some (.slice x.t.a x.t.l.length x.t.c) ∧ (((((w.setCell ⟨k, 0, none⟩ (.int .i64 x.k)).setCell ⟨k, 1, none⟩ (.int .i64 x.n)).setCell ⟨k, 2, none⟩ (.int .i64 x.t.k)).setCell ⟨k, 3, none⟩ (.slice x.t.a x.t.l.length x.t.c)).setCell ⟨k, 4, none⟩ (.int .i64 x.f.k)).cell? ⟨k, 4, none⟩ = some (.int .i64 x.f.k) ∧ ((((((w.setCell ⟨k, 0, none⟩ (.int .i64 x.k)).setCell ⟨k, 1, none⟩ (.int .i64 x.n)).setCell ⟨k, 2, none⟩ (.int .i64 x.t.k)).setCell ⟨k, 3, none⟩ (.slice x.t.a x.t.l.length x.t.c)).setCell ⟨k, 4, none⟩ (.int .i64 x.f.k)).setCell ⟨k, 5, none⟩ (.slice x.f.a x.f.l.length x.f.c)).cell? ⟨k, 5, none⟩ = some (.slice x.f.a x.f.l.length x.f.c) ∧ (((((((w.setCell ⟨k, 0, none⟩ (.int .i64 x.k)).setCell ⟨k, 1, none⟩ (.int .i64 x.n)).setCell ⟨k, 2, none⟩ (.int .i64 x.t.k)).setCell ⟨k, 3, none⟩ (.slice x.t.a x.t.l.length x.t.c)).setCell ⟨k, 4, none⟩ (.int .i64 x.f.k)).setCell ⟨k, 5, none⟩ (.slice x.f.a x.f.l.length x.f.c)).setCell ⟨k, 6, none⟩ (.slice x.a x.l.length x.c)).cell? ⟨k, 6, none⟩ = some (.slice x.a x.l.length x.c) := by
  have h7 := hbx.at7
  have c0 := h7.c0
  have c1 := h7.c1
  have c2 := h7.c2
  have c3 := h7.c3
  have c4 := h7.c4
  have c5 := h7.c5
  have c6 := h7.c6
  simp only [Nat.zero_add] at c0 c1 c2 c3 c4 c5 c6
  exact ⟨(World.cell?_setCell_same _ _ _ c0), (World.cell?_setCell_same _ _ _ (set_get (j := 0) c1)), (World.cell?_setCell_same _ _ _ (set_get (j := 1) (set_get (j := 0) c2))), (World.cell?_setCell_same _ _ _ (set_get (j := 2) (set_get (j := 1) (set_get (j := 0) c3)))), (World.cell?_setCell_same _ _ _ (set_get (j := 3) (set_get (j := 2) (set_get (j := 1) (set_get (j := 0) c4))))), (World.cell?_setCell_same _ _ _ (set_get (j := 4) (set_get (j := 3) (set_get (j := 2) (set_get (j := 1) (set_get (j := 0) c5)))))), (World.cell?_setCell_same _ _ _ (set_get (j := 5) (set_get (j := 4) (set_get (j := 3) (set_get (j := 2) (set_get (j := 1) (set_get (j := 0) c6)))))))⟩
/-- What is left in the result's place is what is answered. -/
theorem tm_end {R k : Nat} {b b' : Bool} {o : Option (Tm × List ByteArray)} {ws' : List ByteArray} {w w2 : World} {x y : TT} (hbx : Box7 w2 k y) (hk : w.heap.size ≤ k) (hR : R < k) (hi : x.In w2) (hbl : x.Bl (k < ·)) (hkp : Kept R none w w2) (hr : RS R ws' b' w2) (hs : StepR (o.map (·.2)) b ws' b') (he : ∀ p, o = some p → x.tm = p.1) :
    TmPost R b o w (.returned (.agg #[.int .i64 x.k, .int .i64 x.n, .int .i64 x.t.k, .slice x.t.a x.t.l.length x.t.c, .int .i64 x.f.k, .slice x.f.a x.f.l.length x.f.c, .slice x.a x.l.length x.c])) (put7 w2 k x) ∧ At7 (put7 w2 k x) k 0 x :=
  ⟨⟨x, rfl, hi.keptR put7_kept (hbl.mono fun b h => by omega), hbl.mono (fun b h => by omega), hkp.new put7_kept hk, hs.after (hr.new put7_kept hR), he⟩, (put7_box hbx).at7⟩
end Go.Proofs.YtnddkmccagiclabGreatDoor

/-
  What the call of (*reader).readTerm does where no word is left, and at a word that opens no brackets.
-/
namespace Go.Proofs.YtnddkmccagiclabGreatDoor
open Go.RowKit
/-- The world behind the first box. -/
def w7 (w : World) : World := w.alloc (.cells #[.int .i64 0, .int .i64 0, .int .i64 0, .slice none 0 0, .int .i64 0, .slice none 0 0, .slice none 0 0] 27)
theorem w7_below (w : World) : Below w.heap.size w (w7 w) := (Below.refl _ _).alloc (Nat.le_refl _) _
theorem cut_yes (x : ByteArray) (d : List UInt8) (h : x.data.toList = 35 :: d) : Lib.trimPrefix x.data.toList [35] = d ∧ Lib.hasPrefix x.data.toList [35] = true := by
  rw [h]
  simp [Lib.trimPrefix, Lib.hasPrefix]
theorem cut_no (x : ByteArray) (h : ∀ d, x.data.toList ≠ 35 :: d) : Lib.hasPrefix x.data.toList [35] = false := by
  cases hx : x.data.toList with
  | nil => rfl
  | cons c r =>
    have : c ≠ 35 := fun e => h r (by rw [hx, e])
    have h2 : (35 == c) = false := by simpa using fun e => this e.symm
    simp [Lib.hasPrefix, List.isPrefixOf, h2]
/-- What a number's call leaves, in letters. -/
theorem num_letters {R : Nat} {ws : List ByteArray} {b : Bool} {d : ByteArray} {w : World} {e : Ending} {w' : World} (h : NumPost R ws b d w e w') : ∃ (n : Int) (ws' : List ByteArray) (b' : Bool), e = .returned (.int .i64 n) ∧ RS R ws' b' w' ∧ Kept R none w w' ∧
    (∀ K : Int → Tm, StepR (((numOf d).map fun n => (K n, ws)).map (·.2)) b ws' b' ∧ ∀ p, ((numOf d).map fun n => (K n, ws)) = some p → K n = p.1) := by
  obtain ⟨n, he, ⟨hn, hr⟩ | ⟨hn, hr⟩, hk⟩ := h
  · exact ⟨n, ws, b, he, hr, hk, fun K => ⟨.inl ⟨by rw [hn]; rfl, rfl⟩, fun p hp => by rw [hn] at hp; cases hp; rfl⟩⟩
  · exact ⟨n, [], true, he, hr, hk, fun K => ⟨.inr ⟨by rw [hn]; rfl, rfl, rfl⟩, fun p hp => by rw [hn] at hp; cases hp⟩⟩
set_option maxRecDepth 20000 in
set_option maxHeartbeats 2000000 in
/-- From the word on: the truths, the marks of a Ref, the numbers. -/
theorem readTerm_by (R : Nat) (x : ByteArray) (hxs : x.size ≤ 1000000) (r : List ByteArray) (b b1 : Bool) (o : Option (Tm × List ByteArray)) (w : World) (hg : Gl w) (hR : 12 ≤ R) (hRl : R < w.heap.size) (hx : x ≠ opB)
    (HN : Hid (Calls Tryz.prog 51 #[.pointer (some ⟨R, 0, none⟩)] (w7 w) fun e w' => e = .returned (.string x) ∧ RS R r b1 w' ∧ Kept R none (w7 w) w'))
    (HO : Hid (∀ (t : TT) ws' b', StepR ((readWord x r).map (·.2)) b1 ws' b' → (∀ p, readWord x r = some p → t.tm = p.1) → StepR (o.map (·.2)) b ws' b' ∧ ∀ p, o = some p → t.tm = p.1)) :
    Calls Tryz.prog 33 #[.pointer (some ⟨R, 0, none⟩)] w (TmPost R b o w) := by
  have hq : (x.toList == [40]) = false := by
    have := (Lib.bytes_beq_false_iff x opB).2 hx
    rw [opB, Lib.toList_data ⟨#[40]⟩] at this
    exact this
  have HG : Hid (Gl (w7 w)) := hg.below (w7_below w)
  clear hg hx
  go_enter Tryz.func33, Tryz.ntmps33
  go_wp2_with fail
  refine HN.out.mono ?_
  rintro e w1 ⟨rfl, hr, hk⟩
  have hne : w.heap.size ≠ R := by omega
  have hbx : Box7 w1 w.heap.size (tleaf 0 0) := (box7_alloc w).kept hk hne
  have hs1 : w.heap.size < w1.heap.size := hbx.lt
  have HD : Hid (RS R r b1 w1 ∧ Gl w1 ∧ Kept R none w w1 ∧ Box7 w1 w.heap.size (tleaf 0 0)) := ⟨hr, HG.out.kept hR hk, (Kept.of_below (w7_below w)).trans hk, hbx⟩
  clear hr hk HN HG hbx
  have HT : Hid (Calls Tryz.prog 53 #[.string x] w1 fun e w' => e = .returned (foundV (atWord x truthWs 0)) ∧ w' = w1) := truthOf_any x w1 HD.out.2.1
  cases ha : atWord x truthWs 0 with
  | some k =>
    rw [ha] at HT
    replace HT : Hid (Calls Tryz.prog 53 #[.string x] w1 fun e w' => e = .returned (.tuple #[.int .i64 (k : Int), .bool true]) ∧ w' = w1) := HT
    have HE : Hid (readWord x r = some (⟨3, (k : Int), anyY, anyY, []⟩, r)) := by show _ = _; simp [readWord, ha]
    clear ha
    have h7 := HD.out.2.2.2.at7
    have c0 := h7.c0
    have c1 := h7.c1
    have c2 := h7.c2
    have c3 := h7.c3
    have c4 := h7.c4
    have c5 := h7.c5
    have c6 := h7.c6
    simp only [Nat.zero_add, tleaf] at c0 c1 c2 c3 c4 c5 c6
    have f0 := HD.out.2.2.2.fz 0 (by omega)
    have f1 := HD.out.2.2.2.fz 1 (by omega)
    have f2 := HD.out.2.2.2.fz 2 (by omega)
    have f3 := HD.out.2.2.2.fz 3 (by omega)
    have f4 := HD.out.2.2.2.fz 4 (by omega)
    have f5 := HD.out.2.2.2.fz 5 (by omega)
    have f6 := HD.out.2.2.2.fz 6 (by omega)
    clear h7
    go_wp2_with fail
    refine HT.out.mono ?_
    rintro e w2 ⟨rfl, rfl⟩
    go_wp2_with fail
    have h9 := HO.out (tleaf 3 (k : Int)) r b1 (by rw [HE.out]; exact .inl ⟨rfl, rfl⟩) (fun p hp => by rw [HE.out] at hp; cases hp; exact tleaf_tm _ _)
    have hE := tm_end (x := tleaf 3 (k : Int)) (w := w) HD.out.2.2.2 (Nat.le_refl _) hRl (tleaf_in _ _ _) (tleaf_bl _ _ _) HD.out.2.2.1 HD.out.1 h9.1 h9.2
    refine bodyPost_ret (v := .agg #[.int .i64 3, .int .i64 (k : Int), .int .i64 0, .slice none 0 0, .int .i64 0, .slice none 0 0, .slice none 0 0]) ?_ rfl hE.1
    obtain ⟨d0, d1, d2, d3, d4, d5, d6⟩ := put7_gets (x := tleaf 3 (k : Int)) HD.out.2.2.2
    simp only [tleaf, List.length_nil] at d0 d1 d2 d3 d4 d5 d6
    simp [results, Tryz.results33, go_sem, d0, d1, d2, d3, d4, d5, d6]
  | none =>
    rw [ha] at HT
    replace HT : Hid (Calls Tryz.prog 53 #[.string x] w1 fun e w' => e = .returned (.tuple #[.int .i64 0, .bool false]) ∧ w' = w1) := HT
    by_cases hp : ∃ d, x.data.toList = 35 :: d
    · obtain ⟨d, hd⟩ := hp
      have HE : Hid (readWord x r = (numOf ⟨d.toArray⟩).map fun n => (⟨1, n, anyY, anyY, []⟩, r)) := by show _ = _; simp [readWord, ha, hd]
      have HC : Hid (Calls Tryz.prog 54 #[.string x, .string ⟨#[35]⟩] w1 fun e w' => e = .returned (.tuple #[.string ⟨d.toArray⟩, .bool true]) ∧ w' = w1) := by
        have := Tryz.strings_CutPrefix x ⟨#[35]⟩ w1
        have hc := cut_yes x d hd
        rw [show (⟨#[35]⟩ : ByteArray).data.toList = [35] from rfl, hc.1, hc.2] at this
        exact this
      have HM : Hid (Calls Tryz.prog 55 #[.pointer (some ⟨R, 0, none⟩), .string ⟨d.toArray⟩] w1 (NumPost R r b1 ⟨d.toArray⟩ w1)) := by
        refine number_any R r b1 ⟨d.toArray⟩ ?_ w1 HD.out.2.1 HD.out.1
        have : x.data.toList.length = x.size := Array.length_toList
        rw [hd] at this
        show d.toArray.size ≤ 1000000
        simp at this ⊢
        omega
      clear ha hd
      go_wp2_with fail
      refine HT.out.mono ?_
      rintro e w2 ⟨rfl, rfl⟩
      go_wp2_with fail
      refine HC.out.mono ?_
      rintro e w3 ⟨rfl, rfl⟩
      go_wp2_with fail
      refine HM.out.mono ?_
      intro e w4 hpost
      obtain ⟨n, ws', b', rfl, hr4, hk4, hs4⟩ := num_letters hpost
      have HB : Hid (Box7 w4 w.heap.size (tleaf 0 0) ∧ RS R ws' b' w4 ∧ Kept R none w w4) := ⟨HD.out.2.2.2.kept hk4 hne, hr4, HD.out.2.2.1.trans hk4⟩
      have HS : Hid (StepR ((readWord x r).map (·.2)) b1 ws' b' ∧ ∀ p, readWord x r = some p → (tleaf 1 n).tm = p.1) := by
        have := hs4 (fun n => ⟨1, n, anyY, anyY, []⟩)
        rw [HE.out, tleaf_tm]
        exact this
      have h7 := HB.out.1.at7
      have c0 := h7.c0
      have c1 := h7.c1
      have c2 := h7.c2
      have c3 := h7.c3
      have c4 := h7.c4
      have c5 := h7.c5
      have c6 := h7.c6
      simp only [Nat.zero_add, tleaf] at c0 c1 c2 c3 c4 c5 c6
      have f0 := HB.out.1.fz 0 (by omega)
      have f1 := HB.out.1.fz 1 (by omega)
      have f2 := HB.out.1.fz 2 (by omega)
      have f3 := HB.out.1.fz 3 (by omega)
      have f4 := HB.out.1.fz 4 (by omega)
      have f5 := HB.out.1.fz 5 (by omega)
      have f6 := HB.out.1.fz 6 (by omega)
      clear h7 hpost hr4 hk4 hs4 HM HC HT
      go_wp2_with fail
      have h9 := HO.out (tleaf 1 n) ws' b' HS.out.1 HS.out.2
      have hE := tm_end (x := tleaf 1 n) (w := w) HB.out.1 (Nat.le_refl _) hRl (tleaf_in _ _ _) (tleaf_bl _ _ _) HB.out.2.2 HB.out.2.1 h9.1 h9.2
      refine bodyPost_ret (v := .agg #[.int .i64 1, .int .i64 n, .int .i64 0, .slice none 0 0, .int .i64 0, .slice none 0 0, .slice none 0 0]) ?_ rfl hE.1
      obtain ⟨d0, d1, d2, d3, d4, d5, d6⟩ := put7_gets (x := tleaf 1 n) HB.out.1
      simp only [tleaf, List.length_nil] at d0 d1 d2 d3 d4 d5 d6
      simp [results, Tryz.results33, go_sem, d0, d1, d2, d3, d4, d5, d6]
    · have hp' : ∀ d, x.data.toList ≠ 35 :: d := fun d hd => hp ⟨d, hd⟩
      have HE : Hid (readWord x r = (numOf x).map fun n => (⟨2, n, anyY, anyY, []⟩, r)) := by
        show _ = _
        simp only [readWord, ha]
      have HC : Hid (Calls Tryz.prog 54 #[.string x, .string ⟨#[35]⟩] w1 fun e w' => ∃ y, e = .returned (.tuple #[.string y, .bool false]) ∧ w' = w1) := by
        refine (Tryz.strings_CutPrefix x ⟨#[35]⟩ w1).mono ?_
        rintro e w' ⟨rfl, rfl⟩
        exact ⟨⟨(Lib.trimPrefix x.data.toList [35]).toArray⟩, by rw [show (⟨#[35]⟩ : ByteArray).data.toList = [35] from rfl, cut_no x hp'], rfl⟩
      have HM : Hid (Calls Tryz.prog 55 #[.pointer (some ⟨R, 0, none⟩), .string x] w1 (NumPost R r b1 x w1)) := number_any R r b1 x hxs w1 HD.out.2.1 HD.out.1
      clear ha hp hp'
      go_wp2_with fail
      refine HT.out.mono ?_
      rintro e w2 ⟨rfl, rfl⟩
      go_wp2_with fail
      refine HC.out.mono ?_
      rintro e w3 ⟨y, rfl, rfl⟩
      go_wp2_with fail
      refine HM.out.mono ?_
      intro e w4 hpost
      obtain ⟨n, ws', b', rfl, hr4, hk4, hs4⟩ := num_letters hpost
      have HB : Hid (Box7 w4 w.heap.size (tleaf 0 0) ∧ RS R ws' b' w4 ∧ Kept R none w w4) := ⟨HD.out.2.2.2.kept hk4 hne, hr4, HD.out.2.2.1.trans hk4⟩
      have HS : Hid (StepR ((readWord x r).map (·.2)) b1 ws' b' ∧ ∀ p, readWord x r = some p → (tleaf 2 n).tm = p.1) := by
        have := hs4 (fun n => ⟨2, n, anyY, anyY, []⟩)
        rw [HE.out, tleaf_tm]
        exact this
      have h7 := HB.out.1.at7
      have c0 := h7.c0
      have c1 := h7.c1
      have c2 := h7.c2
      have c3 := h7.c3
      have c4 := h7.c4
      have c5 := h7.c5
      have c6 := h7.c6
      simp only [Nat.zero_add, tleaf] at c0 c1 c2 c3 c4 c5 c6
      have f0 := HB.out.1.fz 0 (by omega)
      have f1 := HB.out.1.fz 1 (by omega)
      have f2 := HB.out.1.fz 2 (by omega)
      have f3 := HB.out.1.fz 3 (by omega)
      have f4 := HB.out.1.fz 4 (by omega)
      have f5 := HB.out.1.fz 5 (by omega)
      have f6 := HB.out.1.fz 6 (by omega)
      clear h7 hpost hr4 hk4 hs4 HM HC HT
      go_wp2_with fail
      have h9 := HO.out (tleaf 2 n) ws' b' HS.out.1 HS.out.2
      have hE := tm_end (x := tleaf 2 n) (w := w) HB.out.1 (Nat.le_refl _) hRl (tleaf_in _ _ _) (tleaf_bl _ _ _) HB.out.2.2 HB.out.2.1 h9.1 h9.2
      refine bodyPost_ret (v := .agg #[.int .i64 2, .int .i64 n, .int .i64 0, .slice none 0 0, .int .i64 0, .slice none 0 0, .slice none 0 0]) ?_ rfl hE.1
      obtain ⟨d0, d1, d2, d3, d4, d5, d6⟩ := put7_gets (x := tleaf 2 n) HB.out.1
      simp only [tleaf, List.length_nil] at d0 d1 d2 d3 d4 d5 d6
      simp [results, Tryz.results33, go_sem, d0, d1, d2, d3, d4, d5, d6]
/-- (*reader).readTerm where no word is left. -/
theorem readTerm_nil (R n : Nat) (b : Bool) (w : World) (hg : Gl w) (hR : 12 ≤ R) (h : RS R [] b w) :
    Calls Tryz.prog 33 #[.pointer (some ⟨R, 0, none⟩)] w (TmPost R b (readTm n []) w) := by
  rw [readTm_nil]
  refine readTerm_by R ⟨#[]⟩ (by decide) [] b true none w hg hR h.lt (by decide) (next_nil R b _ (h.below (w7_below w))) ?_
  intro t ws' b' hs _
  have e : readWord ⟨#[]⟩ [] = none := by
    have e1 : atWord ⟨#[]⟩ truthWs 0 = none := by decide
    have e2 : numOf ⟨#[]⟩ = none := rfl
    simp only [readWord, e1, e2]
    rfl
  rw [e] at hs
  rcases hs with ⟨ho, _⟩ | ⟨_, h1, h2⟩
  · cases ho
  · exact ⟨.inr ⟨rfl, h1, h2⟩, fun p hp => by cases hp⟩
/-- (*reader).readTerm at a word that opens no brackets. -/
theorem readTerm_word (R n : Nat) (x : ByteArray) (hxs : x.size ≤ 1000000) (r : List ByteArray) (hx : x ≠ opB) (b : Bool) (w : World) (hg : Gl w) (hR : 12 ≤ R) (h : RS R (x :: r) b w) :
    Calls Tryz.prog 33 #[.pointer (some ⟨R, 0, none⟩)] w (TmPost R b (readTm (n + 1) (x :: r)) w) := by
  rw [readTm_word n x r hx]
  exact readTerm_by R x hxs r b b (readWord x r) w hg hR h.lt hx (next_cons R x r b _ (h.below (w7_below w))) (fun t ws' b' hs he => ⟨hs, he⟩)
end Go.Proofs.YtnddkmccagiclabGreatDoor

/-
  What the call of (*reader).readTermInBrackets does: where the word is none of the words, and while the parts are read.
-/
namespace Go.Proofs.YtnddkmccagiclabGreatDoor
open Go.RowKit
theorem behind_suf {x : ByteArray} {ws r : List ByteArray} (h : behind x ws = some r) : r <:+ ws := by
  cases ws with
  | nil => cases h
  | cons y s =>
    simp only [behind] at h
    split at h
    · cases h; exact List.suffix_cons _ _
    · cases h
theorem readTy_suf : ∀ (n : Nat) (ws : List ByteArray) (p : Ty × List ByteArray), readTy n ws = some p → p.2 <:+ ws
  | 0, _, _, h => by simp [readTy] at h
  | n + 1, [], _, h => by simp [readTy] at h
  | n + 1, x :: r, p, h => by
    simp only [readTy] at h
    split at h
    · simp only [Option.bind_eq_some_iff, Option.map_eq_some_iff] at h
      obtain ⟨r1, h1, q1, h2, q2, h3, r4, h4, rfl⟩ := h
      exact (behind_suf h4).trans ((readTy_suf n _ _ h3).trans ((readTy_suf n _ _ h2).trans ((behind_suf h1).trans (List.suffix_cons _ _))))
    · simp only [Option.map_eq_some_iff] at h
      obtain ⟨k, _, rfl⟩ := h
      exact List.suffix_cons _ _
theorem readT_suf {n k : Nat} {ws : List ByteArray} {p : Ty × List ByteArray} (h : readT n k ws = some p) : p.2 <:+ ws := by
  unfold readT at h
  split at h
  · exact readTy_suf n _ _ h
  · cases h; exact List.suffix_rfl
theorem readN_suf (f : List ByteArray → Option (Tm × List ByteArray)) (hf : ∀ ws p, f ws = some p → p.2 <:+ ws) : ∀ (m : Nat) (ws : List ByteArray) (q : List Tm × List ByteArray), readN f m ws = some q → q.2 <:+ ws
  | 0, ws, q, h => by simp [readN] at h; rw [← h]; exact List.suffix_rfl
  | m + 1, ws, q, h => by
    simp only [readN, Option.bind_eq_some_iff, Option.map_eq_some_iff] at h
    obtain ⟨p, hp, q', hq, rfl⟩ := h
    exact (readN_suf f hf m _ _ hq).trans (hf ws p hp)
theorem readTm_suf : ∀ (n : Nat) (ws : List ByteArray) (p : Tm × List ByteArray), readTm n ws = some p → p.2 <:+ ws
  | 0, _, _, h => by simp [readTm] at h
  | n + 1, [], _, h => by simp [readTm] at h
  | n + 1, x :: r, p, h => by
    by_cases hx : x = opB
    · subst hx
      rw [readTm_open] at h
      cases r with
      | nil => cases h
      | cons y r1 =>
        simp only [inTm, Option.bind_eq_some_iff, Option.map_eq_some_iff] at h
        obtain ⟨k, _, p1, h1, q, h2, r4, h3, rfl⟩ := h
        have a2 := readN_suf (readTm n) (fun ws p hp => readTm_suf n ws p hp) _ _ _ h2
        exact (behind_suf h3).trans (a2.trans ((readT_suf h1).trans ((List.suffix_cons _ _).trans (List.suffix_cons _ _))))
    · rw [readTm_word n x r hx] at h
      rw [readWord_len h]
      exact List.suffix_cons _ _
/-- No word is long. -/
def SmW (ws : List ByteArray) : Prop := ∀ x, x ∈ ws → x.size ≤ 1000000
theorem SmW.suf {a b : List ByteArray} (h : SmW b) (hs : a <:+ b) : SmW a := fun x hx => h x (hs.subset hx)
theorem SmW.step {o : Option (List ByteArray)} {b b' : Bool} {ws ws' : List ByteArray} (h : SmW ws) (hs : StepR o b ws' b') (ho : ∀ r, o = some r → r <:+ ws) : SmW ws' := by
  rcases hs with ⟨e, _⟩ | ⟨_, rfl, _⟩
  · exact h.suf (ho _ e)
  · intro x hx; cases hx
/-! ### What stays where other blocks are written -/
theorem RS.agree {R : Nat} {ws : List ByteArray} {b : Bool} {w w' : World} (h : RS R ws b w) (e : ∀ k, k ≤ R → w'.heap[k]? = w.heap[k]?) : RS R ws b w' := by
  obtain ⟨⟨a, c, hc, hn, hw⟩, h1, h2, h3, hz⟩ := h
  refine ⟨⟨a, c, (World.cell?_of_block (a := ⟨R, 0, none⟩) (e R (Nat.le_refl _))).trans hc, hn, fun hne => ?_⟩, (World.cell?_of_block (a := ⟨R, 1, none⟩) (e R (Nat.le_refl _))).trans h1, (World.frozen?_of_block (a := ⟨R, 0, none⟩) (e R (Nat.le_refl _))).trans h2, (World.frozen?_of_block (a := ⟨R, 1, none⟩) (e R (Nat.le_refl _))).trans h3, hz⟩
  obtain ⟨A, o, ha, hA, hx⟩ := hw hne
  exact ⟨A, o, ha, hA, fun i x hi => (World.cell?_of_block (a := ⟨A, o + i, none⟩) (e A (Nat.le_of_lt hA))).trans (hx i x hi)⟩
theorem Box7.agree {J : Nat} {w w' : World} {x : TT} (h : Box7 w J x) (e : w'.heap[J]? = w.heap[J]?) : Box7 w' J x :=
  ⟨h.at7.of fun i => World.cell?_of_block (a := ⟨J, i, none⟩) e, fun i hi => (World.frozen?_of_block (a := ⟨J, i, none⟩) e).trans (h.fz i hi)⟩
theorem Kept.agree {R : Nat} {w w2 w3 : World} (h : Kept R none w w2) (h1 : w3.os = w2.os) (h2 : w3.tape = w2.tape) (h3 : w3.output = w2.output) (h4 : w2.heap.size ≤ w3.heap.size) (e : ∀ k, k < w.heap.size → w3.heap[k]? = w2.heap[k]?) : Kept R none w w3 :=
  ⟨h1.trans h.os, h2.trans h.tape, h3.trans h.output, Nat.le_trans h.size h4, fun k hk a b => (e k hk).trans (h.block k hk a b)⟩
theorem Tr.In.agree {w w' : World} {t : Tr} {P : Nat → Prop} (h : t.In w) (hb : t.Bl P) (e : ∀ k, P k → w'.heap[k]? = w.heap[k]?) : t.In w' :=
  h.congr (P := P) (fun b hb o => World.cell?_of_block (a := ⟨b, o, none⟩) (e b hb)) hb
theorem Tryz.info27 : (Tryz.prog.info? 27).map (fun i => (i.zero, i.size, i.bytes)) = some (some (.agg #[.int .i64 0, .int .i64 0, .int .i64 0, .slice none 0 0, .int .i64 0, .slice none 0 0, .slice none 0 0]), 7, 104) := by kernel_rfl
set_option maxRecDepth 20000 in
set_option maxHeartbeats 2000000 in
/-- The word is none of the words. -/
theorem brack_bad (R : Nat) (y : ByteArray) (hy : kindAt y = none) (r : List ByteArray) (b b1 : Bool) (w : World) (hg : Gl w) (hR : 12 ≤ R) (hRl : R < w.heap.size)
    (HN : Hid (Calls Tryz.prog 51 #[.pointer (some ⟨R, 0, none⟩)] (w7 w) fun e w' => e = .returned (.string y) ∧ RS R r b1 w' ∧ Kept R none (w7 w) w')) :
    Calls Tryz.prog 52 #[.pointer (some ⟨R, 0, none⟩)] w (TmPost R b none w) := by
  have HG : Hid (Gl (w7 w)) := hg.below (w7_below w)
  clear hg
  go_enter Tryz.func52, Tryz.ntmps52
  go_wp2_with fail
  refine HN.out.mono ?_
  rintro e w1 ⟨rfl, hr, hk⟩
  have hne : w.heap.size ≠ R := by omega
  have HT : Hid (Calls Tryz.prog 84 #[.string y] w1 fun e w' => e = .returned (.tuple #[.int .i64 0, .bool false]) ∧ w' = w1) := by
    have := kindOf_any y w1 (HG.out.kept hR hk)
    rw [hy] at this
    exact this
  have HF : Hid (Calls Tryz.prog 83 #[.pointer (some ⟨R, 0, none⟩)] w1 fun e w' => e = .returned (.tuple #[]) ∧ RS R [] true w' ∧ Kept R none w1 w') := fail_any R r b1 w1 hr
  have HD : Hid (Kept R none w w1 ∧ Box7 w1 w.heap.size (tleaf 0 0)) := ⟨(Kept.of_below (w7_below w)).trans hk, (box7_alloc w).kept hk hne⟩
  clear hr hk HN HG hy
  go_wp2_with fail
  refine HT.out.mono ?_
  rintro e w2 ⟨rfl, rfl⟩
  go_wp2_with fail
  refine HF.out.mono ?_
  rintro e w4 ⟨rfl, hr4, hk4⟩
  have HB : Hid (Box7 w4 w.heap.size (tleaf 0 0) ∧ RS R [] true w4 ∧ Kept R none w w4) := ⟨HD.out.2.kept hk4 hne, hr4, HD.out.1.trans hk4⟩
  have h7 := HB.out.1.at7
  have c0 := h7.c0
  have c1 := h7.c1
  have c2 := h7.c2
  have c3 := h7.c3
  have c4 := h7.c4
  have c5 := h7.c5
  have c6 := h7.c6
  simp only [Nat.zero_add, tleaf] at c0 c1 c2 c3 c4 c5 c6
  have f0 := HB.out.1.fz 0 (by omega)
  have f1 := HB.out.1.fz 1 (by omega)
  have f2 := HB.out.1.fz 2 (by omega)
  have f3 := HB.out.1.fz 3 (by omega)
  have f4 := HB.out.1.fz 4 (by omega)
  have f5 := HB.out.1.fz 5 (by omega)
  have f6 := HB.out.1.fz 6 (by omega)
  clear h7 hr4 hk4 HF HT
  go_wp2_with fail
  have hE := tm_end (x := tleaf 0 0) (w := w) (o := none) (b := b) HB.out.1 (Nat.le_refl _) hRl (tleaf_in _ _ _) (tleaf_bl _ _ _) HB.out.2.2 HB.out.2.1 (.inr ⟨rfl, rfl, rfl⟩) (fun p hp => by cases hp)
  refine bodyPost_ret (v := .agg #[.int .i64 0, .int .i64 0, .int .i64 0, .slice none 0 0, .int .i64 0, .slice none 0 0, .slice none 0 0]) ?_ rfl hE.1
  obtain ⟨d0, d1, d2, d3, d4, d5, d6⟩ := put7_gets (x := tleaf 0 0) HB.out.1
  simp only [tleaf, List.length_nil] at d0 d1 d2 d3 d4 d5 d6
  simp [results, Tryz.results52, go_sem, d0, d1, d2, d3, d4, d5, d6]
set_option maxRecDepth 20000 in
set_option maxHeartbeats 1000000 in
/-- (*reader).readTerm at an open bracket. -/
theorem readTerm_open (R n : Nat) (r : List ByteArray) (b : Bool) (w : World) (hR : 12 ≤ R) (hg : Gl w) (h : RS R (opB :: r) b w)
    (ih : Hid (∀ (w : World), Gl w → RS R r b w → Calls Tryz.prog 52 #[.pointer (some ⟨R, 0, none⟩)] w (TmPost R b (inTm n r) w))) :
    Calls Tryz.prog 33 #[.pointer (some ⟨R, 0, none⟩)] w (TmPost R b (inTm n r) w) := by
  have HN : Hid (Calls Tryz.prog 51 #[.pointer (some ⟨R, 0, none⟩)] (w7 w) fun e w' => e = .returned (.string ⟨#[40]⟩) ∧ RS R r b w' ∧ Kept R none (w7 w) w') := next_cons R opB r b _ (h.below (w7_below w))
  have hRl := h.lt
  have HG : Hid (Gl (w7 w)) := hg.below (w7_below w)
  clear h hg
  go_enter Tryz.func33, Tryz.ntmps33
  go_wp2_with fail
  refine HN.out.mono ?_
  rintro e w1 ⟨rfl, hr, hk⟩
  have hne : w.heap.size ≠ R := by omega
  have hbx1 : Box7 w1 w.heap.size (tleaf 0 0) := (box7_alloc w).kept hk hne
  have hs1 : w.heap.size < w1.heap.size := hbx1.lt
  have HT : Hid (Calls Tryz.prog 52 #[.pointer (some ⟨R, 0, none⟩)] w1 (TmPost R b (inTm n r) w1)) := ih.out w1 (HG.out.kept hR hk) hr
  have HD : Hid (Kept R none w w1 ∧ Box7 w1 w.heap.size (tleaf 0 0)) := ⟨(Kept.of_below (w7_below w)).trans hk, hbx1⟩
  clear hk hr HN HG hbx1
  go_wp2_with fail
  refine HT.out.mono ?_
  rintro e w2 ⟨x, rfl, hi, hbl, hk2, hA, he⟩
  obtain ⟨ws', b', hr2, hs2⟩ := hA.letters
  have hbx := HD.out.2.kept hk2 hne
  have HE : Hid (TmPost R b (inTm n r) w (.returned (.agg #[.int .i64 x.k, .int .i64 x.n, .int .i64 x.t.k, .slice x.t.a x.t.l.length x.t.c, .int .i64 x.f.k, .slice x.f.a x.f.l.length x.f.c, .slice x.a x.l.length x.c])) (put7 w2 w.heap.size x)) :=
    (tm_end hbx (Nat.le_refl _) hRl hi (hbl.mono fun b hb => by omega) (HD.out.1.trans hk2) hr2 hs2 he).1
  have HGT : Hid _ := put7_gets (x := x) hbx
  have h7 := hbx.at7
  have c0 := h7.c0
  have c1 := h7.c1
  have c2 := h7.c2
  have c3 := h7.c3
  have c4 := h7.c4
  have c5 := h7.c5
  have c6 := h7.c6
  simp only [Nat.zero_add, tleaf] at c0 c1 c2 c3 c4 c5 c6
  have f0 := hbx.fz 0 (by omega)
  have f1 := hbx.fz 1 (by omega)
  have f2 := hbx.fz 2 (by omega)
  have f3 := hbx.fz 3 (by omega)
  have f4 := hbx.fz 4 (by omega)
  have f5 := hbx.fz 5 (by omega)
  have f6 := hbx.fz 6 (by omega)
  clear h7 hi hbl hk2 hA he hr2 hs2 hbx HT HD
  go_wp2_with fail
  refine bodyPost_ret (v := .agg #[.int .i64 x.k, .int .i64 x.n, .int .i64 x.t.k, .slice x.t.a x.t.l.length x.t.c, .int .i64 x.f.k, .slice x.f.a x.f.l.length x.f.c, .slice x.a x.l.length x.c]) ?_ rfl HE.out
  obtain ⟨d0, d1, d2, d3, d4, d5, d6⟩ := HGT.out
  simp [results, Tryz.results33, go_sem, d0, d1, d2, d3, d4, d5, d6]
/-- While the parts are read. -/
structure LBp (R H J B k n : Nat) (ws1 : List ByteArray) (b1 : Bool) (t : Tr) (w : World) (j : Nat) (v : Value) (cs : List TT) (ws' : List ByteArray) (b' : Bool) (wr : World) : Prop where
  row : Row B v cs wr
  len : cs.length = j
  box : ∃ a c, v = .slice a cs.length c ∧ Box7 wr J ⟨(k : Int), 0, t, leaf 0, a, c, cs⟩
  res : Box7 wr H (tleaf 0 0)
  rs : RS R ws' b' wr
  kept : Kept R none w wr
  inv : InvN (readTm n) (partsOf (k : Int)) ws1 b1 j ws' b' (cs.map TT.tm)
  tin : t.In wr
  tbl : t.Bl (fun b => J < b ∧ b < B)
  gl : Gl wr
  sm : SmW ws'
  small : ws'.length < n
  size : B ≤ wr.heap.size
theorem LBp.step {R H J B k n : Nat} {ws1 : List ByteArray} {b1 : Bool} {t : Tr} {w : World} {j : Nat} {v : Value} {cs : List TT} {ws' ws'' : List ByteArray} {b' b'' : Bool} {wr w2 w3 : World} {x : TT} {gg cap1 : Nat} {X : Obj}
    (h : LBp R H J B k n ws1 b1 t w j v cs ws' b' wr) (hRH : R < H) (hHJ : H < J) (hJB : J < B) (hw : w.heap.size ≤ H) (hR : 12 ≤ R) (hj : j < partsOf (k : Int))
    (hin : x.In w2) (hbl : x.Bl (wr.heap.size ≤ ·)) (hk : Kept R none wr w2) (hr : RS R ws'' b'' w2) (hs : StepR ((readTm n ws').map (·.2)) b' ws'' b'') (he : ∀ p, readTm n ws' = some p → x.tm = p.1)
    (hown : w3.ownsRow B 27 7 (.slice (some ⟨gg, 0, none⟩) (cs.length + 1) cap1) (cs.length + 1) (cells7 cs ++ cells7 [x])) (hgrow : (w2.alloc X).grownBy w3 v.ownBlock) (hat : v.ownBlock = some gg ∨ gg = w2.heap.size + 1) :
    LBp R H J B k n ws1 b1 t w (j + 1) (.slice (some ⟨gg, 0, none⟩) (cs.length + 1) cap1) (cs ++ [x]) ws'' b'' (w3.setCell ⟨J, 6, none⟩ (.slice (some ⟨gg, 0, none⟩) (cs.length + 1) cap1)) := by
  have hsz := h.size
  have hks := hk.size
  have hov : ∀ q, v.ownBlock = some q → B ≤ q ∧ q < wr.heap.size := h.row.lt
  have hrow2 : Row B v cs w2 := h.row.kept hk (by omega)
  obtain ⟨hrow3, hblk⟩ := hrow2.step hin (hbl.mono fun b hb => ⟨by omega, fun e => by have := (hov b e.symm).2; omega⟩) hown hgrow hat
  have hlow : ∀ q, q < B → w3.heap[q]? = w2.heap[q]? := fun q hq => hblk q (by omega) (fun e => by have := (hov q e.symm).1; omega)
  have hs3 : w2.heap.size ≤ w3.heap.size := by have := hgrow.size; simp at this; omega
  have hk23 : ∀ {u : World}, Kept R none u w2 → u.heap.size ≤ B → Kept R none u w3 := fun hu hB => hu.agree (hgrow.os.trans rfl) (hgrow.tape.trans rfl) (hgrow.output.trans rfl) hs3 (fun q hq => hlow q (by omega))
  have hkJ : Kept J none w3 (w3.setCell ⟨J, 6, none⟩ (.slice (some ⟨gg, 0, none⟩) (cs.length + 1) cap1)) := setR_kept
  obtain ⟨a, c, hv, hbox⟩ := h.box
  have hbox3 : Box7 w3 J ⟨(k : Int), 0, t, leaf 0, a, c, cs⟩ := (hbox.kept hk (by omega)).agree (hlow J hJB)
  have hw2 : Kept R none w w2 := h.kept.trans hk
  have hinv := h.inv.step (readTm_nil n) hj hs he
  refine ⟨hrow3.kept hkJ (by omega), by rw [List.length_append, h.len]; rfl, ⟨some ⟨gg, 0, none⟩, cap1, ?_, ?_⟩, ?_, ?_, ?_, ?_, ?_, h.tbl, ?_, ?_, ?_, ?_⟩
  · rw [List.length_append, List.length_singleton]
  · have := hbox3.set6 (a' := some ⟨gg, 0, none⟩) (c' := cap1) (l' := cs ++ [x])
    rw [List.length_append, List.length_singleton] at this
    exact this
  · exact ((h.res.kept hk (by omega)).agree (hlow H (by omega))).kept hkJ (by omega)
  · exact (hr.agree fun q hq => hlow q (by omega)).new hkJ (by omega)
  · exact (hk23 hw2 (by omega)).new hkJ (by omega)
  · rw [List.map_append]
    exact hinv
  · exact ((h.tin.keptR hk (h.tbl.mono fun b hb => by omega)).agree h.tbl (fun q hq => hlow q hq.2)).keptR hkJ (h.tbl.mono fun b hb => by omega)
  · exact ((h.gl.kept hR hk).of fun g hg => hlow g (by omega)).kept (by omega) hkJ
  · exact h.sm.step hs (fun r hr => by obtain ⟨p, hp, rfl⟩ := Option.map_eq_some_iff.1 hr; exact readTm_suf n _ _ hp)
  · have := h.small
    refine Nat.lt_of_le_of_lt (hs.len (N := ws'.length) fun r hr => ?_) this
    obtain ⟨p, hp, rfl⟩ := Option.map_eq_some_iff.1 hr
    exact Nat.le_of_lt (readTm_len n _ _ hp)
  · have := hkJ.size
    omega
end Go.Proofs.YtnddkmccagiclabGreatDoor

/-
  What the calls of (*reader).readTermInBrackets and (*reader).readTerm do, whatever words are left.
-/
namespace Go.Proofs.YtnddkmccagiclabGreatDoor
open Go.RowKit
theorem kindAt_range {y : ByteArray} {k : Nat} (h : kindAt y = some k) : 4 ≤ k ∧ k ≤ 9 := by
  simp only [kindAt, kindWs, atWord] at h
  repeat' split at h
  all_goals first
    | (cases h; omega)
    | cases h
set_option maxRecDepth 20000 in
set_option maxHeartbeats 8000000 in
/-- The word is one of the words. -/
theorem brack_good (R n : Nat) (y : ByteArray) (k : Nat) (hy : kindAt y = some k) (r1 : List ByteArray) (b : Bool) (w : World) (hg : Gl w) (hR : 12 ≤ R) (h : RS R (y :: r1) b w) (hn : r1.length < n) (hsm : SmW r1)
    (ih : Hid (∀ (ws : List ByteArray) (b : Bool) (w : World), ws.length < n → SmW ws → Gl w → RS R ws b w → Calls Tryz.prog 33 #[.pointer (some ⟨R, 0, none⟩)] w (TmPost R b (readTm n ws) w))) :
    Calls Tryz.prog 52 #[.pointer (some ⟨R, 0, none⟩)] w (TmPost R b (inTm n (y :: r1)) w) := by
  obtain ⟨i0, hi0, hz0, hz1, hz2⟩ := info_parts Tryz.info27
  have HN : Hid (Calls Tryz.prog 51 #[.pointer (some ⟨R, 0, none⟩)] (w7 w) fun e w' => e = .returned (.string y) ∧ RS R r1 b w' ∧ Kept R none (w7 w) w') := next_cons R y r1 b _ (h.below (w7_below w))
  have hRl := h.lt
  have HG : Hid (Gl (w7 w)) := hg.below (w7_below w)
  have hkr := kindAt_range hy
  have HY : Hid (kindAt y = some k) := hy
  have HL : Hid (r1.length < n ∧ SmW r1) := ⟨hn, hsm⟩
  have hpl := parts_le (k : Int)
  have HP3 : Hid (partsOf (k : Int) ≤ 3) := hpl
  clear hg h hn hsm
  obtain ⟨P, hP⟩ : ∃ P, partsOf (k : Int) = P := ⟨_, rfl⟩
  have HP : Hid (partsOf (k : Int) = P) := hP
  have hPl : (P : Int) ≤ 3 := by rw [← hP]; omega
  clear hP hpl
  go_enter Tryz.func52, Tryz.ntmps52
  go_wp2_with fail
  refine HN.out.mono ?_
  rintro e w1 ⟨rfl, hr, hk⟩
  have hne : w.heap.size ≠ R := by omega
  have HT : Hid (Calls Tryz.prog 84 #[.string y] w1 fun e w' => e = .returned (.tuple #[.int .i64 (k : Int), .bool true]) ∧ w' = w1) := by
    have := kindOf_any y w1 (HG.out.kept hR hk)
    rw [hy] at this
    exact this
  have hres1 : Box7 w1 w.heap.size (tleaf 0 0) := (box7_alloc w).kept hk hne
  have hs1 : w.heap.size < w1.heap.size := hres1.lt
  have HD : Hid (Kept R none w w1 ∧ Box7 w1 w.heap.size (tleaf 0 0) ∧ RS R r1 b w1 ∧ Gl w1) := ⟨(Kept.of_below (w7_below w)).trans hk, hres1, hr, HG.out.kept hR hk⟩
  clear hr hk HN HG hy hres1
  have HK : Hid (∀ w, Calls Tryz.prog 85 #[.int .i64 (k : Int)] w fun e w' => e = .returned (.bool (tells (k : Int))) ∧ w' = w) := tells_any (k : Int)
  -- the box of the term
  obtain ⟨O, hO⟩ : ∃ O, O = Obj.cells #[.int .i64 (k : Int), .int .i64 0, .int .i64 0, .slice none 0 0, .int .i64 0, .slice none 0 0, .slice none 0 0] 27 := ⟨_, rfl⟩
  have hb2 : Below w1.heap.size w1 (w1.alloc O) := (Below.refl _ _).alloc (Nat.le_refl _) _
  have hbx2 : Box7 (w1.alloc O) w1.heap.size ⟨(k : Int), 0, leaf 0, leaf 0, none, 0, []⟩ := by
    subst hO
    refine ⟨⟨?_, ?_, ?_, ?_, ?_, ?_, ?_⟩, fun i hi => ?_⟩
    · simp [go_sem]
    · simp [go_sem]
    · simp [go_sem, leaf]
    · simp [go_sem, leaf]
    · simp [go_sem, leaf]
    · simp [go_sem, leaf]
    · simp [go_sem]
    · simp [go_sem]
  have HE : Hid (Kept R none w (w1.alloc O) ∧ Box7 (w1.alloc O) w.heap.size (tleaf 0 0) ∧ RS R r1 b (w1.alloc O) ∧ Gl (w1.alloc O) ∧ Box7 (w1.alloc O) w1.heap.size ⟨(k : Int), 0, leaf 0, leaf 0, none, 0, []⟩) :=
    ⟨HD.out.1.trans (Kept.of_below hb2), HD.out.2.1.below hb2, HD.out.2.2.1.below hb2, HD.out.2.2.2.below hb2, hbx2⟩
  have hs2 : (w1.alloc O).heap.size = w1.heap.size + 1 := by simp
  obtain ⟨bt, hbt⟩ : ∃ bt, tells (k : Int) = bt := ⟨_, rfl⟩
  rw [hbt] at HK
  have HBT : Hid (tells (k : Int) = bt) := hbt
  clear hbt hbx2 hb2 HD
  cases bt
  rotate_left
  focus
    have HTY : Hid (Calls Tryz.prog 86 #[.pointer (some ⟨R, 0, none⟩)] (w1.alloc O) (TyPostP R b (readTy n r1) (w1.alloc O))) := readType_any R hR n r1 b _ HL.out.1 HE.out.2.2.2.1 HE.out.2.2.1
    have HRT : Hid (readT n k r1 = readTy n r1) := by show _ = _; unfold readT; rw [HBT.out]; rfl
    have hpk : 0 < partsOf (k : Int) := by
      have := HBT.out
      simp only [tells, Bool.or_eq_true, beq_iff_eq] at this
      rcases this with e | e <;> rw [e] <;> decide
    have HPK : Hid (0 < partsOf (k : Int)) := hpk
    clear hpk
    have i1 : (0 : Int) ≤ (k : Int) := by omega
    have i2 : (k : Int) < 10 := by omega
    subst hO
    go_wp2_with fail
    refine HT.out.mono ?_
    rintro e w2 ⟨rfl, rfl⟩
    go_wp2_with fail
    refine (HK.out _).mono ?_
    rintro e w2 ⟨rfl, rfl⟩
    go_wp2_with fail
    refine HTY.out.mono ?_
    rintro e w3 ⟨t, rfl, hit, hblt, hk3, hA3, het⟩
    obtain ⟨ws1, b1, hr3, hs3⟩ := hA3.letters
    have hneJ : w2.heap.size ≠ R := by omega
    have hbx3 := HE.out.2.2.2.2.kept hk3 hneJ
    have hsz3 : w2.heap.size < w3.heap.size := hbx3.lt
    have hkJ : Kept w2.heap.size none w3 ((w3.setCell ⟨w2.heap.size, 2, none⟩ (.int .i64 t.k)).setCell ⟨w2.heap.size, 3, none⟩ (.slice t.a t.l.length t.c)) := set23_kept
    have hszW : ((w3.setCell ⟨w2.heap.size, 2, none⟩ (.int .i64 t.k)).setCell ⟨w2.heap.size, 3, none⟩ (.slice t.a t.l.length t.c)).heap.size = w3.heap.size := by simp [World.setCell]
    have hgl3 : Gl w3 := HE.out.2.2.2.1.kept hR hk3
    have HLB0 : Hid (LBp R w.heap.size w2.heap.size w3.heap.size k n ws1 b1 t w 0 (.slice none 0 0) [] ws1 b1 ((w3.setCell ⟨w2.heap.size, 2, none⟩ (.int .i64 t.k)).setCell ⟨w2.heap.size, 3, none⟩ (.slice t.a t.l.length t.c))) := by
      have hst : StepR ((readTy n r1).map (·.2)) b ws1 b1 := hs3
      refine ⟨Row.nil _ _, rfl, ⟨none, 0, rfl, hbx3.set23⟩, (HE.out.2.1.kept hk3 hne).kept hkJ (by omega), hr3.new hkJ (by omega), (HE.out.1.trans hk3).new hkJ (by omega), InvN.start _ _ _ _, hit.keptR hkJ (hblt.mono fun b hb => by simp at hb; omega), (hit.bl.and hblt).mono (fun b hb => ⟨by have := hb.2; simp at this; omega, hb.1⟩), hgl3.kept (by omega) hkJ, HL.out.2.step hst (fun r hr => by obtain ⟨p, hp, rfl⟩ := Option.map_eq_some_iff.1 hr; exact readTy_suf n _ _ hp), ?_, by rw [hszW]; exact Nat.le_refl _⟩
      refine Nat.lt_of_le_of_lt (hst.len (N := r1.length) fun r hr => ?_) HL.out.1
      obtain ⟨p, hp, rfl⟩ := Option.map_eq_some_iff.1 hr
      exact Nat.le_of_lt (readTy_len n _ _ hp)
    have HS : Hid (StepR ((readT n k r1).map (·.2)) b ws1 b1 ∧ (∀ p, readT n k r1 = some p → t.ty = p.1) ∧ (readT n k r1 = none → 0 < partsOf (k : Int))) := by
      show _ ∧ _
      rw [HRT.out]
      exact ⟨hs3, het, fun _ => HPK.out⟩
    have hp : w3.cell? ⟨0, k, none⟩ = some (.int .i64 (P : Int)) := by
      rw [← HP.out]
      exact parts_cell hgl3.gp (k : Int) (by omega) (by omega)
    have h2J : (2 : Nat) ≠ w2.heap.size := by omega
    have q2 := hbx3.at7.c2
    have q3 := hbx3.at7.c3
    simp only [Nat.zero_add, leaf] at q2 q3
    have g2 := hbx3.fz 2 (by omega)
    have g3 := hbx3.fz 3 (by omega)
    obtain ⟨B, hB⟩ : ∃ B, w3.heap.size = B := ⟨_, rfl⟩
    have hJB : w2.heap.size < B := by omega
    rw [hB] at HLB0
    clear hB hs2 hit hblt hk3 hA3 het hr3 hs3 hbx3 hkJ hszW hgl3 HTY
    go_wp2_with fail
  rotate_left
  focus
    have HLB : Hid (∃ (t : Tr) (ws1 : List ByteArray) (b1 : Bool), LBp R w.heap.size w1.heap.size (w1.alloc O).heap.size k n ws1 b1 t w 0 (.slice none 0 0) [] ws1 b1 (w1.alloc O) ∧ StepR ((readT n k r1).map (·.2)) b ws1 b1 ∧ (∀ p, readT n k r1 = some p → t.ty = p.1) ∧ (readT n k r1 = none → 0 < partsOf (k : Int))) := by
      have e : readT n k r1 = some (anyY, r1) := by unfold readT; rw [HBT.out]; rfl
      refine ⟨leaf 0, r1, b, ⟨Row.nil _ _, rfl, ⟨none, 0, rfl, HE.out.2.2.2.2⟩, HE.out.2.1, HE.out.2.2.1, HE.out.1, InvN.start _ _ _ _, leaf_in _ _, leaf_bl _ _, HE.out.2.2.2.1, HL.out.2, HL.out.1, Nat.le_refl _⟩, ?_, ?_, ?_⟩
      · rw [e]; exact .inl ⟨rfl, rfl⟩
      · intro p hp; rw [e] at hp; cases hp; exact leaf_ty 0
      · intro hp; rw [e] at hp; cases hp
    obtain ⟨t, ws1, b1, hlb, hst, het, hdd⟩ := HLB.out
    have HS : Hid (StepR ((readT n k r1).map (·.2)) b ws1 b1 ∧ (∀ p, readT n k r1 = some p → t.ty = p.1) ∧ (readT n k r1 = none → 0 < partsOf (k : Int))) := ⟨hst, het, hdd⟩
    have HLB0 : Hid (LBp R w.heap.size w1.heap.size (w1.alloc O).heap.size k n ws1 b1 t w 0 (.slice none 0 0) [] ws1 b1 (w1.alloc O)) := hlb
    clear hst het hdd hlb HLB
    have hp : (w1.alloc O).cell? ⟨0, k, none⟩ = some (.int .i64 (P : Int)) := by
      rw [← HP.out]
      exact parts_cell HE.out.2.2.2.1.gp (k : Int) (by omega) (by omega)
    obtain ⟨B, hB⟩ : ∃ B, (w1.alloc O).heap.size = B := ⟨_, rfl⟩
    have hJB : w1.heap.size < B := by rw [← hB, hs2]; omega
    rw [hB] at HLB0
    clear hB hs2
    have i1 : (0 : Int) ≤ (k : Int) := by omega
    have i2 : (k : Int) < 10 := by omega
    subst hO
    go_wp2_with fail
    refine HT.out.mono ?_
    rintro e w2 ⟨rfl, rfl⟩
    go_wp2_with fail
    refine (HK.out _).mono ?_
    rintro e w2 ⟨rfl, rfl⟩
    go_wp2_with fail
  all_goals
    go_loopg [27] P (fun g i wr => ∃ (j : Nat) (v : Value) (cs : List TT) (ws' : List ByteArray) (b' : Bool), g + j = P ∧ i = .int .i64 (j : Int) ∧ Hid (LBp R w.heap.size w2.heap.size B k n ws1 b1 t w j v cs ws' b' wr))
    case atStart => exact ⟨0, _, _, _, _, by omega, rfl, HLB0⟩
    case round =>
      obtain ⟨j, v, cs, ws', b', hj, rfl, HQ⟩ := hrel
      have hJR : w2.heap.size ≠ R := by omega
      have hclen : cs.length = j := HQ.out.len
      by_cases hlt : j < P
      · have hb1 : Below wr.heap.size wr wr.drew := (Below.refl _ _).drew
        have HI : Hid (Calls Tryz.prog 33 #[.pointer (some ⟨R, 0, none⟩)] wr.drew (TmPost R b' (readTm n ws') wr.drew)) := ih.out ws' b' _ HQ.out.small HQ.out.sm (HQ.out.gl.below hb1) (HQ.out.rs.below hb1)
        have HRW : Hid (Row B v cs wr.drew) := HQ.out.row.below hb1
        obtain ⟨a, c, hv, hbx⟩ := HQ.out.box
        have u1 : wr.drew.cell? ⟨w2.heap.size, 6, none⟩ = some v := by rw [hv]; exact hbx.at7.c6
        have uf : wr.drew.frozen? ⟨w2.heap.size, 6, none⟩ = false := hbx.fz 6 (by omega)
        have uo : wr.drew.ownsRow B 27 7 v cs.length (cells7 cs) := HRW.out.own
        have us : w2.heap.size < wr.drew.heap.size := World.block_lt_of_cell? _ _ u1
        have hnv : v.ownBlock ≠ some w2.heap.size := fun e => by have := (HQ.out.row.lt _ e).1; omega
        have hszB : B ≤ wr.heap.size := HQ.out.size
        have hcl3 : cs.length ≤ 3 := by omega
        have hRB : R < B := by omega
        clear hv hbx
        have hJP : j < partsOf (k : Int) := by rw [HP.out]; exact hlt
        have HJP : Hid (j < partsOf (k : Int)) := hJP
        have HJ : Hid (j + 1 ≤ P ∧ gk + j = P) := ⟨hlt, hj⟩
        clear hJP hj hp hclen
        go_wp2_with fail
        go_region_law
          (first
            | (go_simp; go_at_call 33; refine HI.out.mono ?_; rintro e w5 ⟨x, rfl, hin, hbl, hk5, hA5, he5⟩; replace u1 := hk5.cell u1 hJR; replace uf := hk5.fz uf us hJR; replace uo := (HRW.out.kept hk5 hRB).own; replace us : w2.heap.size < w5.heap.size := World.block_lt_of_cell? _ _ u1; have hnew := heap_alloc_new w5 (.cells #[.int .i64 x.k, .int .i64 x.n, .int .i64 x.t.k, .slice x.t.a x.t.l.length x.t.c, .int .i64 x.f.k, .slice x.f.a x.f.l.length x.f.c, .slice x.a x.l.length x.c] 27); have un : w2.heap.size ≠ w5.heap.size := Nat.ne_of_lt us; go_wp2_with fail)
            | (refine step_append_lies _ (by rfl) _ _ _ (by rfl) B 27 i0 _ 7 104 Tryz.underlying25 hi0 hz0 hz1 hz2 rfl (by omega) v cs.length (cells7 cs) (by rfl) (uo.alloc _)
                  ⟨w5.heap.size, 0, none⟩ 1 1 [.int .i64 x.k, .int .i64 x.n, .int .i64 x.t.k, .slice x.t.a x.t.l.length x.t.c, .int .i64 x.f.k, .slice x.f.a x.f.l.length x.f.c, .slice x.a x.l.length x.c] (by rfl) (by rfl) (World.news_of_block (cs := #[.int .i64 x.k, .int .i64 x.n, .int .i64 x.t.k, .slice x.t.a x.t.l.length x.t.c, .int .i64 x.f.k, .slice x.f.a x.f.l.length x.f.c, .slice x.a x.l.length x.c]) (t := 27) (fr := (0, 0)) hnew) (by simp [Value.oneCell'])
                  (by omega) (by unfold maxLen; omega) (by omega) (by have := hk5.size; simp at this ⊢; omega) (w5.heap.size + 1) (by simp) ?_; intro gg cap1 w6 hown1 hgrow hat hlt3; have hcr : w6.cell? ⟨w2.heap.size, 6, none⟩ = some v := (by rw [hgrow.cell_far _ (by simp; omega) (Ne.symm hnv)]; exact cell_later ((Below.refl _ _).alloc (Nat.le_refl _) _) u1); have hfr : w6.frozen? ⟨w2.heap.size, 6, none⟩ = false := (by rw [hgrow.frozen_far _ (by simp; omega) (Ne.symm hnv)]; exact (((Below.refl _ _).alloc (Nat.le_refl _) _).frozen (p := ⟨w2.heap.size, 6, none⟩) us).trans uf)))
        all_goals
          obtain ⟨ws'', b'', hr5, hs5⟩ := hA5.letters
          have HN : Hid (LBp R w.heap.size w2.heap.size B k n ws1 b1 t w (j + 1) (.slice (some ⟨gg, 0, none⟩) (cs.length + 1) cap1) (cs ++ [x]) ws'' b'' (w6.setCell ⟨w2.heap.size, 6, none⟩ (.slice (some ⟨gg, 0, none⟩) (cs.length + 1) cap1))) :=
            HQ.out.step hRl hs1 hJB (Nat.le_refl _) hR HJP.out hin (hbl.mono fun b hb => by simpa using hb) ((Kept.of_below hb1).trans hk5) hr5 hs5 he5 hown1 hgrow hat
          clear hown1 hgrow hat hcr hfr hin hbl hk5 hA5 he5 hr5 hs5 uo uf u1 us HI HRW HQ hnew un hb1
          go_wp2_with fail
          go_roundg (P - (j + 1))
          case measure => have := HJ.out; omega
          case rel => exact ⟨j + 1, _, _, _, _, by have := HJ.out; omega, by go_num, HN⟩
      · have hjP : j = P := by omega
        have HW : Hid (Calls Tryz.prog 87 #[.pointer (some ⟨R, 0, none⟩), .string ⟨#[41]⟩] wr fun e w' => e = .returned (.tuple #[]) ∧ After R b' (behind clB ws') w' ∧ Kept R none wr w') := want_any R clB (by decide) ws' b' _ HQ.out.rs
        have HJP : Hid (j = P) := hjP
        clear hp hclen hj hjP
        go_wp2_with fail
        refine HW.out.mono ?_
        rintro e w5 ⟨rfl, hA5, hk5⟩
        obtain ⟨ws3, b3, hr5, hs5⟩ := hA5.letters
        obtain ⟨a, c, hv, hbx⟩ := HQ.out.box
        have hszB : B ≤ wr.heap.size := HQ.out.size
        obtain ⟨a', c', hv', htree⟩ := (HQ.out.row.kept hk5 (by omega)).tree
        rw [hv] at hv'
        obtain ⟨rfl, rfl⟩ : a = a' ∧ c = c' := by cases hv'; exact ⟨rfl, rfl⟩
        have hbx5 := hbx.kept hk5 hJR
        have hres5 := HQ.out.res.kept hk5 hne
        have hti := htree (k : Int) 0 t (leaf 0) (HQ.out.tin.keptR hk5 (HQ.out.tbl.mono fun b hb => by omega)) (leaf_in _ _)
        have hbl := hti.2 (fun b => w.heap.size < b) (fun b hb => by omega) (HQ.out.tbl.mono fun b hb => by omega) (leaf_bl _ _)
        have hfin := inTm_steps HY.out HS.out.1 HS.out.2.1 (by have := HQ.out.inv; rw [HJP.out, ← HP.out] at this; exact this) hs5 HS.out.2.2
        have htm : (TT.mk (k : Int) 0 t (leaf 0) a c cs).tm = ⟨(k : Int), 0, t.ty, anyY, cs.map TT.tm⟩ := by rw [TT.tm_mk, leaf_ty]; rfl
        have HE5 : Hid (TmPost R b (inTm n (y :: r1)) w (.returned (.agg #[.int .i64 (k : Int), .int .i64 0, .int .i64 t.k, .slice t.a t.l.length t.c, .int .i64 0, .slice none 0 0, .slice a cs.length c])) (put7 w5 w.heap.size (TT.mk (k : Int) 0 t (leaf 0) a c cs))) :=
          (tm_end (x := TT.mk (k : Int) 0 t (leaf 0) a c cs) hres5 (Nat.le_refl _) hRl hti.1 hbl (HQ.out.kept.trans hk5) hr5 hfin.1 (fun p hp => by rw [htm]; exact hfin.2 p hp)).1
        have HGT := put7_gets (x := TT.mk (k : Int) 0 t (leaf 0) a c cs) hres5
        have h7 := hbx5.at7
        have c0 := h7.c0
        have c1 := h7.c1
        have c2 := h7.c2
        have c3 := h7.c3
        have c4 := h7.c4
        have c5 := h7.c5
        have c6 := h7.c6
        simp only [Nat.zero_add, leaf] at c0 c1 c2 c3 c4 c5 c6
        have r7 := hres5.at7
        have e0 := r7.c0
        have e1 := r7.c1
        have e2 := r7.c2
        have e3 := r7.c3
        have e4 := r7.c4
        have e5 := r7.c5
        have e6 := r7.c6
        simp only [Nat.zero_add, tleaf] at e0 e1 e2 e3 e4 e5 e6
        have f0 := hres5.fz 0 (by omega)
        have f1 := hres5.fz 1 (by omega)
        have f2 := hres5.fz 2 (by omega)
        have f3 := hres5.fz 3 (by omega)
        have f4 := hres5.fz 4 (by omega)
        have f5 := hres5.fz 5 (by omega)
        have f6 := hres5.fz 6 (by omega)
        have HGT' : Hid _ := HGT
        clear h7 r7 hA5 hk5 hr5 hs5 hv hv' hbx htree hbx5 hres5 hti hbl hfin htm HQ HW HGT
        go_wp2_with fail
        refine bodyPost_ret (v := .agg #[.int .i64 (k : Int), .int .i64 0, .int .i64 t.k, .slice t.a t.l.length t.c, .int .i64 0, .slice none 0 0, .slice a cs.length c]) ?_ rfl HE5.out
        obtain ⟨d0, d1, d2, d3, d4, d5, d6⟩ := HGT'.out
        simp only [leaf, List.length_nil] at d0 d1 d2 d3 d4 d5 d6
        simp [results, Tryz.results52, go_sem, d0, d1, d2, d3, d4, d5, d6]
/-- (*reader).readTerm. -/
theorem readTerm_any (R : Nat) (hR : 12 ≤ R) (n : Nat) : ∀ (ws : List ByteArray) (b : Bool) (w : World), ws.length < n → SmW ws → Gl w → RS R ws b w →
    Calls Tryz.prog 33 #[.pointer (some ⟨R, 0, none⟩)] w (TmPost R b (readTm n ws) w) := by
  induction n with
  | zero => intro ws b w h; omega
  | succ n ih =>
    intro ws b w hn hsm hg h
    cases ws with
    | nil => exact readTerm_nil R (n + 1) b w hg hR h
    | cons x r =>
      by_cases hx : x = opB
      · subst hx
        rw [readTm_open]
        refine readTerm_open R n r b w hR hg h (fun w hg h => ?_)
        have hsr : SmW r := fun x hx => hsm x (by simp [hx])
        cases r with
        | nil =>
          exact brack_bad R ⟨#[]⟩ (by decide) [] b true w hg hR h.lt (next_nil R b _ (h.below (w7_below w)))
        | cons y r1 =>
          cases hy : kindAt y with
          | none =>
            have e : inTm n (y :: r1) = none := by simp [inTm, hy]
            rw [e]
            exact brack_bad R y hy r1 b b w hg hR h.lt (next_cons R y r1 b _ (h.below (w7_below w)))
          | some k => exact brack_good R n y k hy r1 b w hg hR h (by simp at hn; omega) (fun x hx => hsr x (by simp [hx])) ih
      · exact readTerm_word R n x (hsm x (by simp)) r hx b w hg hR h
end Go.Proofs.YtnddkmccagiclabGreatDoor

/-
  What the calls of term.isSpace and term.cut answer: the words of a text.
-/
namespace Go.Proofs.YtnddkmccagiclabGreatDoor
open Go.RowKit
theorem replaceK_skip (c b : UInt8) (new : List UInt8) (h : b ≠ c) : ∀ (n : Nat) (l : List UInt8), n ≤ Lib.count l [c] → Lib.replaceK [c] new n (b :: l) = b :: Lib.replaceK [c] new n l
  | 0, l, _ => rfl
  | n + 1, l, hn => by
    obtain ⟨j, hj⟩ := Lib.index_of_count (s := l) (old := [c]) (by omega)
    have hp : ([c] : List UInt8).isPrefixOf (b :: l) = false := by simp [List.isPrefixOf, Ne.symm h]
    have hj' : Lib.index (b :: l) [c] = ((j + 1 : Nat) : Int) := by
      rw [Lib.index, hp]
      simp only [Bool.false_eq_true, if_false]
      rw [if_neg (by rw [hj]; simp), hj]
      omega
    rw [Lib.replaceK_hit _ _ _ _ _ hj', Lib.replaceK_hit _ _ _ _ _ hj]
    have e : j + 1 + [c].length = (j + [c].length) + 1 := by omega
    rw [e, List.take_succ_cons, List.drop_succ_cons]
    rfl
theorem replaceK_around (c : UInt8) : ∀ s : List UInt8, Lib.replaceK [c] [32, c, 32] (Lib.count s [c]) s = around c s
  | [] => by rw [Lib.count_one]; rfl
  | b :: l => by
    by_cases h : b = c
    · subst h
      have hi : Lib.index (b :: l) [b] = ((0 : Nat) : Int) := by rw [Lib.index]; simp [List.isPrefixOf]
      rw [Lib.count_cons_eq, Nat.add_comm, Lib.replaceK_hit _ _ _ _ _ hi, around_cons, if_pos rfl]
      have e : 0 + [b].length = 0 + 1 := rfl
      rw [e, List.drop_succ_cons, List.drop_zero, replaceK_around b l]
      simp
    · rw [Lib.count_cons_ne b c l h, replaceK_skip c b _ h _ l (Nat.le_refl _), replaceK_around c l, around_cons, if_neg h]
      rfl
theorem replaceAll_around (c : UInt8) (s : List UInt8) : Lib.replaceAll s [c] [32, c, 32] = around c s := by
  have hne : ([c] == [32, c, 32]) = false := by simp
  have hn : Lib.replaceNum s [c] (-1) = Lib.count s [c] := by rw [Lib.replaceNum, if_pos (.inl (by omega))]
  rw [Lib.replaceAll, Lib.replace, hne, hn]
  exact replaceK_around c s
theorem around_len (c : UInt8) : ∀ s : List UInt8, (around c s).length ≤ 3 * s.length
  | [] => by simp [around]
  | x :: s => by
    rw [around_cons]
    have := around_len c s
    split <;> simp <;> omega
/-- The words of a text. -/
def wordsOf (s : List UInt8) : List ByteArray := (tokW [] s).map bw
theorem fields_words (s : List UInt8) : Lib.goFieldsP spR (bw (around 41 (around 40 s))) = wordsOf s := by
  have h := spans_split (bw (around 41 (around 40 s))) (bw (around 41 (around 40 s))).size 0 none [] (Nat.zero_le _) (by omega) (by intro a h; cases h)
  simp only [List.map_nil, List.nil_append, curOf, List.drop_zero, bw_data] at h
  rw [split_tok] at h
  rw [wordsOf, ← h, Lib.goFieldsP, Lib.spansOfP, List.map_map]
  refine List.map_congr_left fun x _ => ?_
  show _ = bw (bytesOf _ x)
  have e : ((bw (around 41 (around 40 s))).extract x.1 x.2).data.toList = bytesOf (bw (around 41 (around 40 s))) x := by
    rw [Lib.extract_data]
    rfl
  rw [← e]
  rfl
set_option maxHeartbeats 400000 in
/-- term.isSpace. -/
theorem isSpace_any (x : Nat) (w : World) : Calls Tryz.prog 50 #[.int .i32 (x : Int)] w fun e w' => e = .returned (.bool (spR x)) ∧ w' = w := by
  have e1 : ((x : Int) == 32) = (x == 32) := by rw [Bool.eq_iff_iff]; simp; omega
  have e2 : ((x : Int) == 10) = (x == 10) := by rw [Bool.eq_iff_iff]; simp; omega
  cases h : (x == 32) with
  | true =>
    rw [h] at e1
    have HO : Hid (spR x = true) := by show _ = _; simp [spR, h]
    clear e2 h
    go_enter Tryz.func50, Tryz.ntmps50
    go_wp2_with fail
    go_ret
    exact ⟨by rw [HO.out]; rfl, rfl⟩
  | false =>
    rw [h] at e1
    have HO : Hid (spR x = (x == 10)) := by show _ = _; simp [spR, h]
    have HE : Hid (((x : Int) == 10) = (x == 10)) := e2
    clear e2 h
    go_enter Tryz.func50, Tryz.ntmps50
    go_wp2_with fail
    go_ret
    exact ⟨by rw [HO.out, ← HE.out]; rfl, rfl⟩
theorem sp_open : (({ data := #[32] } ++ { data := #[40] } ++ { data := #[32] } : ByteArray)) = ⟨#[32, 40, 32]⟩ := by decide
theorem sp_close : (({ data := #[32] } ++ { data := #[41] } ++ { data := #[32] } : ByteArray)) = ⟨#[32, 41, 32]⟩ := by decide
theorem repl_any (c : UInt8) (s new : ByteArray) (hnew : new = ⟨#[32, c, 32]⟩) (hs : s.size ≤ 100000) (w : World) (hg : Gl w) :
    Calls Tryz.prog 48 #[.string s, .string ⟨#[c]⟩, .string new] w fun e w' => e = .returned (.string (bw (around c s.data.toList))) ∧ Below w.heap.size w w' := by
  obtain ⟨m, hm⟩ := hg.mx
  have hc := hm.cell 0
  have hcb := Lib.countB_le ⟨#[c]⟩ (by show 1 ≤ 1; omega) s.size s (Nat.le_refl _)
  have hns : new.size = 3 := by rw [hnew]; rfl
  have h := Tryz.strings_ReplaceAll s ⟨#[c]⟩ new m w (by omega) (by simpa using hc) (by show 1 ≤ 1; omega) (by rw [hns]; omega)
  have e : Lib.replaceAll s.data.toList (⟨#[c]⟩ : ByteArray).data.toList new.data.toList = around c s.data.toList := by rw [hnew]; exact replaceAll_around c _
  rw [e] at h
  exact h
set_option maxRecDepth 20000 in
set_option maxHeartbeats 1000000 in
/-- term.cut. -/
theorem cut_any (s : ByteArray) (hs : s.size ≤ 1000) (w : World) (hg : Gl w) :
    Calls Tryz.prog 32 #[.string s] w fun e w' => ∃ A, e = .returned (.slice (some ⟨A, 0, none⟩) (wordsOf s.data.toList).length (wordsOf s.data.toList).length) ∧ w.heap.size ≤ A ∧
      w'.ownsRow w.heap.size 9 1 (.slice (some ⟨A, 0, none⟩) (wordsOf s.data.toList).length (wordsOf s.data.toList).length) (wordsOf s.data.toList).length ((wordsOf s.data.toList).map Value.string) ∧ Below w.heap.size w w' := by
  have x0 := idx84_0 (.string ⟨#[40]⟩) (.string ⟨#[41]⟩)
  have x1 := idx84_1 (.string ⟨#[40]⟩) (.string ⟨#[41]⟩)
  go_enter Tryz.func32, Tryz.ntmps32
  go_wp2_with fail
  go_loopg [0, 6] 2 (fun k v i wr => ∃ j : Nat, k + j = 2 ∧ i = .int .i64 (j : Int) ∧ Below w.heap.size w wr ∧ ((j = 0 ∧ v = .string s ∧ wr = w) ∨ (j = 1 ∧ v = .string (bw (around 40 s.data.toList))) ∨ (j = 2 ∧ v = .string (bw (around 41 (around 40 s.data.toList))))))
  case atStart => exact ⟨0, rfl, rfl, Below.refl _ _, .inl ⟨rfl, rfl, rfl⟩⟩
  case round =>
    obtain ⟨j, hj, rfl, hb, ⟨rfl, rfl, rfl⟩ | ⟨rfl, rfl⟩ | ⟨rfl, rfl⟩⟩ := hrel
    · have HR : Hid (Calls Tryz.prog 48 #[.string s, .string ⟨#[40]⟩, .string (⟨#[32]⟩ ++ ⟨#[40]⟩ ++ ⟨#[32]⟩)] wr fun e w' => e = .returned (.string (bw (around 40 s.data.toList))) ∧ Below wr.heap.size wr w') := repl_any 40 s _ sp_open (by omega) wr hg
      clear hg
      go_wp2_with fail
      refine HR.out.mono ?_
      rintro e w1 ⟨rfl, hb1⟩
      go_wp2_with fail
      go_roundg 1
      case measure => omega
      case rel => exact ⟨1, rfl, rfl, hb1, .inr (.inl ⟨rfl, rfl⟩)⟩
    · have hl := around_len 40 s.data.toList
      have hsl : s.data.toList.length = s.size := Array.length_toList
      have hsz : (bw (around 40 s.data.toList)).size ≤ 3000 := by show (around 40 s.data.toList).toArray.size ≤ 3000; simp; omega
      have HR : Hid (Calls Tryz.prog 48 #[.string (bw (around 40 s.data.toList)), .string ⟨#[41]⟩, .string (⟨#[32]⟩ ++ ⟨#[41]⟩ ++ ⟨#[32]⟩)] wr fun e w' => e = .returned (.string (bw (around 41 (around 40 s.data.toList)))) ∧ Below wr.heap.size wr w') := repl_any 41 (bw (around 40 s.data.toList)) _ sp_close (by omega) wr (hg.below hb)
      clear hg hl hsl hsz
      go_wp2_with fail
      refine HR.out.mono ?_
      rintro e w1 ⟨rfl, hb1⟩
      have hb2 := hb.trans (hb1.mono hb.size)
      clear hb1 hb
      go_wp2_with fail
      go_roundg 0
      case measure => omega
      case rel => exact ⟨2, rfl, rfl, hb2, .inr (.inr ⟨rfl, rfl⟩)⟩
    · have hl := around_len 40 s.data.toList
      have hl2 := around_len 41 (around 40 s.data.toList)
      have hsl : s.data.toList.length = s.size := Array.length_toList
      have hsz : (bw (around 41 (around 40 s.data.toList))).size ≤ 9000 := by show (around 41 (around 40 s.data.toList)).toArray.size ≤ 9000; simp; omega
      have HF : Hid (Calls Tryz.prog 49 #[.string (bw (around 41 (around 40 s.data.toList))), .func (.func 50) #[] #[]] wr fun e w' => ∃ A, e = .returned (.slice (some ⟨A, 0, none⟩) (wordsOf s.data.toList).length (wordsOf s.data.toList).length) ∧ wr.heap.size ≤ A ∧
          w'.ownsRow wr.heap.size 9 1 (.slice (some ⟨A, 0, none⟩) (wordsOf s.data.toList).length (wordsOf s.data.toList).length) (wordsOf s.data.toList).length ((wordsOf s.data.toList).map Value.string) ∧ Below wr.heap.size wr w') := by
        have h := Tryz.strings_FieldsFunc_grows 50 #[] (enters_of Tryz.func50 (by kernel_rfl) rfl) spR (bw (around 41 (around 40 s.data.toList))) wr (by omega) (fun W x _ _ => (isSpace_any x W).mono (by rintro e w' ⟨rfl, rfl⟩; exact ⟨rfl, Below.refl _ _⟩))
        rw [fields_words] at h
        exact h
      clear hg hl hl2 hsl hsz
      go_wp2_with fail
      refine HF.out.mono ?_
      rintro e w1 ⟨A, rfl, hA, hown, hb1⟩
      have HE : Hid (w.heap.size ≤ A ∧ w1.ownsRow w.heap.size 9 1 (.slice (some ⟨A, 0, none⟩) (wordsOf s.data.toList).length (wordsOf s.data.toList).length) (wordsOf s.data.toList).length ((wordsOf s.data.toList).map Value.string) ∧ Below w.heap.size w w1) := by
        have hsz := hb.size
        refine ⟨by omega, ⟨hown.1, ?_⟩, hb.trans (hb1.mono hb.size)⟩
        rcases hown.2 with hn | ⟨g, cap, cur, hv, hbg, rest⟩
        · exact .inl hn
        · exact .inr ⟨g, cap, cur, hv, by omega, rest⟩
      clear hA hown hb1 hb HF
      go_wp2_with fail
      go_ret
      exact ⟨A, rfl, HE.out.1, HE.out.2.1, HE.out.2.2⟩
end Go.Proofs.YtnddkmccagiclabGreatDoor

/-
  What the call of term.Parse answers, at any text.
-/
namespace Go.Proofs.YtnddkmccagiclabGreatDoor
open Go.RowKit
/-! ### Numbers of 64 bits; how many words there are, and how long -/
def Tm.nb : Tm → Prop
  | ⟨_, n, _, _, l⟩ => n ≤ 9223372036854775807 ∧ ∀ x, x ∈ l → x.nb
theorem Tm.nb_mk {k n : Int} {t f : Ty} {l : List Tm} : (Tm.mk k n t f l).nb ↔ n ≤ 9223372036854775807 ∧ ∀ x, x ∈ l → x.nb := by
  rw [Tm.nb]
theorem TT.nb_tm {x : TT} : x.tm.nb → x.nb := by
  induction x using TT.ind with
  | h k n t f a c l ih =>
    intro h
    rw [TT.tm_mk] at h
    obtain ⟨h1, h2⟩ := Tm.nb_mk.1 h
    exact TT.nb_mk.2 ⟨h1, fun x hx => ih x hx (h2 _ (List.mem_map_of_mem hx))⟩
theorem numOf_le {d : ByteArray} {v : Int} (h : numOf d = some v) : v ≤ 9223372036854775807 := by
  unfold numOf at h
  split at h
  · rename_i u hu
    split at h
    · cases h; exact (Lib.atoiAll_bounds hu).2
    · cases h
  · cases h
theorem atWord_le (x : ByteArray) : ∀ (l : List ByteArray) (i k : Nat), atWord x l i = some k → k < i + l.length
  | [], i, k, h => by cases h
  | y :: r, i, k, h => by
    simp only [atWord] at h
    split at h
    · cases h; simp
    · have := atWord_le x r (i + 1) k h
      simp only [List.length_cons]; omega
theorem readWord_nb {x : ByteArray} {r : List ByteArray} {p : Tm × List ByteArray} (h : readWord x r = some p) : p.1.nb := by
  unfold readWord at h
  split at h
  · rename_i b hb
    have := atWord_le x truthWs 0 b hb
    have e : truthWs.length = 2 := rfl
    cases h
    exact Tm.nb_mk.2 ⟨by omega, fun x hx => by cases hx⟩
  · split at h
    · obtain ⟨v, hv, rfl⟩ := Option.map_eq_some_iff.1 h
      exact Tm.nb_mk.2 ⟨numOf_le hv, fun x hx => by cases hx⟩
    · obtain ⟨v, hv, rfl⟩ := Option.map_eq_some_iff.1 h
      exact Tm.nb_mk.2 ⟨numOf_le hv, fun x hx => by cases hx⟩
theorem readN_nb (f : List ByteArray → Option (Tm × List ByteArray)) (hf : ∀ ws p, f ws = some p → p.1.nb) : ∀ (m : Nat) (ws : List ByteArray) (q : List Tm × List ByteArray), readN f m ws = some q → ∀ x, x ∈ q.1 → x.nb
  | 0, ws, q, h => by simp [readN] at h; rw [← h]; intro x hx; cases hx
  | m + 1, ws, q, h => by
    simp only [readN, Option.bind_eq_some_iff, Option.map_eq_some_iff] at h
    obtain ⟨p, hp, q', hq, rfl⟩ := h
    intro x hx
    rcases List.mem_cons.1 hx with rfl | hx
    · exact hf ws p hp
    · exact readN_nb f hf m _ _ hq x hx
theorem readTm_nb : ∀ (n : Nat) (ws : List ByteArray) (p : Tm × List ByteArray), readTm n ws = some p → p.1.nb
  | 0, _, _, h => by simp [readTm] at h
  | n + 1, [], _, h => by simp [readTm] at h
  | n + 1, x :: r, p, h => by
    by_cases hx : x = opB
    · subst hx
      rw [readTm_open] at h
      cases r with
      | nil => cases h
      | cons y r1 =>
        simp only [inTm, Option.bind_eq_some_iff, Option.map_eq_some_iff] at h
        obtain ⟨k, _, p1, h1, q, h2, r4, h3, rfl⟩ := h
        exact Tm.nb_mk.2 ⟨by omega, readN_nb (readTm n) (fun ws p hp => readTm_nb n ws p hp) _ _ _ h2⟩
    · rw [readTm_word n x r hx] at h
      exact readWord_nb h
theorem flush_len (cur : List UInt8) : (flush cur).length ≤ 1 := by unfold flush; split <;> simp
theorem tok_len : ∀ (s cur : List UInt8), (tokW cur s).length ≤ 2 * s.length + 1
  | [], cur => by rw [tokW]; have := flush_len cur; omega
  | c :: r, cur => by
    rw [tokW]
    have h1 := flush_len cur
    split
    · have := tok_len r []
      simp only [List.length_append, List.length_cons]; omega
    · split
      · have := tok_len r []
        simp only [List.length_append, List.length_cons, List.length_nil]; omega
      · have := tok_len r (cur ++ [c])
        simp only [List.length_cons]; omega
theorem tok_small : ∀ (s cur x : List UInt8), x ∈ tokW cur s → x.length ≤ cur.length + s.length + 1
  | [], cur, x, h => by
    rw [tokW, flush] at h
    split at h
    · cases h
    · rcases List.mem_singleton.1 h with rfl; omega
  | c :: r, cur, x, h => by
    have hf : ∀ y, y ∈ flush cur → y.length ≤ cur.length := by
      intro y hy
      rw [flush] at hy
      split at hy
      · cases hy
      · rcases List.mem_singleton.1 hy with rfl; omega
    rw [tokW] at h
    split at h
    · rcases List.mem_append.1 h with h | h
      · have := hf x h; simp only [List.length_cons]; omega
      · have := tok_small r [] x h; simp only [List.length_cons, List.length_nil] at this ⊢; omega
    · split at h
      · rcases List.mem_append.1 h with h | h
        · rcases List.mem_append.1 h with h | h
          · have := hf x h; simp only [List.length_cons]; omega
          · rcases List.mem_singleton.1 h with rfl; simp
        · have := tok_small r [] x h; simp only [List.length_cons, List.length_nil] at this ⊢; omega
      · have := tok_small r (cur ++ [c]) x h
        simp only [List.length_append, List.length_cons, List.length_nil] at this ⊢; omega
theorem words_len (s : List UInt8) (h : s.length ≤ 1000) : (wordsOf s).length ≤ 2001 := by
  rw [wordsOf, List.length_map]; have := tok_len s []; omega
theorem words_small (s : List UInt8) (h : s.length ≤ 1000) : SmW (wordsOf s) := by
  intro x hx
  obtain ⟨y, hy, rfl⟩ := List.mem_map.1 hx
  have := tok_small s [] y hy
  show y.toArray.size ≤ 1000000
  simp at this ⊢
  omega
/-! ### Parse -/
/-- The good term that a text tells. -/
def parseS (s : List UInt8) : Option Tm :=
  match readTm ((wordsOf s).length + 1) (wordsOf s) with
  | some (t, []) => if goodM 0 t = true then some t else none
  | _ => none
def PsPost (s : ByteArray) (w : World) (e : Ending) (w' : World) : Prop :=
  ∃ (x : TT) (er : Int), e = .returned (.tuple #[.agg #[.int .i64 x.k, .int .i64 x.n, .int .i64 x.t.k, .slice x.t.a x.t.l.length x.t.c, .int .i64 x.f.k, .slice x.f.a x.f.l.length x.f.c, .slice x.a x.l.length x.c], .int .i64 er]) ∧ x.In w' ∧ x.nb ∧ Below w.heap.size w w' ∧
    ((1000 < s.size ∧ er = 4 ∧ x = tleaf 0 0) ∨ (s.size ≤ 1000 ∧ parseS s.data.toList = none ∧ er = 1 ∧ x = tleaf 0 0) ∨ (s.size ≤ 1000 ∧ parseS s.data.toList = some x.tm ∧ er = 0))
theorem tleaf_nb (k n : Int) (h : n ≤ 9223372036854775807) : (tleaf k n).nb := TT.nb_mk.2 ⟨h, fun x hx => by cases hx⟩
theorem Kept.lowB {R B : Nat} {u v : World} (h : Kept R none u v) (hR : R ≤ u.heap.size) (hB : B ≤ R) : Below B u v :=
  ⟨h.os, h.tape, h.output, h.size, fun k hk => h.block k (by omega) (by omega) (by simp)⟩
/-- The result's place is written: what is below it stays. -/
theorem put7_below {w w4 : World} {x : TT} (h : Below w.heap.size w w4) : Below w.heap.size w (put7 w4 w.heap.size x) :=
  h.trans ⟨(put7_kept (x := x)).os, (put7_kept (x := x)).tape, (put7_kept (x := x)).output, (put7_kept (x := x)).size, fun k hk => put7_kept.block k (by have := h.size; omega) (by omega) (by simp)⟩
set_option maxRecDepth 20000 in
set_option maxHeartbeats 1000000 in
theorem parse_long (s : ByteArray) (hs : 1000 < s.size) (hm : s.size ≤ 9223372036854775807) (w : World) :
    Calls Tryz.prog 18 #[.string s] w (PsPost s w) := by
  have hbx := box7_alloc w
  have i1 : (1000 : Int) < (s.size : Int) := by omega
  have HE : Hid (PsPost s w (.returned (.tuple #[.agg #[.int .i64 0, .int .i64 0, .int .i64 0, .slice none 0 0, .int .i64 0, .slice none 0 0, .slice none 0 0], .int .i64 4])) (w7 w)) := ⟨tleaf 0 0, 4, rfl, tleaf_in _ _ _, tleaf_nb _ _ (by omega), w7_below w, .inl ⟨hs, rfl, rfl⟩⟩
  clear hbx
  go_enter Tryz.func18, Tryz.ntmps18
  go_wp2_with fail
  refine bodyPost_ret (v := .tuple #[.agg #[.int .i64 0, .int .i64 0, .int .i64 0, .slice none 0 0, .int .i64 0, .slice none 0 0, .slice none 0 0], .int .i64 4]) ?_ rfl HE.out
  simp [results, Tryz.results18, go_sem]
set_option maxRecDepth 20000 in
set_option maxHeartbeats 4000000 in
theorem parse_short (s : ByteArray) (hs : s.size ≤ 1000) (w : World) (hg : Gl w) :
    Calls Tryz.prog 18 #[.string s] w (PsPost s w) := by
  have i1 : ¬ (1000 : Int) < (s.size : Int) := by omega
  have hsl : s.data.toList.length = s.size := Array.length_toList
  obtain ⟨ws, hws⟩ : ∃ ws, wordsOf s.data.toList = ws := ⟨_, rfl⟩
  have HC : Hid (Calls Tryz.prog 32 #[.string s] (w7 w) fun e w' => ∃ A, e = .returned (.slice (some ⟨A, 0, none⟩) ws.length ws.length) ∧ (w7 w).heap.size ≤ A ∧ w'.ownsRow (w7 w).heap.size 9 1 (.slice (some ⟨A, 0, none⟩) ws.length ws.length) ws.length (ws.map Value.string) ∧ Below (w7 w).heap.size (w7 w) w') := by
    have := cut_any s hs (w7 w) (hg.below (w7_below w))
    rw [hws] at this
    exact this
  have HWL : Hid (ws.length ≤ 2001 ∧ SmW ws) := by rw [← hws]; exact ⟨words_len _ (by omega), words_small _ (by omega)⟩
  have HWS : Hid (wordsOf s.data.toList = ws) := hws
  clear hws
  have HG : Hid (Gl (w7 w)) := hg.below (w7_below w)
  have hgs := hg.size
  have hw7 : (w7 w).heap.size = w.heap.size + 1 := by simp [w7]
  clear hg hsl
  go_enter Tryz.func18, Tryz.ntmps18
  go_wp2_with fail
  refine HC.out.mono ?_
  rintro e w1 ⟨A, rfl, hA, hown, hb1⟩
  have hwl := HWL.out.1
  have hAlt : A < w1.heap.size := by
    rcases hown.2 with ⟨h, _⟩ | ⟨g, cap, cur, h, _, hg, _⟩
    · cases h
    · cases h; exact (Array.getElem?_eq_some_iff.1 hg).1
  have hb0 : Below w.heap.size w w1 := (w7_below w).trans (hb1.mono (by rw [hw7]; omega))
  have hsz1 : w.heap.size + 1 ≤ w1.heap.size := by have := hb1.size; rw [hw7] at this; exact this
  have hbx1 : Box7 w1 w.heap.size (tleaf 0 0) := (box7_alloc w).below hb1
  have hbR : ∀ o, Below w1.heap.size w1 (w1.alloc o) := fun o => (Below.refl _ _).alloc (Nat.le_refl _) _
  have hrs : ∀ o, o = Obj.cells #[.slice (some ⟨A, 0, none⟩) ws.length ws.length, .bool false] 59 → RS w1.heap.size ws false (w1.alloc o) := by
    rintro o rfl
    refine ⟨⟨_, _, by simp [go_sem], Nat.le_refl _, fun _ => ⟨A, 0, rfl, hAlt, fun i x hx => ?_⟩⟩, by simp [go_sem], by simp [go_sem], by simp [go_sem], by omega⟩
    have hi : i < ws.length := (List.getElem?_eq_some_iff.1 hx).1
    rw [(hbR _).cell (p := ⟨A, 0 + i, none⟩) hAlt, Nat.zero_add, hown.cellAt i (by omega), List.getElem?_map, hx]
    rfl
  have HT : Hid (Calls Tryz.prog 33 #[.pointer (some ⟨w1.heap.size, 0, none⟩)] (w1.alloc (.cells #[.slice (some ⟨A, 0, none⟩) ws.length ws.length, .bool false] 59)) (TmPost w1.heap.size false (readTm (ws.length + 1) ws) (w1.alloc (.cells #[.slice (some ⟨A, 0, none⟩) ws.length ws.length, .bool false] 59)))) :=
    readTerm_any w1.heap.size (by omega) (ws.length + 1) ws false _ (by omega) HWL.out.2 ((HG.out.below hb1).below (hbR _)) (hrs _ rfl)
  have HD : Hid (Below w.heap.size w w1 ∧ Box7 w1 w.heap.size (tleaf 0 0) ∧ Gl w1) := ⟨hb0, hbx1, HG.out.below hb1⟩
  clear hA hown hb1 HC hAlt hb0 hbx1 hrs hbR HG hwl
  go_wp2_with fail
  refine HT.out.mono ?_
  rintro e w3 ⟨x, rfl, hi3, hbl3, hk3, hA3, he3⟩
  obtain ⟨ws', b', hr3, hs3⟩ := hA3.letters
  obtain ⟨O, hO⟩ : ∃ O, O = Obj.cells #[.slice (some ⟨A, 0, none⟩) ws.length ws.length, .bool false] 59 := ⟨_, rfl⟩
  rw [← hO] at hbl3 hk3
  have hbO : Below w1.heap.size w1 (w1.alloc O) := (Below.refl _ _).alloc (Nat.le_refl _) _
  have hsO : (w1.alloc O).heap.size = w1.heap.size + 1 := by simp
  have hsz3 : w1.heap.size + 1 ≤ w3.heap.size := by have := hk3.size; rw [hsO] at this; exact this
  have hB3 : Below w.heap.size w w3 := (HD.out.1.trans (hbO.mono (by omega))).trans (hk3.lowB (by rw [hsO]; omega) (by omega))
  have hbx3 : Box7 w3 w.heap.size (tleaf 0 0) := (HD.out.2.1.below hbO).kept hk3 (by omega)
  have hgl3 : Gl w3 := (HD.out.2.2.below hbO).kept (by omega) hk3
  have hbx : ∀ o, Below w3.heap.size w3 (w3.alloc o) := fun o => (Below.refl _ _).alloc (Nat.le_refl _) _
  -- facts on the reader
  obtain ⟨⟨ra, rc, hrc, _, _⟩, hrb, _, _, _⟩ := hr3
  have hxbl : x.Bl (w.heap.size < ·) := hbl3.mono fun b hb => by rw [hsO] at hb; omega
  have HE : Hid (∀ W, Below w3.heap.size w3 W → Box7 W w.heap.size (tleaf 0 0) ∧ Below w.heap.size w W ∧ x.In W ∧ x.Bl (w.heap.size < ·)) := fun W hW => ⟨hbx3.below hW, hB3.trans (hW.mono hB3.size), hi3.below hW, hxbl⟩
  have HS : Hid (StepR ((readTm (ws.length + 1) ws).map (·.2)) false ws' b' ∧ (∀ p, readTm (ws.length + 1) ws = some p → x.tm = p.1)) := ⟨hs3, he3⟩
  have HGL : Hid (Gl w3) := hgl3
  have hne : w1.heap.size ≠ w3.heap.size := by omega
  have hnl : w1.heap.size < w3.heap.size := by omega
  clear hi3 hbl3 hk3 hA3 he3 hs3 hB3 hbx3 hgl3 hbO hsO hxbl hO HD HT
  -- the two ways tq end
  have BAD : Hid (parseS s.data.toList = none → ∀ W, Below w3.heap.size w3 W → PsPost s w (.returned (.tuple #[.agg #[.int .i64 0, .int .i64 0, .int .i64 0, .slice none 0 0, .int .i64 0, .slice none 0 0, .slice none 0 0], .int .i64 1])) (put7 W w.heap.size (tleaf 0 0))) :=
    fun hp W hW => ⟨tleaf 0 0, 1, rfl, tleaf_in _ _ _, tleaf_nb _ _ (by omega), put7_below (HE.out W hW).2.1, .inr (.inl ⟨hs, hp, rfl, rfl⟩)⟩
  have HPS : Hid (parseS s.data.toList = match readTm (ws.length + 1) ws with | some (t, []) => if goodM 0 t = true then some t else none | _ => none) := by show _ = _; rw [parseS, HWS.out]
  cases b' with
  | true =>
    have hpn : parseS s.data.toList = none := by
      have ho : readTm (ws.length + 1) ws = none := by
        rcases HS.out.1 with ⟨_, h⟩ | ⟨h, _⟩
        · cases h
        · exact Option.map_eq_none_iff.1 h
      rw [HPS.out, ho]
    obtain ⟨O, hO⟩ : ∃ O, O = Obj.cells #[.int .i64 x.k, .int .i64 x.n, .int .i64 x.t.k, .slice x.t.a x.t.l.length x.t.c, .int .i64 x.f.k, .slice x.f.a x.f.l.length x.f.c, .slice x.a x.l.length x.c] 27 := ⟨_, rfl⟩
    have HF : Hid _ := BAD.out hpn (w3.alloc O) (hbx O)
    have hbxO := (HE.out _ (hbx O)).1
    have HGT : Hid _ := put7_gets (x := tleaf 0 0) hbxO
    have h7 := hbxO.at7
    have c0 := h7.c0
    have c1 := h7.c1
    have c2 := h7.c2
    have c3 := h7.c3
    have c4 := h7.c4
    have c5 := h7.c5
    have c6 := h7.c6
    simp only [Nat.zero_add, tleaf] at c0 c1 c2 c3 c4 c5 c6
    have f0 := hbxO.fz 0 (by omega)
    have f1 := hbxO.fz 1 (by omega)
    have f2 := hbxO.fz 2 (by omega)
    have f3 := hbxO.fz 3 (by omega)
    have f4 := hbxO.fz 4 (by omega)
    have f5 := hbxO.fz 5 (by omega)
    have f6 := hbxO.fz 6 (by omega)
    subst hO
    clear hbxO h7 hpn BAD hbx HS HPS HGL
    go_wp2_with fail
    refine bodyPost_ret (v := .tuple #[.agg #[.int .i64 0, .int .i64 0, .int .i64 0, .slice none 0 0, .int .i64 0, .slice none 0 0, .slice none 0 0], .int .i64 1]) ?_ rfl HF.out
    obtain ⟨d0, d1, d2, d3, d4, d5, d6⟩ := HGT.out
    simp only [tleaf, List.length_nil] at d0 d1 d2 d3 d4 d5 d6
    simp [results, Tryz.results18, go_sem, d0, d1, d2, d3, d4, d5, d6]
  | false =>
    obtain ⟨p, hp, hp2⟩ : ∃ p, readTm (ws.length + 1) ws = some p ∧ p.2 = ws' := by
      rcases HS.out.1 with ⟨h, _⟩ | ⟨_, _, h⟩
      · exact Option.map_eq_some_iff.1 h
      · cases h
    have hxt : x.tm = p.1 := HS.out.2 p hp
    have hnb : x.nb := TT.nb_tm (hxt ▸ readTm_nb _ _ _ hp)
    obtain ⟨O, hO⟩ : ∃ O, O = Obj.cells #[.int .i64 x.k, .int .i64 x.n, .int .i64 x.t.k, .slice x.t.a x.t.l.length x.t.c, .int .i64 x.f.k, .slice x.f.a x.f.l.length x.f.c, .slice x.a x.l.length x.c] 27 := ⟨_, rfl⟩
    cases ws' with
    | cons y r' =>
      have hpn : parseS s.data.toList = none := by
        obtain ⟨p1, p2⟩ := p
        dsimp only at hp2
        subst hp2
        rw [HPS.out, hp]
      have i2 : (0 : Int) < (((y :: r').length : Nat) : Int) := by simp
      have HF : Hid _ := BAD.out hpn (w3.alloc O) (hbx O)
      have hbxO := (HE.out _ (hbx O)).1
      have HGT : Hid _ := put7_gets (x := tleaf 0 0) hbxO
      have h7 := hbxO.at7
      have c0 := h7.c0
      have c1 := h7.c1
      have c2 := h7.c2
      have c3 := h7.c3
      have c4 := h7.c4
      have c5 := h7.c5
      have c6 := h7.c6
      simp only [Nat.zero_add, tleaf] at c0 c1 c2 c3 c4 c5 c6
      have f0 := hbxO.fz 0 (by omega)
      have f1 := hbxO.fz 1 (by omega)
      have f2 := hbxO.fz 2 (by omega)
      have f3 := hbxO.fz 3 (by omega)
      have f4 := hbxO.fz 4 (by omega)
      have f5 := hbxO.fz 5 (by omega)
      have f6 := hbxO.fz 6 (by omega)
      subst hO
      have HP : Hid (readTm (ws.length + 1) ws = some p ∧ p.2 = y :: r' ∧ x.tm = p.1) := ⟨hp, hp2, hxt⟩
      clear hbxO h7 hpn BAD hbx HS HPS HGL hp hp2 hxt hnb HP
      go_wp2_with fail
      refine bodyPost_ret (v := .tuple #[.agg #[.int .i64 0, .int .i64 0, .int .i64 0, .slice none 0 0, .int .i64 0, .slice none 0 0, .slice none 0 0], .int .i64 1]) ?_ rfl HF.out
      obtain ⟨d0, d1, d2, d3, d4, d5, d6⟩ := HGT.out
      simp only [tleaf, List.length_nil] at d0 d1 d2 d3 d4 d5 d6
      simp [results, Tryz.results18, go_sem, d0, d1, d2, d3, d4, d5, d6]
    | nil =>
      have hps : parseS s.data.toList = if goodM 0 x.tm = true then some x.tm else none := by
        obtain ⟨p1, p2⟩ := p
        dsimp only at hp2 hxt
        subst hp2 hxt
        rw [HPS.out, hp]
      have HPP : Hid (parseS s.data.toList = if goodM 0 x.tm = true then some x.tm else none) := hps
      have HGD : Hid (Calls Tryz.prog 29 #[.agg #[.int .i64 x.k, .int .i64 x.n, .int .i64 x.t.k, .slice x.t.a x.t.l.length x.t.c, .int .i64 x.f.k, .slice x.f.a x.f.l.length x.f.c, .slice x.a x.l.length x.c], .int .i64 0] (w3.alloc O) fun e w' => e = .returned (.bool (goodM 0 x.tm)) ∧ Below (w3.alloc O).heap.size (w3.alloc O) w') := goodTm_any x 0 _ (HGL.out.below (hbx O)).gp (HE.out _ (hbx O)).2.2.1 hnb
      have i2 : ¬ (0 : Int) < ((([] : List ByteArray).length : Nat) : Int) := by simp
      simp only [List.length_nil] at hrc
      have e0 : ((0 : Nat) : Int) = 0 := rfl
      obtain ⟨g, hgd⟩ : ∃ g, goodM 0 x.tm = g := ⟨_, rfl⟩
      rw [hgd] at HGD
      have HGG : Hid (goodM 0 x.tm = g) := hgd
      have HNB : Hid x.nb := hnb
      have hBO := hbx O
      have HBO : Hid (Below w3.heap.size w3 (w3.alloc O)) := hBO
      have hbt : At7 (w3.alloc O) w3.heap.size 0 x := by subst hO; constructor <;> simp [go_sem]
      have HBT : Hid (At7 (w3.alloc O) w3.heap.size 0 x) := hbt
      have hnm : w3.heap.size < (w3.alloc O).heap.size := by simp
      clear hp hp2 hxt hps hgd hnb hBO hbt HS HPS hbx HGL
      subst hO
      go_wp2_with fail
      refine HGD.out.mono ?_
      rintro e w5 ⟨rfl, hb5⟩
      have hW5 : Below w3.heap.size w3 w5 := HBO.out.trans (hb5.mono HBO.out.size)
      have hbt5 := HBT.out.below hb5
      clear hb5 HGD
      cases g with
      | false =>
        have hpn : parseS s.data.toList = none := by rw [HPP.out, HGG.out]; rfl
        have HF : Hid _ := BAD.out hpn w5 hW5
        have hbxO := (HE.out _ hW5).1
        have HGT : Hid _ := put7_gets (x := tleaf 0 0) hbxO
        have h7 := hbxO.at7
        have c0 := h7.c0
        have c1 := h7.c1
        have c2 := h7.c2
        have c3 := h7.c3
        have c4 := h7.c4
        have c5 := h7.c5
        have c6 := h7.c6
        simp only [Nat.zero_add, tleaf] at c0 c1 c2 c3 c4 c5 c6
        have f0 := hbxO.fz 0 (by omega)
        have f1 := hbxO.fz 1 (by omega)
        have f2 := hbxO.fz 2 (by omega)
        have f3 := hbxO.fz 3 (by omega)
        have f4 := hbxO.fz 4 (by omega)
        have f5 := hbxO.fz 5 (by omega)
        have f6 := hbxO.fz 6 (by omega)
        clear hbxO h7 hpn BAD hW5 hbt5
        go_wp2_with fail
        refine bodyPost_ret (v := .tuple #[.agg #[.int .i64 0, .int .i64 0, .int .i64 0, .slice none 0 0, .int .i64 0, .slice none 0 0, .slice none 0 0], .int .i64 1]) ?_ rfl HF.out
        obtain ⟨d0, d1, d2, d3, d4, d5, d6⟩ := HGT.out
        simp only [tleaf, List.length_nil] at d0 d1 d2 d3 d4 d5 d6
        simp [results, Tryz.results18, go_sem, d0, d1, d2, d3, d4, d5, d6]
      | true =>
        have hpy : parseS s.data.toList = some x.tm := by rw [HPP.out, HGG.out]; rfl
        obtain ⟨hbxO, hBw, hxi, hxb⟩ := HE.out _ hW5
        have HF : Hid (PsPost s w (.returned (.tuple #[.agg #[.int .i64 x.k, .int .i64 x.n, .int .i64 x.t.k, .slice x.t.a x.t.l.length x.t.c, .int .i64 x.f.k, .slice x.f.a x.f.l.length x.f.c, .slice x.a x.l.length x.c], .int .i64 0])) (put7 w5 w.heap.size x)) :=
          ⟨x, 0, rfl, hxi.keptR put7_kept (hxb.mono fun b hb => by omega), HNB.out, put7_below hBw, .inr (.inr ⟨hs, hpy, rfl⟩)⟩
        have HGT : Hid _ := put7_gets (x := x) hbxO
        have t0 := hbt5.c0
        have t1 := hbt5.c1
        have t2 := hbt5.c2
        have t3 := hbt5.c3
        have t4 := hbt5.c4
        have t5 := hbt5.c5
        have t6 := hbt5.c6
        simp only [Nat.zero_add] at t0 t1 t2 t3 t4 t5 t6
        have h7 := hbxO.at7
        have c0 := h7.c0
        have c1 := h7.c1
        have c2 := h7.c2
        have c3 := h7.c3
        have c4 := h7.c4
        have c5 := h7.c5
        have c6 := h7.c6
        simp only [Nat.zero_add, tleaf] at c0 c1 c2 c3 c4 c5 c6
        have f0 := hbxO.fz 0 (by omega)
        have f1 := hbxO.fz 1 (by omega)
        have f2 := hbxO.fz 2 (by omega)
        have f3 := hbxO.fz 3 (by omega)
        have f4 := hbxO.fz 4 (by omega)
        have f5 := hbxO.fz 5 (by omega)
        have f6 := hbxO.fz 6 (by omega)
        clear hbxO h7 hpy BAD hW5 hbt5 hBw hxi hxb
        go_wp2_with fail
        refine bodyPost_ret (v := .tuple #[.agg #[.int .i64 x.k, .int .i64 x.n, .int .i64 x.t.k, .slice x.t.a x.t.l.length x.t.c, .int .i64 x.f.k, .slice x.f.a x.f.l.length x.f.c, .slice x.a x.l.length x.c], .int .i64 0]) ?_ rfl HF.out
        obtain ⟨d0, d1, d2, d3, d4, d5, d6⟩ := HGT.out
        simp [results, Tryz.results18, go_sem, d0, d1, d2, d3, d4, d5, d6]
/-- term.Parse. -/
theorem parse_any (s : ByteArray) (hm : s.size ≤ 9223372036854775807) (w : World) (hg : Gl w) : Calls Tryz.prog 18 #[.string s] w (PsPost s w) := by
  by_cases hs : s.size ≤ 1000
  · exact parse_short s hs w hg
  · exact parse_long s (by omega) hm w
end Go.Proofs.YtnddkmccagiclabGreatDoor
