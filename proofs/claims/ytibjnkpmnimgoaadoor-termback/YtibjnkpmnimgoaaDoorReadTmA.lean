/-
  How a term's text is read part by part: the plain mathematics, and the call of (*reader).readTerm at a word that opens no brackets.
-/
import Derived.Test.YtibjnkpmnimgoaaDoorReadTyB
import Derived.Test.YtibjnkpmnimgoaaDoorKindOf
import Derived.Test.YtibjnkpmnimgoaaDoorNumber
namespace Go.Proofs.YtibjnkpmnimgoaaDoor
open Go.RowKit

theorem readN_len (f : List ByteArray → Option (Tm × List ByteArray)) (hf : ∀ ws p, f ws = some p → p.2.length ≤ ws.length) : ∀ (m : Nat) (ws : List ByteArray) (q : List Tm × List ByteArray), readN f m ws = some q → q.2.length ≤ ws.length
  | 0, ws, q, h => by simp [readN] at h; rw [← h]; exact Nat.le_refl _
  | m + 1, ws, q, h => by
    simp only [readN, Option.bind_eq_some_iff, Option.map_eq_some_iff] at h
    obtain ⟨p, hp, q', hq, rfl⟩ := h
    have := hf ws p hp
    have := readN_len f hf m _ _ hq
    simp only
    omega

/-- What stands in the brackets. -/
def inTm (n : Nat) : List ByteArray → Option (Tm × List ByteArray)
  | [] => none
  | y :: r1 => (kindAt y).bind fun k => (readT n k r1).bind fun p => (readN (readTm n) (partsOf (k : Int)) p.2).bind fun q => (behind clB q.2).map fun r4 => (⟨(k : Int), 0, p.1, anyY, q.1⟩, r4)

theorem readTm_open (n : Nat) (r : List ByteArray) : readTm (n + 1) (opB :: r) = inTm n r := by
  cases r <;> simp [readTm, inTm]

theorem readTm_word (n : Nat) (x : ByteArray) (r : List ByteArray) (hx : x ≠ opB) : readTm (n + 1) (x :: r) = readWord x r := by
  cases r <;> simp [readTm, hx]

theorem readT_len {n k : Nat} {ws : List ByteArray} {p : Ty × List ByteArray} (h : readT n k ws = some p) : p.2.length ≤ ws.length := by
  unfold readT at h
  split at h
  · exact Nat.le_of_lt (readTy_len n _ _ h)
  · cases h; exact Nat.le_refl _

theorem readWord_len {x : ByteArray} {r : List ByteArray} {p : Tm × List ByteArray} (h : readWord x r = some p) : p.2 = r := by
  unfold readWord at h
  split at h
  · cases h; rfl
  · split at h
    · obtain ⟨_, _, rfl⟩ := Option.map_eq_some_iff.1 h; rfl
    · obtain ⟨_, _, rfl⟩ := Option.map_eq_some_iff.1 h; rfl

theorem readTm_len : ∀ (n : Nat) (ws : List ByteArray) (p : Tm × List ByteArray), readTm n ws = some p → p.2.length < ws.length
  | 0, _, _, h => by simp [readTm] at h
  | n + 1, [], _, h => by simp [readTm] at h
  | n + 1, x :: r, p, h => by
    by_cases hx : x = opB
    · subst hx
      rw [readTm_open] at h
      cases r with
      | nil => cases h
      | cons y r1 =>
        simp only [inTm, Option.bind_eq_some_iff, Option.map_eq_some_iff] at h
        obtain ⟨k, _, p1, h1, q, h2, r4, h3, rfl⟩ := h
        have a1 := readT_len h1
        have a2 := readN_len (readTm n) (fun ws p hp => Nat.le_of_lt (readTm_len n ws p hp)) _ _ _ h2
        have a3 := behind_len h3
        simp only [List.length_cons]; omega
    · rw [readTm_word n x r hx] at h
      rw [readWord_len h]
      simp

theorem readTm_nil (n : Nat) : readTm n [] = none := by cases n <;> rfl

/-- So many of the parts have been read. -/
def InvN (f : List ByteArray → Option (Tm × List ByteArray)) (m : Nat) (ws0 : List ByteArray) (b : Bool) (j : Nat) (ws' : List ByteArray) (b' : Bool) (tms : List Tm) : Prop :=
  (b' = b ∧ readN f m ws0 = (readN f (m - j) ws').map (fun q => (tms ++ q.1, q.2))) ∨ (ws' = [] ∧ b' = true ∧ readN f m ws0 = none)

theorem InvN.start (f : List ByteArray → Option (Tm × List ByteArray)) (m : Nat) (ws : List ByteArray) (b : Bool) : InvN f m ws b 0 ws b [] := by
  refine .inl ⟨rfl, ?_⟩
  simp

theorem InvN.step {f : List ByteArray → Option (Tm × List ByteArray)} {m j : Nat} {ws0 ws' ws'' : List ByteArray} {b b' b'' : Bool} {tms : List Tm} {x : Tm} (hf : f [] = none) (hj : j < m) (h : InvN f m ws0 b j ws' b' tms)
    (hs : StepR ((f ws').map (·.2)) b' ws'' b'') (he : ∀ p, f ws' = some p → x = p.1) : InvN f m ws0 b (j + 1) ws'' b'' (tms ++ [x]) := by
  rcases h with ⟨rfl, h⟩ | ⟨rfl, rfl, h⟩
  · have e : m - j = (m - (j + 1)) + 1 := by omega
    rw [e] at h
    rcases hs with ⟨ho, rfl⟩ | ⟨ho, hn, hb⟩
    · obtain ⟨p, hp, rfl⟩ := Option.map_eq_some_iff.1 ho
      refine .inl ⟨rfl, ?_⟩
      rw [h, readN, hp, he p hp]
      simp only [Option.bind_some, Option.map_map]
      congr 1
      funext q
      simp
    · have hp : f ws' = none := Option.map_eq_none_iff.1 ho
      refine .inr ⟨hn, hb, ?_⟩
      rw [h, readN, hp]
      rfl
  · rw [hf] at hs
    rcases hs with ⟨ho, _⟩ | ⟨_, hn, hb⟩
    · cases ho
    · exact .inr ⟨hn, hb, h⟩

/-- The steps make the whole. -/
theorem inTm_steps {n k : Nat} {y : ByteArray} {r1 ws1 ws2 ws3 : List ByteArray} {b b1 b2 b3 : Bool} {t : Ty} {tms : List Tm} (hk : kindAt y = some k)
    (h1 : StepR ((readT n k r1).map (·.2)) b ws1 b1) (e1 : ∀ p, readT n k r1 = some p → t = p.1)
    (h2 : InvN (readTm n) (partsOf (k : Int)) ws1 b1 (partsOf (k : Int)) ws2 b2 tms) (h3 : StepR (behind clB ws2) b2 ws3 b3) (hdead : readT n k r1 = none → 0 < partsOf (k : Int)) :
    StepR ((inTm n (y :: r1)).map (·.2)) b ws3 b3 ∧ ∀ p, inTm n (y :: r1) = some p → (⟨(k : Int), 0, t, anyY, tms⟩ : Tm) = p.1 := by
  have dead : ∀ (o : Option (Tm × List ByteArray)), o = none → ws3 = [] → b3 = true → StepR (o.map (·.2)) b ws3 b3 ∧ ∀ p, o = some p → (⟨(k : Int), 0, t, anyY, tms⟩ : Tm) = p.1 := by
    rintro o rfl rfl rfl
    exact ⟨.inr ⟨rfl, rfl, rfl⟩, fun p h => by cases h⟩
  have nil3 : ws2 = [] → b2 = true → ws3 = [] ∧ b3 = true := by
    rintro rfl rfl
    rcases h3 with ⟨h, _⟩ | ⟨_, h, h'⟩
    · cases h
    · exact ⟨h, h'⟩
  have e : inTm n (y :: r1) = (readT n k r1).bind fun p => (readN (readTm n) (partsOf (k : Int)) p.2).bind fun q => (behind clB q.2).map fun r4 => (⟨(k : Int), 0, p.1, anyY, q.1⟩, r4) := by
    simp only [inTm, hk, Option.bind_some]
  rw [e]
  rcases h1 with ⟨ho1, rfl⟩ | ⟨ho1, hn1, hb1⟩
  · obtain ⟨p, hp, hp2⟩ := Option.map_eq_some_iff.1 ho1
    rw [hp, Option.bind_some, hp2]
    rcases h2 with ⟨rfl, h2⟩ | ⟨hw2, hb2, h2⟩
    · rw [Nat.sub_self, readN] at h2
      simp only [Option.map_some, List.append_nil] at h2
      rw [h2, Option.bind_some]
      rcases h3 with ⟨ho3, rfl⟩ | ⟨ho3, hn3, hb3⟩
      · rw [ho3]
        refine ⟨.inl ⟨rfl, rfl⟩, fun x hx => ?_⟩
        cases hx
        rw [e1 p hp]
      · rw [ho3]
        exact dead _ rfl hn3 hb3
    · rw [h2]
      obtain ⟨a, c⟩ := nil3 hw2 hb2
      exact dead _ rfl a c
  · have hp : readT n k r1 = none := Option.map_eq_none_iff.1 ho1
    have hm := hdead hp
    rw [hp]
    subst hn1 hb1
    have hno : readN (readTm n) (partsOf (k : Int)) [] = none := by
      obtain ⟨m, hm'⟩ : ∃ m, partsOf (k : Int) = m + 1 := ⟨partsOf (k : Int) - 1, by omega⟩
      rw [hm', readN, readTm_nil]
      rfl
    rcases h2 with ⟨rfl, h2⟩ | ⟨hw2, hb2, _⟩
    · rw [hno, Nat.sub_self, readN] at h2
      cases h2
    · obtain ⟨a, c⟩ := nil3 hw2 hb2
      exact dead _ rfl a c

/-- What the call leaves: a term's tree, and the state. -/
def TmPost (R : Nat) (b : Bool) (o : Option (Tm × List ByteArray)) (w : World) (e : Ending) (w' : World) : Prop :=
  ∃ x : TT, e = .returned (.agg #[.int .i64 x.k, .int .i64 x.n, .int .i64 x.t.k, .slice x.t.a x.t.l.length x.t.c, .int .i64 x.f.k, .slice x.f.a x.f.l.length x.f.c, .slice x.a x.l.length x.c]) ∧ x.In w' ∧ x.Bl (w.heap.size ≤ ·) ∧ Kept R none w w' ∧ After R b (o.map (·.2)) w' ∧ ∀ p, o = some p → x.tm = p.1

theorem box7_alloc (w : World) : Box7 (w.alloc (.cells #[.int .i64 0, .int .i64 0, .int .i64 0, .slice none 0 0, .int .i64 0, .slice none 0 0, .slice none 0 0] 27)) w.heap.size (tleaf 0 0) := by
  refine ⟨⟨?_, ?_, ?_, ?_, ?_, ?_, ?_⟩, fun i hi => ?_⟩
  · simp [go_sem, tleaf]
  · simp [go_sem, tleaf]
  · simp [go_sem, tleaf]
  · simp [go_sem, tleaf]
  · simp [go_sem, tleaf]
  · simp [go_sem, tleaf]
  · simp [go_sem, tleaf]
  · simp [go_sem]

/-- Each cell, right behind its store. -/
theorem put7_gets {w : World} {k : Nat} {x y : TT} (hbx : Box7 w k y) : (w.setCell ⟨k, 0, none⟩ (.int .i64 x.k)).cell? ⟨k, 0, none⟩ = some (.int .i64 x.k) ∧ ((w.setCell ⟨k, 0, none⟩ (.int .i64 x.k)).setCell ⟨k, 1, none⟩ (.int .i64 x.n)).cell? ⟨k, 1, none⟩ = some (.int .i64 x.n) ∧ (((w.setCell ⟨k, 0, none⟩ (.int .i64 x.k)).setCell ⟨k, 1, none⟩ (.int .i64 x.n)).setCell ⟨k, 2, none⟩ (.int .i64 x.t.k)).cell? ⟨k, 2, none⟩ = some (.int .i64 x.t.k) ∧ ((((w.setCell ⟨k, 0, none⟩ (.int .i64 x.k)).setCell ⟨k, 1, none⟩ (.int .i64 x.n)).setCell ⟨k, 2, none⟩ (.int .i64 x.t.k)).setCell ⟨k, 3, none⟩ (.slice x.t.a x.t.l.length x.t.c)).cell? ⟨k, 3, none⟩ = some (.slice x.t.a x.t.l.length x.t.c) ∧ (((((w.setCell ⟨k, 0, none⟩ (.int .i64 x.k)).setCell ⟨k, 1, none⟩ (.int .i64 x.n)).setCell ⟨k, 2, none⟩ (.int .i64 x.t.k)).setCell ⟨k, 3, none⟩ (.slice x.t.a x.t.l.length x.t.c)).setCell ⟨k, 4, none⟩ (.int .i64 x.f.k)).cell? ⟨k, 4, none⟩ = some (.int .i64 x.f.k) ∧ ((((((w.setCell ⟨k, 0, none⟩ (.int .i64 x.k)).setCell ⟨k, 1, none⟩ (.int .i64 x.n)).setCell ⟨k, 2, none⟩ (.int .i64 x.t.k)).setCell ⟨k, 3, none⟩ (.slice x.t.a x.t.l.length x.t.c)).setCell ⟨k, 4, none⟩ (.int .i64 x.f.k)).setCell ⟨k, 5, none⟩ (.slice x.f.a x.f.l.length x.f.c)).cell? ⟨k, 5, none⟩ = some (.slice x.f.a x.f.l.length x.f.c) ∧ (((((((w.setCell ⟨k, 0, none⟩ (.int .i64 x.k)).setCell ⟨k, 1, none⟩ (.int .i64 x.n)).setCell ⟨k, 2, none⟩ (.int .i64 x.t.k)).setCell ⟨k, 3, none⟩ (.slice x.t.a x.t.l.length x.t.c)).setCell ⟨k, 4, none⟩ (.int .i64 x.f.k)).setCell ⟨k, 5, none⟩ (.slice x.f.a x.f.l.length x.f.c)).setCell ⟨k, 6, none⟩ (.slice x.a x.l.length x.c)).cell? ⟨k, 6, none⟩ = some (.slice x.a x.l.length x.c) := by
  have h7 := hbx.at7
  have c0 := h7.c0
  have c1 := h7.c1
  have c2 := h7.c2
  have c3 := h7.c3
  have c4 := h7.c4
  have c5 := h7.c5
  have c6 := h7.c6
  simp only [Nat.zero_add] at c0 c1 c2 c3 c4 c5 c6
  exact ⟨(World.cell?_setCell_same _ _ _ c0), (World.cell?_setCell_same _ _ _ (set_get (j := 0) c1)), (World.cell?_setCell_same _ _ _ (set_get (j := 1) (set_get (j := 0) c2))), (World.cell?_setCell_same _ _ _ (set_get (j := 2) (set_get (j := 1) (set_get (j := 0) c3)))), (World.cell?_setCell_same _ _ _ (set_get (j := 3) (set_get (j := 2) (set_get (j := 1) (set_get (j := 0) c4))))), (World.cell?_setCell_same _ _ _ (set_get (j := 4) (set_get (j := 3) (set_get (j := 2) (set_get (j := 1) (set_get (j := 0) c5)))))), (World.cell?_setCell_same _ _ _ (set_get (j := 5) (set_get (j := 4) (set_get (j := 3) (set_get (j := 2) (set_get (j := 1) (set_get (j := 0) c6)))))))⟩

/-- What is left in the result's place is what is answered. -/
theorem tm_end {R k : Nat} {b b' : Bool} {o : Option (Tm × List ByteArray)} {ws' : List ByteArray} {w w2 : World} {x y : TT} (hbx : Box7 w2 k y) (hk : w.heap.size ≤ k) (hR : R < k) (hi : x.In w2) (hbl : x.Bl (k < ·)) (hkp : Kept R none w w2) (hr : RS R ws' b' w2) (hs : StepR (o.map (·.2)) b ws' b') (he : ∀ p, o = some p → x.tm = p.1) :
    TmPost R b o w (.returned (.agg #[.int .i64 x.k, .int .i64 x.n, .int .i64 x.t.k, .slice x.t.a x.t.l.length x.t.c, .int .i64 x.f.k, .slice x.f.a x.f.l.length x.f.c, .slice x.a x.l.length x.c])) (put7 w2 k x) ∧ At7 (put7 w2 k x) k 0 x :=
  ⟨⟨x, rfl, hi.keptR put7_kept (hbl.mono fun b h => by omega), hbl.mono (fun b h => by omega), hkp.new put7_kept hk, hs.after (hr.new put7_kept hR), he⟩, (put7_box hbx).at7⟩
end Go.Proofs.YtibjnkpmnimgoaaDoor
