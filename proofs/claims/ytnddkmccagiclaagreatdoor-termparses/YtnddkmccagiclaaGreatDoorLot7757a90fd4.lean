/-
  How a term's text is read part by part: the plain mathematics, and the call of (*reader).readTerm at a word that opens no brackets.
-/
import Derived.Test.YtnddkmccagiclaaGreatDoorLot659ec22ce0
import Derived.Test.YtnddkmccagiclaaGreatDoorLotb171d508ce
import Derived.Test.YtnddkmccagiclaaGreatDoorLot7160aef7fc
namespace Go.Proofs.YtnddkmccagiclaaGreatDoor
open Go.RowKit

theorem readN_len (f : List ByteArray → Option (Tm × List ByteArray)) (hf : ∀ ws p, f ws = some p → p.2.length ≤ ws.length) : ∀ (m : Nat) (ws : List ByteArray) (q : List Tm × List ByteArray), readN f m ws = some q → q.2.length ≤ ws.length
  | 0, ws, q, h => by simp [readN] at h; rw [← h]; exact Nat.le_refl _
  | m + 1, ws, q, h => by
    simp only [readN, Option.bind_eq_some_iff, Option.map_eq_some_iff] at h
    obtain ⟨p, hp, q', hq, rfl⟩ := h
    have := hf ws p hp
    have := readN_len f hf m _ _ hq
    simp only
    omega

/-- What stands in the brackets. -/
def inTm (n : Nat) : List ByteArray → Option (Tm × List ByteArray)
  | [] => none
  | y :: r1 => (kindAt y).bind fun k => (readT n k r1).bind fun p => (readN (readTm n) (partsOf (k : Int)) p.2).bind fun q => (behind clB q.2).map fun r4 => (⟨(k : Int), 0, p.1, anyY, q.1⟩, r4)

theorem readTm_open (n : Nat) (r : List ByteArray) : readTm (n + 1) (opB :: r) = inTm n r := by
  cases r <;> simp [readTm, inTm]

theorem readTm_word (n : Nat) (x : ByteArray) (r : List ByteArray) (hx : x ≠ opB) : readTm (n + 1) (x :: r) = readWord x r := by
  cases r <;> simp [readTm, hx]

theorem readT_len {n k : Nat} {ws : List ByteArray} {p : Ty × List ByteArray} (h : readT n k ws = some p) : p.2.length ≤ ws.length := by
  unfold readT at h
  split at h
  · exact Nat.le_of_lt (readTy_len n _ _ h)
  · cases h; exact Nat.le_refl _

theorem readWord_len {x : ByteArray} {r : List ByteArray} {p : Tm × List ByteArray} (h : readWord x r = some p) : p.2 = r := by
  unfold readWord at h
  split at h
  · cases h; rfl
  · split at h
    · obtain ⟨_, _, rfl⟩ := Option.map_eq_some_iff.1 h; rfl
    · obtain ⟨_, _, rfl⟩ := Option.map_eq_some_iff.1 h; rfl

theorem readTm_len : ∀ (n : Nat) (ws : List ByteArray) (p : Tm × List ByteArray), readTm n ws = some p → p.2.length < ws.length
  | 0, _, _, h => by simp [readTm] at h
  | n + 1, [], _, h => by simp [readTm] at h
  | n + 1, x :: r, p, h => by
    by_cases hx : x = opB
    · subst hx
      rw [readTm_open] at h
      cases r with
      | nil => cases h
      | cons y r1 =>
        simp only [inTm, Option.bind_eq_some_iff, Option.map_eq_some_iff] at h
        obtain ⟨k, _, p1, h1, q, h2, r4, h3, rfl⟩ := h
        have a1 := readT_len h1
        have a2 := readN_len (readTm n) (fun ws p hp => Nat.le_of_lt (readTm_len n ws p hp)) _ _ _ h2
        have a3 := behind_len h3
        simp only [List.length_cons]; omega
    · rw [readTm_word n x r hx] at h
      rw [readWord_len h]
      simp

theorem readTm_nil (n : Nat) : readTm n [] = none := by cases n <;> rfl

/-- So many of the parts have been read. -/
def InvN (f : List ByteArray → Option (Tm × List ByteArray)) (m : Nat) (ws0 : List ByteArray) (b : Bool) (j : Nat) (ws' : List ByteArray) (b' : Bool) (tms : List Tm) : Prop :=
  (b' = b ∧ readN f m ws0 = (readN f (m - j) ws').map (fun q => (tms ++ q.1, q.2))) ∨ (ws' = [] ∧ b' = true ∧ readN f m ws0 = none)

theorem InvN.start (f : List ByteArray → Option (Tm × List ByteArray)) (m : Nat) (ws : List ByteArray) (b : Bool) : InvN f m ws b 0 ws b [] := by
  refine .inl ⟨rfl, ?_⟩
  simp

theorem InvN.step {f : List ByteArray → Option (Tm × List ByteArray)} {m j : Nat} {ws0 ws' ws'' : List ByteArray} {b b' b'' : Bool} {tms : List Tm} {x : Tm} (hf : f [] = none) (hj : j < m) (h : InvN f m ws0 b j ws' b' tms)
    (hs : StepR ((f ws').map (·.2)) b' ws'' b'') (he : ∀ p, f ws' = some p → x = p.1) : InvN f m ws0 b (j + 1) ws'' b'' (tms ++ [x]) := by
  rcases h with ⟨rfl, h⟩ | ⟨rfl, rfl, h⟩
  · have e : m - j = (m - (j + 1)) + 1 := by omega
    rw [e] at h
    rcases hs with ⟨ho, rfl⟩ | ⟨ho, hn, hb⟩
    · obtain ⟨p, hp, rfl⟩ := Option.map_eq_some_iff.1 ho
      refine .inl ⟨rfl, ?_⟩
      rw [h, readN, hp, he p hp]
      simp only [Option.bind_some, Option.map_map]
      congr 1
      funext q
      simp
    · have hp : f ws' = none := Option.map_eq_none_iff.1 ho
      refine .inr ⟨hn, hb, ?_⟩
      rw [h, readN, hp]
      rfl
  · rw [hf] at hs
    rcases hs with ⟨ho, _⟩ | ⟨_, hn, hb⟩
    · cases ho
    · exact .inr ⟨hn, hb, h⟩

/-- The steps make the whole. -/
theorem inTm_steps {n k : Nat} {y : ByteArray} {r1 ws1 ws2 ws3 : List ByteArray} {b b1 b2 b3 : Bool} {t : Ty} {tms : List Tm} (hk : kindAt y = some k)
    (h1 : StepR ((readT n k r1).map (·.2)) b ws1 b1) (e1 : ∀ p, readT n k r1 = some p → t = p.1)
    (h2 : InvN (readTm n) (partsOf (k : Int)) ws1 b1 (partsOf (k : Int)) ws2 b2 tms) (h3 : StepR (behind clB ws2) b2 ws3 b3) (hdead : readT n k r1 = none → 0 < partsOf (k : Int)) :
    StepR ((inTm n (y :: r1)).map (·.2)) b ws3 b3 ∧ ∀ p, inTm n (y :: r1) = some p → (⟨(k : Int), 0, t, anyY, tms⟩ : Tm) = p.1 := by
  have dead : ∀ (o : Option (Tm × List ByteArray)), o = none → ws3 = [] → b3 = true → StepR (o.map (·.2)) b ws3 b3 ∧ ∀ p, o = some p → (⟨(k : Int), 0, t, anyY, tms⟩ : Tm) = p.1 := by
    rintro o rfl rfl rfl
    exact ⟨.inr ⟨rfl, rfl, rfl⟩, fun p h => by cases h⟩
  have nil3 : ws2 = [] → b2 = true → ws3 = [] ∧ b3 = true := by
    rintro rfl rfl
    rcases h3 with ⟨h, _⟩ | ⟨_, h, h'⟩
    · cases h
    · exact ⟨h, h'⟩
  have e : inTm n (y :: r1) = (readT n k r1).bind fun p => (readN (readTm n) (partsOf (k : Int)) p.2).bind fun q => (behind clB q.2).map fun r4 => (⟨(k : Int), 0, p.1, anyY, q.1⟩, r4) := by
    simp only [inTm, hk, Option.bind_some]
  rw [e]
  rcases h1 with ⟨ho1, rfl⟩ | ⟨ho1, hn1, hb1⟩
  · obtain ⟨p, hp, hp2⟩ := Option.map_eq_some_iff.1 ho1
    rw [hp, Option.bind_some, hp2]
    rcases h2 with ⟨rfl, h2⟩ | ⟨hw2, hb2, h2⟩
    · rw [Nat.sub_self, readN] at h2
      simp only [Option.map_some, List.append_nil] at h2
      rw [h2, Option.bind_some]
      rcases h3 with ⟨ho3, rfl⟩ | ⟨ho3, hn3, hb3⟩
      · rw [ho3]
        refine ⟨.inl ⟨rfl, rfl⟩, fun x hx => ?_⟩
        cases hx
        rw [e1 p hp]
      · rw [ho3]
        exact dead _ rfl hn3 hb3
    · rw [h2]
      obtain ⟨a, c⟩ := nil3 hw2 hb2
      exact dead _ rfl a c
  · have hp : readT n k r1 = none := Option.map_eq_none_iff.1 ho1
    have hm := hdead hp
    rw [hp]
    subst hn1 hb1
    have hno : readN (readTm n) (partsOf (k : Int)) [] = none := by
      obtain ⟨m, hm'⟩ : ∃ m, partsOf (k : Int) = m + 1 := ⟨partsOf (k : Int) - 1, by omega⟩
      rw [hm', readN, readTm_nil]
      rfl
    rcases h2 with ⟨rfl, h2⟩ | ⟨hw2, hb2, _⟩
    · rw [hno, Nat.sub_self, readN] at h2
      cases h2
    · obtain ⟨a, c⟩ := nil3 hw2 hb2
      exact dead _ rfl a c

/-- What the call leaves: a term's tree, and the state. -/
def TmPost (R : Nat) (b : Bool) (o : Option (Tm × List ByteArray)) (w : World) (e : Ending) (w' : World) : Prop :=
  ∃ x : TT, e = .returned (.agg #[.int .i64 x.k, .int .i64 x.n, .int .i64 x.t.k, .slice x.t.a x.t.l.length x.t.c, .int .i64 x.f.k, .slice x.f.a x.f.l.length x.f.c, .slice x.a x.l.length x.c]) ∧ x.In w' ∧ x.Bl (w.heap.size ≤ ·) ∧ Kept R none w w' ∧ After R b (o.map (·.2)) w' ∧ ∀ p, o = some p → x.tm = p.1

theorem box7_alloc (w : World) : Box7 (w.alloc (.cells #[.int .i64 0, .int .i64 0, .int .i64 0, .slice none 0 0, .int .i64 0, .slice none 0 0, .slice none 0 0] 27)) w.heap.size (tleaf 0 0) := by
  refine ⟨⟨?_, ?_, ?_, ?_, ?_, ?_, ?_⟩, fun i hi => ?_⟩
  · simp [go_sem, tleaf]
  · simp [go_sem, tleaf]
  · simp [go_sem, tleaf]
  · simp [go_sem, tleaf]
  · simp [go_sem, tleaf]
  · simp [go_sem, tleaf]
  · simp [go_sem, tleaf]
  · simp [go_sem]

/-- Each cell, right behind its store. -/
theorem put7_gets {w : World} {k : Nat} {x y : TT} (hbx : Box7 w k y) : (w.setCell ⟨k, 0, none⟩ (.int .i64 x.k)).cell? ⟨k, 0, none⟩ = some (.int .i64 x.k) ∧ ((w.setCell ⟨k, 0, none⟩ (.int .i64 x.k)).setCell ⟨k, 1, none⟩ (.int .i64 x.n)).cell? ⟨k, 1, none⟩ = some (.int .i64 x.n) ∧ (((w.setCell ⟨k, 0, none⟩ (.int .i64 x.k)).setCell ⟨k, 1, none⟩ (.int .i64 x.n)).setCell ⟨k, 2, none⟩ (.int .i64 x.t.k)).cell? ⟨k, 2, none⟩ = some (.int .i64 x.t.k) ∧ ((((w.setCell ⟨k, 0, none⟩ (.int .i64 x.k)).setCell ⟨k, 1, none⟩ (.int .i64 x.n)).setCell ⟨k, 2, none⟩ (.int .i64 x.t.k)).setCell ⟨k, 3, none⟩ (.slice x.t.a x.t.l.length x.t.c)).cell? ⟨k, 3, none⟩ = some (.slice x.t.a x.t.l.length x.t.c) ∧ (((((w.setCell ⟨k, 0, none⟩ (.int .i64 x.k)).setCell ⟨k, 1, none⟩ (.int .i64 x.n)).setCell ⟨k, 2, none⟩ (.int .i64 x.t.k)).setCell ⟨k, 3, none⟩ (.slice x.t.a x.t.l.length x.t.c)).setCell ⟨k, 4, none⟩ (.int .i64 x.f.k)).cell? ⟨k, 4, none⟩ = some (.int .i64 x.f.k) ∧ ((((((w.setCell ⟨k, 0, none⟩ (.int .i64 x.k)).setCell ⟨k, 1, none⟩ (.int .i64 x.n)).setCell ⟨k, 2, none⟩ (.int .i64 x.t.k)).setCell ⟨k, 3, none⟩ (.slice x.t.a x.t.l.length x.t.c)).setCell ⟨k, 4, none⟩ (.int .i64 x.f.k)).setCell ⟨k, 5, none⟩ (.slice x.f.a x.f.l.length x.f.c)).cell? ⟨k, 5, none⟩ = some (.slice x.f.a x.f.l.length x.f.c) ∧ (((((((w.setCell ⟨k, 0, none⟩ (.int .i64 x.k)).setCell ⟨k, 1, none⟩ (.int .i64 x.n)).setCell ⟨k, 2, none⟩ (.int .i64 x.t.k)).setCell ⟨k, 3, none⟩ (.slice x.t.a x.t.l.length x.t.c)).setCell ⟨k, 4, none⟩ (.int .i64 x.f.k)).setCell ⟨k, 5, none⟩ (.slice x.f.a x.f.l.length x.f.c)).setCell ⟨k, 6, none⟩ (.slice x.a x.l.length x.c)).cell? ⟨k, 6, none⟩ = some (.slice x.a x.l.length x.c) := by
  have h7 := hbx.at7
  have c0 := h7.c0
  have c1 := h7.c1
  have c2 := h7.c2
  have c3 := h7.c3
  have c4 := h7.c4
  have c5 := h7.c5
  have c6 := h7.c6
  simp only [Nat.zero_add] at c0 c1 c2 c3 c4 c5 c6
  exact ⟨(World.cell?_setCell_same _ _ _ c0), (World.cell?_setCell_same _ _ _ (set_get (j := 0) c1)), (World.cell?_setCell_same _ _ _ (set_get (j := 1) (set_get (j := 0) c2))), (World.cell?_setCell_same _ _ _ (set_get (j := 2) (set_get (j := 1) (set_get (j := 0) c3)))), (World.cell?_setCell_same _ _ _ (set_get (j := 3) (set_get (j := 2) (set_get (j := 1) (set_get (j := 0) c4))))), (World.cell?_setCell_same _ _ _ (set_get (j := 4) (set_get (j := 3) (set_get (j := 2) (set_get (j := 1) (set_get (j := 0) c5)))))), (World.cell?_setCell_same _ _ _ (set_get (j := 5) (set_get (j := 4) (set_get (j := 3) (set_get (j := 2) (set_get (j := 1) (set_get (j := 0) c6)))))))⟩

/-- What is left in the result's place is what is answered. -/
theorem tm_end {R k : Nat} {b b' : Bool} {o : Option (Tm × List ByteArray)} {ws' : List ByteArray} {w w2 : World} {x y : TT} (hbx : Box7 w2 k y) (hk : w.heap.size ≤ k) (hR : R < k) (hi : x.In w2) (hbl : x.Bl (k < ·)) (hkp : Kept R none w w2) (hr : RS R ws' b' w2) (hs : StepR (o.map (·.2)) b ws' b') (he : ∀ p, o = some p → x.tm = p.1) :
    TmPost R b o w (.returned (.agg #[.int .i64 x.k, .int .i64 x.n, .int .i64 x.t.k, .slice x.t.a x.t.l.length x.t.c, .int .i64 x.f.k, .slice x.f.a x.f.l.length x.f.c, .slice x.a x.l.length x.c])) (put7 w2 k x) ∧ At7 (put7 w2 k x) k 0 x :=
  ⟨⟨x, rfl, hi.keptR put7_kept (hbl.mono fun b h => by omega), hbl.mono (fun b h => by omega), hkp.new put7_kept hk, hs.after (hr.new put7_kept hR), he⟩, (put7_box hbx).at7⟩
end Go.Proofs.YtnddkmccagiclaaGreatDoor

/-
  What the call of ref's tree.term answers, at a word.
-/
namespace Go.Proofs.YtnddkmccagiclaaGreatDoor
open Go.RowKit

/-- What a call that tells a term leaves; none: there is none. -/
def TrPost (T : Option Tm) (w : World) (e : Ending) (w' : World) : Prop :=
  ∃ (t : TT) (ok : Bool), e = .returned (.tuple #[.agg #[.int .i64 t.k, .int .i64 t.n, .int .i64 t.t.k, .slice t.t.a t.t.l.length t.t.c, .int .i64 t.f.k, .slice t.f.a t.f.l.length t.f.c, .slice t.a t.l.length t.c], .bool ok]) ∧ Hid (ok = T.isSome ∧ (∀ i, T = some i → t.tm = i) ∧ t.In w' ∧ t.Bl (w.heap.size ≤ ·) ∧ Below w.heap.size w w')

/-- Behind the entry: the tree's box, the answer's. -/
structure TB (x : Nd) (w : World) (W : World) : Prop where
  low : Below w.heap.size w W
  b0 : W.cell? ⟨w.heap.size, 0, none⟩ = some (.string x.w)
  b1 : W.cell? ⟨w.heap.size, 1, none⟩ = some (.slice x.a x.l.length x.c)
  b2 : W.cell? ⟨w.heap.size, 2, none⟩ = some (.bool x.o)
  box : Box7 W (w.heap.size + 1) (tleaf 0 0)

theorem TB.lt {x : Nd} {w W : World} (h : TB x w W) : w.heap.size + 1 < W.heap.size := h.box.lt

theorem TB.below {x : Nd} {w W V : World} (h : TB x w W) (hb : Below W.heap.size W V) : TB x w V := by
  have hl := h.lt
  have c : ∀ i, V.cell? ⟨w.heap.size, i, none⟩ = W.cell? ⟨w.heap.size, i, none⟩ := fun i => hb.cell (p := ⟨w.heap.size, i, none⟩) (show w.heap.size < _ by omega)
  exact ⟨h.low.trans (hb.mono h.low.size), (c _).trans h.b0, (c _).trans h.b1, (c _).trans h.b2, h.box.below hb⟩

theorem TB.start (x : Nd) (w : World) : TB x w ((w.alloc (.cells #[.string x.w, .slice x.a x.l.length x.c, .bool x.o] 67)).alloc (.cells #[.int .i64 0, .int .i64 0, .int .i64 0, .slice none 0 0, .int .i64 0, .slice none 0 0, .slice none 0 0] 27)) := by
  have h7 := At7.new (w.alloc (.cells #[.string x.w, .slice x.a x.l.length x.c, .bool x.o] 67)) (tleaf 0 0)
  rw [show (w.alloc (.cells #[.string x.w, .slice x.a x.l.length x.c, .bool x.o] 67)).heap.size = w.heap.size + 1 by simp] at h7
  refine ⟨((Below.refl _ _).alloc (Nat.le_refl _) _).alloc (by simp) _, ?_, ?_, ?_, ⟨h7, fun i hi => ?_⟩⟩
  all_goals simp [go_sem]

/-- The answer's seven cells, filled. -/
theorem tr_end {T : Option Tm} {t : TT} {x : Nd} {w wr : World} {ok : Bool} (h : TB x w wr) (hb : ok = T.isSome) (ht : ∀ i, T = some i → t.tm = i) (hin : t.In wr) (hbl : t.Bl (fun b => w.heap.size ≤ b ∧ b ≠ w.heap.size + 1)) :
    TrPost T w (.returned (.tuple #[.agg #[.int .i64 t.k, .int .i64 t.n, .int .i64 t.t.k, .slice t.t.a t.t.l.length t.t.c, .int .i64 t.f.k, .slice t.f.a t.f.l.length t.f.c, .slice t.a t.l.length t.c], .bool ok])) (put7 wr (w.heap.size + 1) t) := by
  have hk := put7_kept (w := wr) (J := w.heap.size + 1) (x := t)
  refine ⟨t, ok, rfl, hb, ht, hin.keptR hk (hbl.mono fun b hb => hb.2), hbl.mono fun b hb => hb.1, ?_⟩
  exact h.low.trans ((hk.below (by simp) (Nat.le_of_lt h.lt)).mono (by omega))

theorem tr_leaf {T : Option Tm} {k n : Int} {x : Nd} {w wr : World} {ok : Bool} (h : TB x w wr) (hb : ok = T.isSome) (ht : ∀ i, T = some i → ⟨k, n, anyY, anyY, []⟩ = i) :
    TrPost T w (.returned (.tuple #[.agg #[.int .i64 k, .int .i64 n, .int .i64 0, .slice none 0 0, .int .i64 0, .slice none 0 0, .slice none 0 0], .bool ok])) (put7 wr (w.heap.size + 1) (tleaf k n)) :=
  tr_end (t := tleaf k n) h hb (fun i hi => (tleaf_tm k n).trans (ht i hi)) (tleaf_in k n wr) (tleaf_bl k n _)

theorem termT_word (n : Nat) (x : Nd) (h : x.o = false) : termT (n + 1) x.tn = wordT x.w.data.toList := by
  rw [termT, Nd.tn_o, if_pos h, Nd.tn_w]

set_option maxRecDepth 20000 in
set_option maxHeartbeats 8000000 in
theorem term_word (n : Nat) (x : Nd) (w : World) (ho : x.o = false) (hw : x.w.data.toList ≠ []) (hs : x.w.size ≤ 2000) : Calls Tryz.prog 31 #[.agg #[.string x.w, .slice x.a x.l.length x.c, .bool x.o]] w (TrPost (termT (n + 1) x.tn) w) := by
  rw [termT_word n x ho]
  obtain ⟨bY, hY⟩ : ∃ b, (x.w.toList == (⟨#[121, 101, 115]⟩ : ByteArray).toList) = b := ⟨_, rfl⟩
  obtain ⟨bN, hN⟩ : ∃ b, (x.w.toList == (⟨#[110, 111]⟩ : ByteArray).toList) = b := ⟨_, rfl⟩
  have kY : (x.w.toList == [121, 101, 115]) = bY := by rw [← hY, Lib.toList_data ⟨#[121, 101, 115]⟩]
  have kN : (x.w.toList == [110, 111]) = bN := by rw [← hN, Lib.toList_data ⟨#[110, 111]⟩]
  have HAT : Hid (atWord (bw x.w.data.toList) truthWs 0 = if bN = true then some 0 else if bY = true then some 1 else none) := by
    have e : ∀ (y : ByteArray) (b : Bool), (x.w.toList == y.toList) = b → ((y = x.w) ↔ b = true) := fun y b h => by
      rw [← h]
      constructor
      · rintro rfl; simp
      · intro h'; exact ((Lib.bytes_beq_iff _ _).1 h').symm
    show _ = _
    rw [bw_of]
    simp only [truthWs, atWord, e _ _ hN, e _ _ hY]
  clear hY hN
  obtain ⟨W1, hW1⟩ : ∃ W, W = (w.alloc (.cells #[.string x.w, .slice x.a x.l.length x.c, .bool x.o] 67)).alloc (.cells #[.int .i64 0, .int .i64 0, .int .i64 0, .slice none 0 0, .int .i64 0, .slice none 0 0, .slice none 0 0] 27) := ⟨_, rfl⟩
  have HK : Hid (TB x w W1) := by rw [hW1]; exact TB.start x w
  have p0 := HK.out.b0
  have p2 := HK.out.b2
  rw [ho] at p2
  clear ho
  go_enter Tryz.func31, Tryz.ntmps31
  go_upto_region 1 with fail
  rw [← hW1]
  clear hW1
  cases bY
  · cases bN
    · have HNO : Hid (atWord (bw x.w.data.toList) truthWs 0 = none) := HAT.out
      clear HAT
      obtain ⟨d, r, hdr⟩ : ∃ d r, x.w.data.toList = d :: r := by
        cases h : x.w.data.toList with
        | nil => exact absurd h hw
        | cons d r => exact ⟨d, r, rfl⟩
      have hl : x.w.data.toList.length = x.w.size := Array.length_toList
      have h0 : 0 < x.w.size := by rw [← hl, hdr]; simp
      have hx : x.w[0]'h0 = d := by
        have h1 : x.w.data.toList[0]? = some d := by rw [hdr]; rfl
        have h2 := Lib.data_getElem? x.w 0 h0
        rw [h1] at h2
        exact (Option.some.inj h2).symm
      have hrl : r.length + 1 = x.w.size := by rw [← hl, hdr]; simp
      by_cases h35 : d = 35
      · have hc : ((d.toNat : Int) == 35) = true := by rw [h35]; rfl
        have hsl : ∀ w, (Instr.slice 9 (.string x.w) (some (.int .i64 1)) none none).run Tryz.prog w = .ok (.string (bw r)) w := fun w => by
          have := slice_from x.w 1 (by omega) w
          rw [hdr] at this
          exact this
        obtain ⟨Br, hBr⟩ : ∃ B, bw r = B := ⟨_, rfl⟩
        have HNU : Hid (Calls Tryz.prog 59 #[.string Br] W1 (NuPost r W1)) := by
          have h := numberR_any Br W1 (by rw [← hBr]; show r.toArray.size ≤ _; simp; omega)
          rw [← hBr] at h
          rw [← hBr]
          exact h
        have HT : Hid (wordT x.w.data.toList = (numT r).map fun n => ⟨1, n, anyY, anyY, []⟩) := by
          have h1 := HNO.out
          show _ = _
          rw [hdr, h35] at h1 ⊢
          exact wordT_hash r h1
        rw [hBr] at hsl
        clear hdr hl hrl hw h35 hBr HNO
        go_wp2_with fail
        refine HNU.out.mono ?_
        rintro e w3 ⟨m, ok, rfl, HM⟩
        have HKV : Hid (TB x w w3) := HK.out.below HM.out.2.2.2
        have HP : Hid (TrPost (wordT x.w.data.toList) w (.returned (.tuple #[.agg #[.int .i64 1, .int .i64 m, .int .i64 0, .slice none 0 0, .int .i64 0, .slice none 0 0, .slice none 0 0], .bool ok])) (put7 w3 (w.heap.size + 1) (tleaf 1 m))) := by
          refine tr_leaf HKV.out ?_ (fun i hi => ?_)
          · rw [HM.out.1, HT.out]; simp
          · rw [HT.out] at hi
            obtain ⟨v, hv, rfl⟩ := Option.map_eq_some_iff.1 hi
            rw [HM.out.2.1 v hv]
        clear HK HNU HM HT hsl p0 p2
        have HGT : Hid _ := put7_gets (x := tleaf 1 m) HKV.out.box
        obtain ⟨c0, c1, c2, c3, c4, c5, c6⟩ := HKV.out.box.at7
        simp only [Nat.zero_add, tleaf] at c0 c1 c2 c3 c4 c5 c6
        have f0 := HKV.out.box.fz 0 (by omega)
        have f1 := HKV.out.box.fz 1 (by omega)
        have f2 := HKV.out.box.fz 2 (by omega)
        have f3 := HKV.out.box.fz 3 (by omega)
        have f4 := HKV.out.box.fz 4 (by omega)
        have f5 := HKV.out.box.fz 5 (by omega)
        have f6 := HKV.out.box.fz 6 (by omega)
        clear HKV
        go_wp2_with fail
        refine bodyPost_ret (v := .tuple #[.agg #[.int .i64 1, .int .i64 m, .int .i64 0, .slice none 0 0, .int .i64 0, .slice none 0 0, .slice none 0 0], .bool ok]) ?_ rfl HP.out
        obtain ⟨d0, d1, d2, d3, d4, d5, d6⟩ := HGT.out
        simp only [tleaf, List.length_nil] at d0 d1 d2 d3 d4 d5 d6
        simp [results, Tryz.results31, go_sem, d0, d1, d2, d3, d4, d5, d6]
      · have hc : ((d.toNat : Int) == 35) = false := by
          rw [beq_eq_false_iff_ne]
          intro e
          exact h35 (UInt8.toNat_inj.1 (by show d.toNat = 35; omega))
        have HNU : Hid (Calls Tryz.prog 59 #[.string x.w] W1 (NuPost x.w.data.toList W1)) := numberR_any x.w W1 hs
        have HT : Hid (wordT x.w.data.toList = (numT x.w.data.toList).map fun n => ⟨2, n, anyY, anyY, []⟩) :=
          wordT_num _ HNO.out fun q e => by rw [hdr] at e; exact h35 (List.cons.inj e).1
        clear hdr hl hrl hw h35 HNO
        go_wp2_with fail
        refine HNU.out.mono ?_
        rintro e w3 ⟨m, ok, rfl, HM⟩
        have HKV : Hid (TB x w w3) := HK.out.below HM.out.2.2.2
        have HP : Hid (TrPost (wordT x.w.data.toList) w (.returned (.tuple #[.agg #[.int .i64 2, .int .i64 m, .int .i64 0, .slice none 0 0, .int .i64 0, .slice none 0 0, .slice none 0 0], .bool ok])) (put7 w3 (w.heap.size + 1) (tleaf 2 m))) := by
          refine tr_leaf HKV.out ?_ (fun i hi => ?_)
          · rw [HM.out.1, HT.out]; simp
          · rw [HT.out] at hi
            obtain ⟨v, hv, rfl⟩ := Option.map_eq_some_iff.1 hi
            rw [HM.out.2.1 v hv]
        clear HK HNU HM HT p0 p2
        have HGT : Hid _ := put7_gets (x := tleaf 2 m) HKV.out.box
        obtain ⟨c0, c1, c2, c3, c4, c5, c6⟩ := HKV.out.box.at7
        simp only [Nat.zero_add, tleaf] at c0 c1 c2 c3 c4 c5 c6
        have f0 := HKV.out.box.fz 0 (by omega)
        have f1 := HKV.out.box.fz 1 (by omega)
        have f2 := HKV.out.box.fz 2 (by omega)
        have f3 := HKV.out.box.fz 3 (by omega)
        have f4 := HKV.out.box.fz 4 (by omega)
        have f5 := HKV.out.box.fz 5 (by omega)
        have f6 := HKV.out.box.fz 6 (by omega)
        clear HKV
        go_wp2_with fail
        refine bodyPost_ret (v := .tuple #[.agg #[.int .i64 2, .int .i64 m, .int .i64 0, .slice none 0 0, .int .i64 0, .slice none 0 0, .slice none 0 0], .bool ok]) ?_ rfl HP.out
        obtain ⟨d0, d1, d2, d3, d4, d5, d6⟩ := HGT.out
        simp only [tleaf, List.length_nil] at d0 d1 d2 d3 d4 d5 d6
        simp [results, Tryz.results31, go_sem, d0, d1, d2, d3, d4, d5, d6]
    · have HP : Hid (TrPost (wordT x.w.data.toList) w (.returned (.tuple #[.agg #[.int .i64 3, .int .i64 0, .int .i64 0, .slice none 0 0, .int .i64 0, .slice none 0 0, .slice none 0 0], .bool true])) (put7 W1 (w.heap.size + 1) (tleaf 3 0))) :=
        tr_leaf HK.out (by rw [wordT_truth _ 0 HAT.out]; rfl) (fun i hi => by rw [wordT_truth _ 0 HAT.out] at hi; exact Option.some.inj hi)
      have HKV := HK
      clear HAT HK
      have HGT : Hid _ := put7_gets (x := tleaf 3 0) HKV.out.box
      obtain ⟨c0, c1, c2, c3, c4, c5, c6⟩ := HKV.out.box.at7
      simp only [Nat.zero_add, tleaf] at c0 c1 c2 c3 c4 c5 c6
      have f0 := HKV.out.box.fz 0 (by omega)
      have f1 := HKV.out.box.fz 1 (by omega)
      have f2 := HKV.out.box.fz 2 (by omega)
      have f3 := HKV.out.box.fz 3 (by omega)
      have f4 := HKV.out.box.fz 4 (by omega)
      have f5 := HKV.out.box.fz 5 (by omega)
      have f6 := HKV.out.box.fz 6 (by omega)
      clear HKV
      go_wp2_with fail
      refine bodyPost_ret (v := .tuple #[.agg #[.int .i64 3, .int .i64 0, .int .i64 0, .slice none 0 0, .int .i64 0, .slice none 0 0, .slice none 0 0], .bool true]) ?_ rfl HP.out
      obtain ⟨d0, d1, d2, d3, d4, d5, d6⟩ := HGT.out
      simp only [tleaf, List.length_nil] at d0 d1 d2 d3 d4 d5 d6
      simp [results, Tryz.results31, go_sem, d0, d1, d2, d3, d4, d5, d6]
  · have HP : Hid (TrPost (wordT x.w.data.toList) w (.returned (.tuple #[.agg #[.int .i64 3, .int .i64 1, .int .i64 0, .slice none 0 0, .int .i64 0, .slice none 0 0, .slice none 0 0], .bool true])) (put7 W1 (w.heap.size + 1) (tleaf 3 1))) := by
      have hbN : bN = false := by
        cases hb : bN
        · rfl
        · exfalso
          rw [hb] at kN
          have e1 : x.w.toList = [110, 111] := by simpa using kN
          rw [e1] at kY
          revert kY; decide
      have h1 := HAT.out
      rw [hbN] at h1
      exact tr_leaf HK.out (by rw [wordT_truth _ 1 h1]; rfl) (fun i hi => by rw [wordT_truth _ 1 h1] at hi; exact Option.some.inj hi)
    have HKV := HK
    clear HAT HK kN
    have HGT : Hid _ := put7_gets (x := tleaf 3 1) HKV.out.box
    obtain ⟨c0, c1, c2, c3, c4, c5, c6⟩ := HKV.out.box.at7
    simp only [Nat.zero_add, tleaf] at c0 c1 c2 c3 c4 c5 c6
    have f0 := HKV.out.box.fz 0 (by omega)
    have f1 := HKV.out.box.fz 1 (by omega)
    have f2 := HKV.out.box.fz 2 (by omega)
    have f3 := HKV.out.box.fz 3 (by omega)
    have f4 := HKV.out.box.fz 4 (by omega)
    have f5 := HKV.out.box.fz 5 (by omega)
    have f6 := HKV.out.box.fz 6 (by omega)
    clear HKV
    go_wp2_with fail
    refine bodyPost_ret (v := .tuple #[.agg #[.int .i64 3, .int .i64 1, .int .i64 0, .slice none 0 0, .int .i64 0, .slice none 0 0, .slice none 0 0], .bool true]) ?_ rfl HP.out
    obtain ⟨d0, d1, d2, d3, d4, d5, d6⟩ := HGT.out
    simp only [tleaf, List.length_nil] at d0 d1 d2 d3 d4 d5 d6
    simp [results, Tryz.results31, go_sem, d0, d1, d2, d3, d4, d5, d6]
end Go.Proofs.YtnddkmccagiclaaGreatDoor
