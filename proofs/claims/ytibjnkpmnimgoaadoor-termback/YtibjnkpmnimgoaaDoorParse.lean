/-
  What the call of term.Parse answers, at any text.
-/
import Derived.Test.YtibjnkpmnimgoaaDoorReadTmD
import Derived.Test.YtibjnkpmnimgoaaDoorCut
namespace Go.Proofs.YtibjnkpmnimgoaaDoor
open Go.RowKit

/-! ### Numbers of 64 bits; how many words there are, and how long -/

def Tm.nb : Tm → Prop
  | ⟨_, n, _, _, l⟩ => n ≤ 9223372036854775807 ∧ ∀ x, x ∈ l → x.nb

theorem Tm.nb_mk {k n : Int} {t f : Ty} {l : List Tm} : (Tm.mk k n t f l).nb ↔ n ≤ 9223372036854775807 ∧ ∀ x, x ∈ l → x.nb := by
  rw [Tm.nb]

theorem TT.nb_tm {x : TT} : x.tm.nb → x.nb := by
  induction x using TT.ind with
  | h k n t f a c l ih =>
    intro h
    rw [TT.tm_mk] at h
    obtain ⟨h1, h2⟩ := Tm.nb_mk.1 h
    exact TT.nb_mk.2 ⟨h1, fun x hx => ih x hx (h2 _ (List.mem_map_of_mem hx))⟩

theorem numOf_le {d : ByteArray} {v : Int} (h : numOf d = some v) : v ≤ 9223372036854775807 := by
  unfold numOf at h
  split at h
  · rename_i u hu
    split at h
    · cases h; exact (Lib.atoiAll_bounds hu).2
    · cases h
  · cases h

theorem atWord_le (x : ByteArray) : ∀ (l : List ByteArray) (i k : Nat), atWord x l i = some k → k < i + l.length
  | [], i, k, h => by cases h
  | y :: r, i, k, h => by
    simp only [atWord] at h
    split at h
    · cases h; simp
    · have := atWord_le x r (i + 1) k h
      simp only [List.length_cons]; omega

theorem readWord_nb {x : ByteArray} {r : List ByteArray} {p : Tm × List ByteArray} (h : readWord x r = some p) : p.1.nb := by
  unfold readWord at h
  split at h
  · rename_i b hb
    have := atWord_le x truthWs 0 b hb
    have e : truthWs.length = 2 := rfl
    cases h
    exact Tm.nb_mk.2 ⟨by omega, fun x hx => by cases hx⟩
  · split at h
    · obtain ⟨v, hv, rfl⟩ := Option.map_eq_some_iff.1 h
      exact Tm.nb_mk.2 ⟨numOf_le hv, fun x hx => by cases hx⟩
    · obtain ⟨v, hv, rfl⟩ := Option.map_eq_some_iff.1 h
      exact Tm.nb_mk.2 ⟨numOf_le hv, fun x hx => by cases hx⟩

theorem readN_nb (f : List ByteArray → Option (Tm × List ByteArray)) (hf : ∀ ws p, f ws = some p → p.1.nb) : ∀ (m : Nat) (ws : List ByteArray) (q : List Tm × List ByteArray), readN f m ws = some q → ∀ x, x ∈ q.1 → x.nb
  | 0, ws, q, h => by simp [readN] at h; rw [← h]; intro x hx; cases hx
  | m + 1, ws, q, h => by
    simp only [readN, Option.bind_eq_some_iff, Option.map_eq_some_iff] at h
    obtain ⟨p, hp, q', hq, rfl⟩ := h
    intro x hx
    rcases List.mem_cons.1 hx with rfl | hx
    · exact hf ws p hp
    · exact readN_nb f hf m _ _ hq x hx

theorem readTm_nb : ∀ (n : Nat) (ws : List ByteArray) (p : Tm × List ByteArray), readTm n ws = some p → p.1.nb
  | 0, _, _, h => by simp [readTm] at h
  | n + 1, [], _, h => by simp [readTm] at h
  | n + 1, x :: r, p, h => by
    by_cases hx : x = opB
    · subst hx
      rw [readTm_open] at h
      cases r with
      | nil => cases h
      | cons y r1 =>
        simp only [inTm, Option.bind_eq_some_iff, Option.map_eq_some_iff] at h
        obtain ⟨k, _, p1, h1, q, h2, r4, h3, rfl⟩ := h
        exact Tm.nb_mk.2 ⟨by omega, readN_nb (readTm n) (fun ws p hp => readTm_nb n ws p hp) _ _ _ h2⟩
    · rw [readTm_word n x r hx] at h
      exact readWord_nb h

theorem flush_len (cur : List UInt8) : (flush cur).length ≤ 1 := by unfold flush; split <;> simp

theorem tok_len : ∀ (s cur : List UInt8), (tokW cur s).length ≤ 2 * s.length + 1
  | [], cur => by rw [tokW]; have := flush_len cur; omega
  | c :: r, cur => by
    rw [tokW]
    have h1 := flush_len cur
    split
    · have := tok_len r []
      simp only [List.length_append, List.length_cons]; omega
    · split
      · have := tok_len r []
        simp only [List.length_append, List.length_cons, List.length_nil]; omega
      · have := tok_len r (cur ++ [c])
        simp only [List.length_cons]; omega

theorem tok_small : ∀ (s cur x : List UInt8), x ∈ tokW cur s → x.length ≤ cur.length + s.length + 1
  | [], cur, x, h => by
    rw [tokW, flush] at h
    split at h
    · cases h
    · rcases List.mem_singleton.1 h with rfl; omega
  | c :: r, cur, x, h => by
    have hf : ∀ y, y ∈ flush cur → y.length ≤ cur.length := by
      intro y hy
      rw [flush] at hy
      split at hy
      · cases hy
      · rcases List.mem_singleton.1 hy with rfl; omega
    rw [tokW] at h
    split at h
    · rcases List.mem_append.1 h with h | h
      · have := hf x h; simp only [List.length_cons]; omega
      · have := tok_small r [] x h; simp only [List.length_cons, List.length_nil] at this ⊢; omega
    · split at h
      · rcases List.mem_append.1 h with h | h
        · rcases List.mem_append.1 h with h | h
          · have := hf x h; simp only [List.length_cons]; omega
          · rcases List.mem_singleton.1 h with rfl; simp
        · have := tok_small r [] x h; simp only [List.length_cons, List.length_nil] at this ⊢; omega
      · have := tok_small r (cur ++ [c]) x h
        simp only [List.length_append, List.length_cons, List.length_nil] at this ⊢; omega

theorem words_len (s : List UInt8) (h : s.length ≤ 1000) : (wordsOf s).length ≤ 2001 := by
  rw [wordsOf, List.length_map]; have := tok_len s []; omega

theorem words_small (s : List UInt8) (h : s.length ≤ 1000) : SmW (wordsOf s) := by
  intro x hx
  obtain ⟨y, hy, rfl⟩ := List.mem_map.1 hx
  have := tok_small s [] y hy
  show y.toArray.size ≤ 1000000
  simp at this ⊢
  omega

/-! ### Parse -/

/-- The good term that a text tells. -/
def parseS (s : List UInt8) : Option Tm :=
  match readTm ((wordsOf s).length + 1) (wordsOf s) with
  | some (t, []) => if goodM 0 t = true then some t else none
  | _ => none

def PsPost (s : ByteArray) (w : World) (e : Ending) (w' : World) : Prop :=
  ∃ (x : TT) (er : Int), e = .returned (.tuple #[.agg #[.int .i64 x.k, .int .i64 x.n, .int .i64 x.t.k, .slice x.t.a x.t.l.length x.t.c, .int .i64 x.f.k, .slice x.f.a x.f.l.length x.f.c, .slice x.a x.l.length x.c], .int .i64 er]) ∧ x.In w' ∧ x.nb ∧ Below w.heap.size w w' ∧
    ((1000 < s.size ∧ er = 4 ∧ x = tleaf 0 0) ∨ (s.size ≤ 1000 ∧ parseS s.data.toList = none ∧ er = 1 ∧ x = tleaf 0 0) ∨ (s.size ≤ 1000 ∧ parseS s.data.toList = some x.tm ∧ er = 0))

theorem tleaf_nb (k n : Int) (h : n ≤ 9223372036854775807) : (tleaf k n).nb := TT.nb_mk.2 ⟨h, fun x hx => by cases hx⟩

theorem Kept.lowB {R B : Nat} {u v : World} (h : Kept R none u v) (hR : R ≤ u.heap.size) (hB : B ≤ R) : Below B u v :=
  ⟨h.os, h.tape, h.output, h.size, fun k hk => h.block k (by omega) (by omega) (by simp)⟩

/-- The result's place is written: what is below it stays. -/
theorem put7_below {w w4 : World} {x : TT} (h : Below w.heap.size w w4) : Below w.heap.size w (put7 w4 w.heap.size x) :=
  h.trans ⟨(put7_kept (x := x)).os, (put7_kept (x := x)).tape, (put7_kept (x := x)).output, (put7_kept (x := x)).size, fun k hk => put7_kept.block k (by have := h.size; omega) (by omega) (by simp)⟩

set_option maxRecDepth 20000 in
set_option maxHeartbeats 1000000 in
theorem parse_long (s : ByteArray) (hs : 1000 < s.size) (hm : s.size ≤ 9223372036854775807) (w : World) :
    Calls Tryd.prog 9 #[.string s] w (PsPost s w) := by
  have hbx := box7_alloc w
  have i1 : (1000 : Int) < (s.size : Int) := by omega
  have HE : Hid (PsPost s w (.returned (.tuple #[.agg #[.int .i64 0, .int .i64 0, .int .i64 0, .slice none 0 0, .int .i64 0, .slice none 0 0, .slice none 0 0], .int .i64 4])) (w7 w)) := ⟨tleaf 0 0, 4, rfl, tleaf_in _ _ _, tleaf_nb _ _ (by omega), w7_below w, .inl ⟨hs, rfl, rfl⟩⟩
  clear hbx
  go_enter Tryd.func9, Tryd.ntmps9
  go_wp2_with fail
  refine bodyPost_ret (v := .tuple #[.agg #[.int .i64 0, .int .i64 0, .int .i64 0, .slice none 0 0, .int .i64 0, .slice none 0 0, .slice none 0 0], .int .i64 4]) ?_ rfl HE.out
  simp [results, Tryd.results9, go_sem]

set_option maxRecDepth 20000 in
set_option maxHeartbeats 4000000 in
theorem parse_short (s : ByteArray) (hs : s.size ≤ 1000) (w : World) (hg : Gl w) :
    Calls Tryd.prog 9 #[.string s] w (PsPost s w) := by
  have i1 : ¬ (1000 : Int) < (s.size : Int) := by omega
  have hsl : s.data.toList.length = s.size := Array.length_toList
  obtain ⟨ws, hws⟩ : ∃ ws, wordsOf s.data.toList = ws := ⟨_, rfl⟩
  have HC : Hid (Calls Tryd.prog 34 #[.string s] (w7 w) fun e w' => ∃ A, e = .returned (.slice (some ⟨A, 0, none⟩) ws.length ws.length) ∧ (w7 w).heap.size ≤ A ∧ w'.ownsRow (w7 w).heap.size 9 1 (.slice (some ⟨A, 0, none⟩) ws.length ws.length) ws.length (ws.map Value.string) ∧ Below (w7 w).heap.size (w7 w) w') := by
    have := cut_any s hs (w7 w) (hg.below (w7_below w))
    rw [hws] at this
    exact this
  have HWL : Hid (ws.length ≤ 2001 ∧ SmW ws) := by rw [← hws]; exact ⟨words_len _ (by omega), words_small _ (by omega)⟩
  have HWS : Hid (wordsOf s.data.toList = ws) := hws
  clear hws
  have HG : Hid (Gl (w7 w)) := hg.below (w7_below w)
  have hgs := hg.size
  have hw7 : (w7 w).heap.size = w.heap.size + 1 := by simp [w7]
  clear hg hsl
  go_enter Tryd.func9, Tryd.ntmps9
  go_wp2_with fail
  refine HC.out.mono ?_
  rintro e w1 ⟨A, rfl, hA, hown, hb1⟩
  have hwl := HWL.out.1
  have hAlt : A < w1.heap.size := by
    rcases hown.2 with ⟨h, _⟩ | ⟨g, cap, cur, h, _, hg, _⟩
    · cases h
    · cases h; exact (Array.getElem?_eq_some_iff.1 hg).1
  have hb0 : Below w.heap.size w w1 := (w7_below w).trans (hb1.mono (by rw [hw7]; omega))
  have hsz1 : w.heap.size + 1 ≤ w1.heap.size := by have := hb1.size; rw [hw7] at this; exact this
  have hbx1 : Box7 w1 w.heap.size (tleaf 0 0) := (box7_alloc w).below hb1
  have hbR : ∀ o, Below w1.heap.size w1 (w1.alloc o) := fun o => (Below.refl _ _).alloc (Nat.le_refl _) _
  have hrs : ∀ o, o = Obj.cells #[.slice (some ⟨A, 0, none⟩) ws.length ws.length, .bool false] 56 → RS w1.heap.size ws false (w1.alloc o) := by
    rintro o rfl
    refine ⟨⟨_, _, by simp [go_sem], Nat.le_refl _, fun _ => ⟨A, 0, rfl, hAlt, fun i x hx => ?_⟩⟩, by simp [go_sem], by simp [go_sem], by simp [go_sem], by omega⟩
    have hi : i < ws.length := (List.getElem?_eq_some_iff.1 hx).1
    rw [(hbR _).cell (p := ⟨A, 0 + i, none⟩) hAlt, Nat.zero_add, hown.cellAt i (by omega), List.getElem?_map, hx]
    rfl
  have HT : Hid (Calls Tryd.prog 35 #[.pointer (some ⟨w1.heap.size, 0, none⟩)] (w1.alloc (.cells #[.slice (some ⟨A, 0, none⟩) ws.length ws.length, .bool false] 56)) (TmPost w1.heap.size false (readTm (ws.length + 1) ws) (w1.alloc (.cells #[.slice (some ⟨A, 0, none⟩) ws.length ws.length, .bool false] 56)))) :=
    readTerm_any w1.heap.size (by omega) (ws.length + 1) ws false _ (by omega) HWL.out.2 ((HG.out.below hb1).below (hbR _)) (hrs _ rfl)
  have HD : Hid (Below w.heap.size w w1 ∧ Box7 w1 w.heap.size (tleaf 0 0) ∧ Gl w1) := ⟨hb0, hbx1, HG.out.below hb1⟩
  clear hA hown hb1 HC hAlt hb0 hbx1 hrs hbR HG hwl
  go_wp2_with fail
  refine HT.out.mono ?_
  rintro e w3 ⟨x, rfl, hi3, hbl3, hk3, hA3, he3⟩
  obtain ⟨ws', b', hr3, hs3⟩ := hA3.letters
  obtain ⟨O, hO⟩ : ∃ O, O = Obj.cells #[.slice (some ⟨A, 0, none⟩) ws.length ws.length, .bool false] 56 := ⟨_, rfl⟩
  rw [← hO] at hbl3 hk3
  have hbO : Below w1.heap.size w1 (w1.alloc O) := (Below.refl _ _).alloc (Nat.le_refl _) _
  have hsO : (w1.alloc O).heap.size = w1.heap.size + 1 := by simp
  have hsz3 : w1.heap.size + 1 ≤ w3.heap.size := by have := hk3.size; rw [hsO] at this; exact this
  have hB3 : Below w.heap.size w w3 := (HD.out.1.trans (hbO.mono (by omega))).trans (hk3.lowB (by rw [hsO]; omega) (by omega))
  have hbx3 : Box7 w3 w.heap.size (tleaf 0 0) := (HD.out.2.1.below hbO).kept hk3 (by omega)
  have hgl3 : Gl w3 := (HD.out.2.2.below hbO).kept (by omega) hk3
  have hbx : ∀ o, Below w3.heap.size w3 (w3.alloc o) := fun o => (Below.refl _ _).alloc (Nat.le_refl _) _
  -- facts on the reader
  obtain ⟨⟨ra, rc, hrc, _, _⟩, hrb, _, _, _⟩ := hr3
  have hxbl : x.Bl (w.heap.size < ·) := hbl3.mono fun b hb => by rw [hsO] at hb; omega
  have HE : Hid (∀ W, Below w3.heap.size w3 W → Box7 W w.heap.size (tleaf 0 0) ∧ Below w.heap.size w W ∧ x.In W ∧ x.Bl (w.heap.size < ·)) := fun W hW => ⟨hbx3.below hW, hB3.trans (hW.mono hB3.size), hi3.below hW, hxbl⟩
  have HS : Hid (StepR ((readTm (ws.length + 1) ws).map (·.2)) false ws' b' ∧ (∀ p, readTm (ws.length + 1) ws = some p → x.tm = p.1)) := ⟨hs3, he3⟩
  have HGL : Hid (Gl w3) := hgl3
  have hne : w1.heap.size ≠ w3.heap.size := by omega
  have hnl : w1.heap.size < w3.heap.size := by omega
  clear hi3 hbl3 hk3 hA3 he3 hs3 hB3 hbx3 hgl3 hbO hsO hxbl hO HD HT
  -- the two ways to end
  have BAD : Hid (parseS s.data.toList = none → ∀ W, Below w3.heap.size w3 W → PsPost s w (.returned (.tuple #[.agg #[.int .i64 0, .int .i64 0, .int .i64 0, .slice none 0 0, .int .i64 0, .slice none 0 0, .slice none 0 0], .int .i64 1])) (put7 W w.heap.size (tleaf 0 0))) :=
    fun hp W hW => ⟨tleaf 0 0, 1, rfl, tleaf_in _ _ _, tleaf_nb _ _ (by omega), put7_below (HE.out W hW).2.1, .inr (.inl ⟨hs, hp, rfl, rfl⟩)⟩
  have HPS : Hid (parseS s.data.toList = match readTm (ws.length + 1) ws with | some (t, []) => if goodM 0 t = true then some t else none | _ => none) := by show _ = _; rw [parseS, HWS.out]
  cases b' with
  | true =>
    have hpn : parseS s.data.toList = none := by
      have ho : readTm (ws.length + 1) ws = none := by
        rcases HS.out.1 with ⟨_, h⟩ | ⟨h, _⟩
        · cases h
        · exact Option.map_eq_none_iff.1 h
      rw [HPS.out, ho]
    obtain ⟨O, hO⟩ : ∃ O, O = Obj.cells #[.int .i64 x.k, .int .i64 x.n, .int .i64 x.t.k, .slice x.t.a x.t.l.length x.t.c, .int .i64 x.f.k, .slice x.f.a x.f.l.length x.f.c, .slice x.a x.l.length x.c] 27 := ⟨_, rfl⟩
    have HF : Hid _ := BAD.out hpn (w3.alloc O) (hbx O)
    have hbxO := (HE.out _ (hbx O)).1
    have HGT : Hid _ := put7_gets (x := tleaf 0 0) hbxO
    have h7 := hbxO.at7
    have c0 := h7.c0
    have c1 := h7.c1
    have c2 := h7.c2
    have c3 := h7.c3
    have c4 := h7.c4
    have c5 := h7.c5
    have c6 := h7.c6
    simp only [Nat.zero_add, tleaf] at c0 c1 c2 c3 c4 c5 c6
    have f0 := hbxO.fz 0 (by omega)
    have f1 := hbxO.fz 1 (by omega)
    have f2 := hbxO.fz 2 (by omega)
    have f3 := hbxO.fz 3 (by omega)
    have f4 := hbxO.fz 4 (by omega)
    have f5 := hbxO.fz 5 (by omega)
    have f6 := hbxO.fz 6 (by omega)
    subst hO
    clear hbxO h7 hpn BAD hbx HS HPS HGL
    go_wp2_with fail
    refine bodyPost_ret (v := .tuple #[.agg #[.int .i64 0, .int .i64 0, .int .i64 0, .slice none 0 0, .int .i64 0, .slice none 0 0, .slice none 0 0], .int .i64 1]) ?_ rfl HF.out
    obtain ⟨d0, d1, d2, d3, d4, d5, d6⟩ := HGT.out
    simp only [tleaf, List.length_nil] at d0 d1 d2 d3 d4 d5 d6
    simp [results, Tryd.results9, go_sem, d0, d1, d2, d3, d4, d5, d6]
  | false =>
    obtain ⟨p, hp, hp2⟩ : ∃ p, readTm (ws.length + 1) ws = some p ∧ p.2 = ws' := by
      rcases HS.out.1 with ⟨h, _⟩ | ⟨_, _, h⟩
      · exact Option.map_eq_some_iff.1 h
      · cases h
    have hxt : x.tm = p.1 := HS.out.2 p hp
    have hnb : x.nb := TT.nb_tm (hxt ▸ readTm_nb _ _ _ hp)
    obtain ⟨O, hO⟩ : ∃ O, O = Obj.cells #[.int .i64 x.k, .int .i64 x.n, .int .i64 x.t.k, .slice x.t.a x.t.l.length x.t.c, .int .i64 x.f.k, .slice x.f.a x.f.l.length x.f.c, .slice x.a x.l.length x.c] 27 := ⟨_, rfl⟩
    cases ws' with
    | cons y r' =>
      have hpn : parseS s.data.toList = none := by
        obtain ⟨p1, p2⟩ := p
        dsimp only at hp2
        subst hp2
        rw [HPS.out, hp]
      have i2 : (0 : Int) < (((y :: r').length : Nat) : Int) := by simp
      have HF : Hid _ := BAD.out hpn (w3.alloc O) (hbx O)
      have hbxO := (HE.out _ (hbx O)).1
      have HGT : Hid _ := put7_gets (x := tleaf 0 0) hbxO
      have h7 := hbxO.at7
      have c0 := h7.c0
      have c1 := h7.c1
      have c2 := h7.c2
      have c3 := h7.c3
      have c4 := h7.c4
      have c5 := h7.c5
      have c6 := h7.c6
      simp only [Nat.zero_add, tleaf] at c0 c1 c2 c3 c4 c5 c6
      have f0 := hbxO.fz 0 (by omega)
      have f1 := hbxO.fz 1 (by omega)
      have f2 := hbxO.fz 2 (by omega)
      have f3 := hbxO.fz 3 (by omega)
      have f4 := hbxO.fz 4 (by omega)
      have f5 := hbxO.fz 5 (by omega)
      have f6 := hbxO.fz 6 (by omega)
      subst hO
      have HP : Hid (readTm (ws.length + 1) ws = some p ∧ p.2 = y :: r' ∧ x.tm = p.1) := ⟨hp, hp2, hxt⟩
      clear hbxO h7 hpn BAD hbx HS HPS HGL hp hp2 hxt hnb HP
      go_wp2_with fail
      refine bodyPost_ret (v := .tuple #[.agg #[.int .i64 0, .int .i64 0, .int .i64 0, .slice none 0 0, .int .i64 0, .slice none 0 0, .slice none 0 0], .int .i64 1]) ?_ rfl HF.out
      obtain ⟨d0, d1, d2, d3, d4, d5, d6⟩ := HGT.out
      simp only [tleaf, List.length_nil] at d0 d1 d2 d3 d4 d5 d6
      simp [results, Tryd.results9, go_sem, d0, d1, d2, d3, d4, d5, d6]
    | nil =>
      have hps : parseS s.data.toList = if goodM 0 x.tm = true then some x.tm else none := by
        obtain ⟨p1, p2⟩ := p
        dsimp only at hp2 hxt
        subst hp2 hxt
        rw [HPS.out, hp]
      have HPP : Hid (parseS s.data.toList = if goodM 0 x.tm = true then some x.tm else none) := hps
      have HGD : Hid (Calls Tryd.prog 32 #[.agg #[.int .i64 x.k, .int .i64 x.n, .int .i64 x.t.k, .slice x.t.a x.t.l.length x.t.c, .int .i64 x.f.k, .slice x.f.a x.f.l.length x.f.c, .slice x.a x.l.length x.c], .int .i64 0] (w3.alloc O) fun e w' => e = .returned (.bool (goodM 0 x.tm)) ∧ Below (w3.alloc O).heap.size (w3.alloc O) w') := goodTm_any x 0 _ (HGL.out.below (hbx O)) (HE.out _ (hbx O)).2.2.1 hnb
      have i2 : ¬ (0 : Int) < ((([] : List ByteArray).length : Nat) : Int) := by simp
      simp only [List.length_nil] at hrc
      have e0 : ((0 : Nat) : Int) = 0 := rfl
      obtain ⟨g, hgd⟩ : ∃ g, goodM 0 x.tm = g := ⟨_, rfl⟩
      rw [hgd] at HGD
      have HGG : Hid (goodM 0 x.tm = g) := hgd
      have HNB : Hid x.nb := hnb
      have hBO := hbx O
      have HBO : Hid (Below w3.heap.size w3 (w3.alloc O)) := hBO
      have hbt : At7 (w3.alloc O) w3.heap.size 0 x := by subst hO; constructor <;> simp [go_sem]
      have HBT : Hid (At7 (w3.alloc O) w3.heap.size 0 x) := hbt
      have hnm : w3.heap.size < (w3.alloc O).heap.size := by simp
      clear hp hp2 hxt hps hgd hnb hBO hbt HS HPS hbx HGL
      subst hO
      go_wp2_with fail
      refine HGD.out.mono ?_
      rintro e w5 ⟨rfl, hb5⟩
      have hW5 : Below w3.heap.size w3 w5 := HBO.out.trans (hb5.mono HBO.out.size)
      have hbt5 := HBT.out.below hb5
      clear hb5 HGD
      cases g with
      | false =>
        have hpn : parseS s.data.toList = none := by rw [HPP.out, HGG.out]; rfl
        have HF : Hid _ := BAD.out hpn w5 hW5
        have hbxO := (HE.out _ hW5).1
        have HGT : Hid _ := put7_gets (x := tleaf 0 0) hbxO
        have h7 := hbxO.at7
        have c0 := h7.c0
        have c1 := h7.c1
        have c2 := h7.c2
        have c3 := h7.c3
        have c4 := h7.c4
        have c5 := h7.c5
        have c6 := h7.c6
        simp only [Nat.zero_add, tleaf] at c0 c1 c2 c3 c4 c5 c6
        have f0 := hbxO.fz 0 (by omega)
        have f1 := hbxO.fz 1 (by omega)
        have f2 := hbxO.fz 2 (by omega)
        have f3 := hbxO.fz 3 (by omega)
        have f4 := hbxO.fz 4 (by omega)
        have f5 := hbxO.fz 5 (by omega)
        have f6 := hbxO.fz 6 (by omega)
        clear hbxO h7 hpn BAD hW5 hbt5
        go_wp2_with fail
        refine bodyPost_ret (v := .tuple #[.agg #[.int .i64 0, .int .i64 0, .int .i64 0, .slice none 0 0, .int .i64 0, .slice none 0 0, .slice none 0 0], .int .i64 1]) ?_ rfl HF.out
        obtain ⟨d0, d1, d2, d3, d4, d5, d6⟩ := HGT.out
        simp only [tleaf, List.length_nil] at d0 d1 d2 d3 d4 d5 d6
        simp [results, Tryd.results9, go_sem, d0, d1, d2, d3, d4, d5, d6]
      | true =>
        have hpy : parseS s.data.toList = some x.tm := by rw [HPP.out, HGG.out]; rfl
        obtain ⟨hbxO, hBw, hxi, hxb⟩ := HE.out _ hW5
        have HF : Hid (PsPost s w (.returned (.tuple #[.agg #[.int .i64 x.k, .int .i64 x.n, .int .i64 x.t.k, .slice x.t.a x.t.l.length x.t.c, .int .i64 x.f.k, .slice x.f.a x.f.l.length x.f.c, .slice x.a x.l.length x.c], .int .i64 0])) (put7 w5 w.heap.size x)) :=
          ⟨x, 0, rfl, hxi.keptR put7_kept (hxb.mono fun b hb => by omega), HNB.out, put7_below hBw, .inr (.inr ⟨hs, hpy, rfl⟩)⟩
        have HGT : Hid _ := put7_gets (x := x) hbxO
        have t0 := hbt5.c0
        have t1 := hbt5.c1
        have t2 := hbt5.c2
        have t3 := hbt5.c3
        have t4 := hbt5.c4
        have t5 := hbt5.c5
        have t6 := hbt5.c6
        simp only [Nat.zero_add] at t0 t1 t2 t3 t4 t5 t6
        have h7 := hbxO.at7
        have c0 := h7.c0
        have c1 := h7.c1
        have c2 := h7.c2
        have c3 := h7.c3
        have c4 := h7.c4
        have c5 := h7.c5
        have c6 := h7.c6
        simp only [Nat.zero_add, tleaf] at c0 c1 c2 c3 c4 c5 c6
        have f0 := hbxO.fz 0 (by omega)
        have f1 := hbxO.fz 1 (by omega)
        have f2 := hbxO.fz 2 (by omega)
        have f3 := hbxO.fz 3 (by omega)
        have f4 := hbxO.fz 4 (by omega)
        have f5 := hbxO.fz 5 (by omega)
        have f6 := hbxO.fz 6 (by omega)
        clear hbxO h7 hpy BAD hW5 hbt5 hBw hxi hxb
        go_wp2_with fail
        refine bodyPost_ret (v := .tuple #[.agg #[.int .i64 x.k, .int .i64 x.n, .int .i64 x.t.k, .slice x.t.a x.t.l.length x.t.c, .int .i64 x.f.k, .slice x.f.a x.f.l.length x.f.c, .slice x.a x.l.length x.c], .int .i64 0]) ?_ rfl HF.out
        obtain ⟨d0, d1, d2, d3, d4, d5, d6⟩ := HGT.out
        simp [results, Tryd.results9, go_sem, d0, d1, d2, d3, d4, d5, d6]

/-- term.Parse. -/
theorem parse_any (s : ByteArray) (hm : s.size ≤ 9223372036854775807) (w : World) (hg : Gl w) : Calls Tryd.prog 9 #[.string s] w (PsPost s w) := by
  by_cases hs : s.size ≤ 1000
  · exact parse_short s hs w hg
  · exact parse_long s (by omega) hm w
end Go.Proofs.YtibjnkpmnimgoaaDoor
