/-
  What the call of term.Parse answers, at any text.
-/
import Derived.Test.YtnddkmccagiclaaGreatDoorLot271261a67e
import Derived.Test.YtnddkmccagiclaaGreatDoorLotfd21d846ae
import Derived.Test.YtnddkmccagiclaaGreatDoorLot165290add2
import Derived.Test.YtnddkmccagiclaaGreatDoorLot112ae7bf11
import Derived.Test.YtnddkmccagiclaaGreatDoorLotf30eea48d8
namespace Go.Proofs.YtnddkmccagiclaaGreatDoor
open Go.RowKit

/-! ### Numbers of 64 bits; how many words there are, and how long -/

def Tm.nb : Tm → Prop
  | ⟨_, n, _, _, l⟩ => n ≤ 9223372036854775807 ∧ ∀ x, x ∈ l → x.nb

theorem Tm.nb_mk {k n : Int} {t f : Ty} {l : List Tm} : (Tm.mk k n t f l).nb ↔ n ≤ 9223372036854775807 ∧ ∀ x, x ∈ l → x.nb := by
  rw [Tm.nb]

theorem TT.nb_tm {x : TT} : x.tm.nb → x.nb := by
  induction x using TT.ind with
  | h k n t f a c l ih =>
    intro h
    rw [TT.tm_mk] at h
    obtain ⟨h1, h2⟩ := Tm.nb_mk.1 h
    exact TT.nb_mk.2 ⟨h1, fun x hx => ih x hx (h2 _ (List.mem_map_of_mem hx))⟩

theorem numOf_le {d : ByteArray} {v : Int} (h : numOf d = some v) : v ≤ 9223372036854775807 := by
  unfold numOf at h
  split at h
  · rename_i u hu
    split at h
    · cases h; exact (Lib.atoiAll_bounds hu).2
    · cases h
  · cases h

theorem atWord_le (x : ByteArray) : ∀ (l : List ByteArray) (i k : Nat), atWord x l i = some k → k < i + l.length
  | [], i, k, h => by cases h
  | y :: r, i, k, h => by
    simp only [atWord] at h
    split at h
    · cases h; simp
    · have := atWord_le x r (i + 1) k h
      simp only [List.length_cons]; omega

theorem readWord_nb {x : ByteArray} {r : List ByteArray} {p : Tm × List ByteArray} (h : readWord x r = some p) : p.1.nb := by
  unfold readWord at h
  split at h
  · rename_i b hb
    have := atWord_le x truthWs 0 b hb
    have e : truthWs.length = 2 := rfl
    cases h
    exact Tm.nb_mk.2 ⟨by omega, fun x hx => by cases hx⟩
  · split at h
    · obtain ⟨v, hv, rfl⟩ := Option.map_eq_some_iff.1 h
      exact Tm.nb_mk.2 ⟨numOf_le hv, fun x hx => by cases hx⟩
    · obtain ⟨v, hv, rfl⟩ := Option.map_eq_some_iff.1 h
      exact Tm.nb_mk.2 ⟨numOf_le hv, fun x hx => by cases hx⟩

theorem readN_nb (f : List ByteArray → Option (Tm × List ByteArray)) (hf : ∀ ws p, f ws = some p → p.1.nb) : ∀ (m : Nat) (ws : List ByteArray) (q : List Tm × List ByteArray), readN f m ws = some q → ∀ x, x ∈ q.1 → x.nb
  | 0, ws, q, h => by simp [readN] at h; rw [← h]; intro x hx; cases hx
  | m + 1, ws, q, h => by
    simp only [readN, Option.bind_eq_some_iff, Option.map_eq_some_iff] at h
    obtain ⟨p, hp, q', hq, rfl⟩ := h
    intro x hx
    rcases List.mem_cons.1 hx with rfl | hx
    · exact hf ws p hp
    · exact readN_nb f hf m _ _ hq x hx

theorem readTm_nb : ∀ (n : Nat) (ws : List ByteArray) (p : Tm × List ByteArray), readTm n ws = some p → p.1.nb
  | 0, _, _, h => by simp [readTm] at h
  | n + 1, [], _, h => by simp [readTm] at h
  | n + 1, x :: r, p, h => by
    by_cases hx : x = opB
    · subst hx
      rw [readTm_open] at h
      cases r with
      | nil => cases h
      | cons y r1 =>
        simp only [inTm, Option.bind_eq_some_iff, Option.map_eq_some_iff] at h
        obtain ⟨k, _, p1, h1, q, h2, r4, h3, rfl⟩ := h
        exact Tm.nb_mk.2 ⟨by omega, readN_nb (readTm n) (fun ws p hp => readTm_nb n ws p hp) _ _ _ h2⟩
    · rw [readTm_word n x r hx] at h
      exact readWord_nb h

theorem flush_len (cur : List UInt8) : (flush cur).length ≤ 1 := by unfold flush; split <;> simp

theorem tok_len : ∀ (s cur : List UInt8), (tokW cur s).length ≤ 2 * s.length + 1
  | [], cur => by rw [tokW]; have := flush_len cur; omega
  | c :: r, cur => by
    rw [tokW]
    have h1 := flush_len cur
    split
    · have := tok_len r []
      simp only [List.length_append, List.length_cons]; omega
    · split
      · have := tok_len r []
        simp only [List.length_append, List.length_cons, List.length_nil]; omega
      · have := tok_len r (cur ++ [c])
        simp only [List.length_cons]; omega

theorem tok_small : ∀ (s cur x : List UInt8), x ∈ tokW cur s → x.length ≤ cur.length + s.length + 1
  | [], cur, x, h => by
    rw [tokW, flush] at h
    split at h
    · cases h
    · rcases List.mem_singleton.1 h with rfl; omega
  | c :: r, cur, x, h => by
    have hf : ∀ y, y ∈ flush cur → y.length ≤ cur.length := by
      intro y hy
      rw [flush] at hy
      split at hy
      · cases hy
      · rcases List.mem_singleton.1 hy with rfl; omega
    rw [tokW] at h
    split at h
    · rcases List.mem_append.1 h with h | h
      · have := hf x h; simp only [List.length_cons]; omega
      · have := tok_small r [] x h; simp only [List.length_cons, List.length_nil] at this ⊢; omega
    · split at h
      · rcases List.mem_append.1 h with h | h
        · rcases List.mem_append.1 h with h | h
          · have := hf x h; simp only [List.length_cons]; omega
          · rcases List.mem_singleton.1 h with rfl; simp
        · have := tok_small r [] x h; simp only [List.length_cons, List.length_nil] at this ⊢; omega
      · have := tok_small r (cur ++ [c]) x h
        simp only [List.length_append, List.length_cons, List.length_nil] at this ⊢; omega

theorem words_len (s : List UInt8) (h : s.length ≤ 1000) : (wordsOf s).length ≤ 2001 := by
  rw [wordsOf, List.length_map]; have := tok_len s []; omega

theorem words_small (s : List UInt8) (h : s.length ≤ 1000) : SmW (wordsOf s) := by
  intro x hx
  obtain ⟨y, hy, rfl⟩ := List.mem_map.1 hx
  have := tok_small s [] y hy
  show y.toArray.size ≤ 1000000
  simp at this ⊢
  omega

/-! ### Parse -/

/-- The good term that a text tells. -/
def parseS (s : List UInt8) : Option Tm :=
  match readTm ((wordsOf s).length + 1) (wordsOf s) with
  | some (t, []) => if goodM 0 t = true then some t else none
  | _ => none

def PsPost (s : ByteArray) (w : World) (e : Ending) (w' : World) : Prop :=
  ∃ (x : TT) (er : Int), e = .returned (.tuple #[.agg #[.int .i64 x.k, .int .i64 x.n, .int .i64 x.t.k, .slice x.t.a x.t.l.length x.t.c, .int .i64 x.f.k, .slice x.f.a x.f.l.length x.f.c, .slice x.a x.l.length x.c], .int .i64 er]) ∧ x.In w' ∧ x.nb ∧ Below w.heap.size w w' ∧
    ((1000 < s.size ∧ er = 4 ∧ x = tleaf 0 0) ∨ (s.size ≤ 1000 ∧ parseS s.data.toList = none ∧ er = 1 ∧ x = tleaf 0 0) ∨ (s.size ≤ 1000 ∧ parseS s.data.toList = some x.tm ∧ er = 0))

theorem tleaf_nb (k n : Int) (h : n ≤ 9223372036854775807) : (tleaf k n).nb := TT.nb_mk.2 ⟨h, fun x hx => by cases hx⟩

theorem Kept.lowB {R B : Nat} {u v : World} (h : Kept R none u v) (hR : R ≤ u.heap.size) (hB : B ≤ R) : Below B u v :=
  ⟨h.os, h.tape, h.output, h.size, fun k hk => h.block k (by omega) (by omega) (by simp)⟩

/-- The result's place is written: what is below it stays. -/
theorem put7_below {w w4 : World} {x : TT} (h : Below w.heap.size w w4) : Below w.heap.size w (put7 w4 w.heap.size x) :=
  h.trans ⟨(put7_kept (x := x)).os, (put7_kept (x := x)).tape, (put7_kept (x := x)).output, (put7_kept (x := x)).size, fun k hk => put7_kept.block k (by have := h.size; omega) (by omega) (by simp)⟩

set_option maxRecDepth 20000 in
set_option maxHeartbeats 1000000 in
theorem parse_long (s : ByteArray) (hs : 1000 < s.size) (hm : s.size ≤ 9223372036854775807) (w : World) :
    Calls Tryz.prog 16 #[.string s] w (PsPost s w) := by
  have hbx := box7_alloc w
  have i1 : (1000 : Int) < (s.size : Int) := by omega
  have HE : Hid (PsPost s w (.returned (.tuple #[.agg #[.int .i64 0, .int .i64 0, .int .i64 0, .slice none 0 0, .int .i64 0, .slice none 0 0, .slice none 0 0], .int .i64 4])) (w7 w)) := ⟨tleaf 0 0, 4, rfl, tleaf_in _ _ _, tleaf_nb _ _ (by omega), w7_below w, .inl ⟨hs, rfl, rfl⟩⟩
  clear hbx
  go_enter Tryz.func16, Tryz.ntmps16
  go_wp2_with fail
  refine bodyPost_ret (v := .tuple #[.agg #[.int .i64 0, .int .i64 0, .int .i64 0, .slice none 0 0, .int .i64 0, .slice none 0 0, .slice none 0 0], .int .i64 4]) ?_ rfl HE.out
  simp [results, Tryz.results16, go_sem]

set_option maxRecDepth 20000 in
set_option maxHeartbeats 4000000 in
theorem parse_short (s : ByteArray) (hs : s.size ≤ 1000) (w : World) (hg : Gl w) :
    Calls Tryz.prog 16 #[.string s] w (PsPost s w) := by
  have i1 : ¬ (1000 : Int) < (s.size : Int) := by omega
  have hsl : s.data.toList.length = s.size := Array.length_toList
  obtain ⟨ws, hws⟩ : ∃ ws, wordsOf s.data.toList = ws := ⟨_, rfl⟩
  have HC : Hid (Calls Tryz.prog 28 #[.string s] (w7 w) fun e w' => ∃ A, e = .returned (.slice (some ⟨A, 0, none⟩) ws.length ws.length) ∧ (w7 w).heap.size ≤ A ∧ w'.ownsRow (w7 w).heap.size 9 1 (.slice (some ⟨A, 0, none⟩) ws.length ws.length) ws.length (ws.map Value.string) ∧ Below (w7 w).heap.size (w7 w) w') := by
    have := cut_any s hs (w7 w) (hg.below (w7_below w))
    rw [hws] at this
    exact this
  have HWL : Hid (ws.length ≤ 2001 ∧ SmW ws) := by rw [← hws]; exact ⟨words_len _ (by omega), words_small _ (by omega)⟩
  have HWS : Hid (wordsOf s.data.toList = ws) := hws
  clear hws
  have HG : Hid (Gl (w7 w)) := hg.below (w7_below w)
  have hgs := hg.size
  have hw7 : (w7 w).heap.size = w.heap.size + 1 := by simp [w7]
  clear hg hsl
  go_enter Tryz.func16, Tryz.ntmps16
  go_wp2_with fail
  refine HC.out.mono ?_
  rintro e w1 ⟨A, rfl, hA, hown, hb1⟩
  have hwl := HWL.out.1
  have hAlt : A < w1.heap.size := by
    rcases hown.2 with ⟨h, _⟩ | ⟨g, cap, cur, h, _, hg, _⟩
    · cases h
    · cases h; exact (Array.getElem?_eq_some_iff.1 hg).1
  have hb0 : Below w.heap.size w w1 := (w7_below w).trans (hb1.mono (by rw [hw7]; omega))
  have hsz1 : w.heap.size + 1 ≤ w1.heap.size := by have := hb1.size; rw [hw7] at this; exact this
  have hbx1 : Box7 w1 w.heap.size (tleaf 0 0) := (box7_alloc w).below hb1
  have hbR : ∀ o, Below w1.heap.size w1 (w1.alloc o) := fun o => (Below.refl _ _).alloc (Nat.le_refl _) _
  have hrs : ∀ o, o = Obj.cells #[.slice (some ⟨A, 0, none⟩) ws.length ws.length, .bool false] 60 → RS w1.heap.size ws false (w1.alloc o) := by
    rintro o rfl
    refine ⟨⟨_, _, by simp [go_sem], Nat.le_refl _, fun _ => ⟨A, 0, rfl, hAlt, fun i x hx => ?_⟩⟩, by simp [go_sem], by simp [go_sem], by simp [go_sem], by omega⟩
    have hi : i < ws.length := (List.getElem?_eq_some_iff.1 hx).1
    rw [(hbR _).cell (p := ⟨A, 0 + i, none⟩) hAlt, Nat.zero_add, hown.cellAt i (by omega), List.getElem?_map, hx]
    rfl
  have HT : Hid (Calls Tryz.prog 29 #[.pointer (some ⟨w1.heap.size, 0, none⟩)] (w1.alloc (.cells #[.slice (some ⟨A, 0, none⟩) ws.length ws.length, .bool false] 60)) (TmPost w1.heap.size false (readTm (ws.length + 1) ws) (w1.alloc (.cells #[.slice (some ⟨A, 0, none⟩) ws.length ws.length, .bool false] 60)))) :=
    readTerm_any w1.heap.size (by omega) (ws.length + 1) ws false _ (by omega) HWL.out.2 ((HG.out.below hb1).below (hbR _)) (hrs _ rfl)
  have HD : Hid (Below w.heap.size w w1 ∧ Box7 w1 w.heap.size (tleaf 0 0) ∧ Gl w1) := ⟨hb0, hbx1, HG.out.below hb1⟩
  clear hA hown hb1 HC hAlt hb0 hbx1 hrs hbR HG hwl
  go_wp2_with fail
  refine HT.out.mono ?_
  rintro e w3 ⟨x, rfl, hi3, hbl3, hk3, hA3, he3⟩
  obtain ⟨ws', b', hr3, hs3⟩ := hA3.letters
  obtain ⟨O, hO⟩ : ∃ O, O = Obj.cells #[.slice (some ⟨A, 0, none⟩) ws.length ws.length, .bool false] 60 := ⟨_, rfl⟩
  rw [← hO] at hbl3 hk3
  have hbO : Below w1.heap.size w1 (w1.alloc O) := (Below.refl _ _).alloc (Nat.le_refl _) _
  have hsO : (w1.alloc O).heap.size = w1.heap.size + 1 := by simp
  have hsz3 : w1.heap.size + 1 ≤ w3.heap.size := by have := hk3.size; rw [hsO] at this; exact this
  have hB3 : Below w.heap.size w w3 := (HD.out.1.trans (hbO.mono (by omega))).trans (hk3.lowB (by rw [hsO]; omega) (by omega))
  have hbx3 : Box7 w3 w.heap.size (tleaf 0 0) := (HD.out.2.1.below hbO).kept hk3 (by omega)
  have hgl3 : Gl w3 := (HD.out.2.2.below hbO).kept (by omega) hk3
  have hbx : ∀ o, Below w3.heap.size w3 (w3.alloc o) := fun o => (Below.refl _ _).alloc (Nat.le_refl _) _
  -- facts on the reader
  obtain ⟨⟨ra, rc, hrc, _, _⟩, hrb, _, _, _⟩ := hr3
  have hxbl : x.Bl (w.heap.size < ·) := hbl3.mono fun b hb => by rw [hsO] at hb; omega
  have HE : Hid (∀ W, Below w3.heap.size w3 W → Box7 W w.heap.size (tleaf 0 0) ∧ Below w.heap.size w W ∧ x.In W ∧ x.Bl (w.heap.size < ·)) := fun W hW => ⟨hbx3.below hW, hB3.trans (hW.mono hB3.size), hi3.below hW, hxbl⟩
  have HS : Hid (StepR ((readTm (ws.length + 1) ws).map (·.2)) false ws' b' ∧ (∀ p, readTm (ws.length + 1) ws = some p → x.tm = p.1)) := ⟨hs3, he3⟩
  have HGL : Hid (Gl w3) := hgl3
  have hne : w1.heap.size ≠ w3.heap.size := by omega
  have hnl : w1.heap.size < w3.heap.size := by omega
  clear hi3 hbl3 hk3 hA3 he3 hs3 hB3 hbx3 hgl3 hbO hsO hxbl hO HD HT
  -- the two ways to end
  have BAD : Hid (parseS s.data.toList = none → ∀ W, Below w3.heap.size w3 W → PsPost s w (.returned (.tuple #[.agg #[.int .i64 0, .int .i64 0, .int .i64 0, .slice none 0 0, .int .i64 0, .slice none 0 0, .slice none 0 0], .int .i64 1])) (put7 W w.heap.size (tleaf 0 0))) :=
    fun hp W hW => ⟨tleaf 0 0, 1, rfl, tleaf_in _ _ _, tleaf_nb _ _ (by omega), put7_below (HE.out W hW).2.1, .inr (.inl ⟨hs, hp, rfl, rfl⟩)⟩
  have HPS : Hid (parseS s.data.toList = match readTm (ws.length + 1) ws with | some (t, []) => if goodM 0 t = true then some t else none | _ => none) := by show _ = _; rw [parseS, HWS.out]
  cases b' with
  | true =>
    have hpn : parseS s.data.toList = none := by
      have ho : readTm (ws.length + 1) ws = none := by
        rcases HS.out.1 with ⟨_, h⟩ | ⟨h, _⟩
        · cases h
        · exact Option.map_eq_none_iff.1 h
      rw [HPS.out, ho]
    obtain ⟨O, hO⟩ : ∃ O, O = Obj.cells #[.int .i64 x.k, .int .i64 x.n, .int .i64 x.t.k, .slice x.t.a x.t.l.length x.t.c, .int .i64 x.f.k, .slice x.f.a x.f.l.length x.f.c, .slice x.a x.l.length x.c] 27 := ⟨_, rfl⟩
    have HF : Hid _ := BAD.out hpn (w3.alloc O) (hbx O)
    have hbxO := (HE.out _ (hbx O)).1
    have HGT : Hid _ := put7_gets (x := tleaf 0 0) hbxO
    have h7 := hbxO.at7
    have c0 := h7.c0
    have c1 := h7.c1
    have c2 := h7.c2
    have c3 := h7.c3
    have c4 := h7.c4
    have c5 := h7.c5
    have c6 := h7.c6
    simp only [Nat.zero_add, tleaf] at c0 c1 c2 c3 c4 c5 c6
    have f0 := hbxO.fz 0 (by omega)
    have f1 := hbxO.fz 1 (by omega)
    have f2 := hbxO.fz 2 (by omega)
    have f3 := hbxO.fz 3 (by omega)
    have f4 := hbxO.fz 4 (by omega)
    have f5 := hbxO.fz 5 (by omega)
    have f6 := hbxO.fz 6 (by omega)
    subst hO
    clear hbxO h7 hpn BAD hbx HS HPS HGL
    go_wp2_with fail
    refine bodyPost_ret (v := .tuple #[.agg #[.int .i64 0, .int .i64 0, .int .i64 0, .slice none 0 0, .int .i64 0, .slice none 0 0, .slice none 0 0], .int .i64 1]) ?_ rfl HF.out
    obtain ⟨d0, d1, d2, d3, d4, d5, d6⟩ := HGT.out
    simp only [tleaf, List.length_nil] at d0 d1 d2 d3 d4 d5 d6
    simp [results, Tryz.results16, go_sem, d0, d1, d2, d3, d4, d5, d6]
  | false =>
    obtain ⟨p, hp, hp2⟩ : ∃ p, readTm (ws.length + 1) ws = some p ∧ p.2 = ws' := by
      rcases HS.out.1 with ⟨h, _⟩ | ⟨_, _, h⟩
      · exact Option.map_eq_some_iff.1 h
      · cases h
    have hxt : x.tm = p.1 := HS.out.2 p hp
    have hnb : x.nb := TT.nb_tm (hxt ▸ readTm_nb _ _ _ hp)
    obtain ⟨O, hO⟩ : ∃ O, O = Obj.cells #[.int .i64 x.k, .int .i64 x.n, .int .i64 x.t.k, .slice x.t.a x.t.l.length x.t.c, .int .i64 x.f.k, .slice x.f.a x.f.l.length x.f.c, .slice x.a x.l.length x.c] 27 := ⟨_, rfl⟩
    cases ws' with
    | cons y r' =>
      have hpn : parseS s.data.toList = none := by
        obtain ⟨p1, p2⟩ := p
        dsimp only at hp2
        subst hp2
        rw [HPS.out, hp]
      have i2 : (0 : Int) < (((y :: r').length : Nat) : Int) := by simp
      have HF : Hid _ := BAD.out hpn (w3.alloc O) (hbx O)
      have hbxO := (HE.out _ (hbx O)).1
      have HGT : Hid _ := put7_gets (x := tleaf 0 0) hbxO
      have h7 := hbxO.at7
      have c0 := h7.c0
      have c1 := h7.c1
      have c2 := h7.c2
      have c3 := h7.c3
      have c4 := h7.c4
      have c5 := h7.c5
      have c6 := h7.c6
      simp only [Nat.zero_add, tleaf] at c0 c1 c2 c3 c4 c5 c6
      have f0 := hbxO.fz 0 (by omega)
      have f1 := hbxO.fz 1 (by omega)
      have f2 := hbxO.fz 2 (by omega)
      have f3 := hbxO.fz 3 (by omega)
      have f4 := hbxO.fz 4 (by omega)
      have f5 := hbxO.fz 5 (by omega)
      have f6 := hbxO.fz 6 (by omega)
      subst hO
      have HP : Hid (readTm (ws.length + 1) ws = some p ∧ p.2 = y :: r' ∧ x.tm = p.1) := ⟨hp, hp2, hxt⟩
      clear hbxO h7 hpn BAD hbx HS HPS HGL hp hp2 hxt hnb HP
      go_wp2_with fail
      refine bodyPost_ret (v := .tuple #[.agg #[.int .i64 0, .int .i64 0, .int .i64 0, .slice none 0 0, .int .i64 0, .slice none 0 0, .slice none 0 0], .int .i64 1]) ?_ rfl HF.out
      obtain ⟨d0, d1, d2, d3, d4, d5, d6⟩ := HGT.out
      simp only [tleaf, List.length_nil] at d0 d1 d2 d3 d4 d5 d6
      simp [results, Tryz.results16, go_sem, d0, d1, d2, d3, d4, d5, d6]
    | nil =>
      have hps : parseS s.data.toList = if goodM 0 x.tm = true then some x.tm else none := by
        obtain ⟨p1, p2⟩ := p
        dsimp only at hp2 hxt
        subst hp2 hxt
        rw [HPS.out, hp]
      have HPP : Hid (parseS s.data.toList = if goodM 0 x.tm = true then some x.tm else none) := hps
      have HGD : Hid (Calls Tryz.prog 9 #[.agg #[.int .i64 x.k, .int .i64 x.n, .int .i64 x.t.k, .slice x.t.a x.t.l.length x.t.c, .int .i64 x.f.k, .slice x.f.a x.f.l.length x.f.c, .slice x.a x.l.length x.c], .int .i64 0] (w3.alloc O) fun e w' => e = .returned (.bool (goodM 0 x.tm)) ∧ Below (w3.alloc O).heap.size (w3.alloc O) w') := goodTm_any x 0 _ (HGL.out.below (hbx O)).gp (HE.out _ (hbx O)).2.2.1 hnb
      have i2 : ¬ (0 : Int) < ((([] : List ByteArray).length : Nat) : Int) := by simp
      simp only [List.length_nil] at hrc
      have e0 : ((0 : Nat) : Int) = 0 := rfl
      obtain ⟨g, hgd⟩ : ∃ g, goodM 0 x.tm = g := ⟨_, rfl⟩
      rw [hgd] at HGD
      have HGG : Hid (goodM 0 x.tm = g) := hgd
      have HNB : Hid x.nb := hnb
      have hBO := hbx O
      have HBO : Hid (Below w3.heap.size w3 (w3.alloc O)) := hBO
      have hbt : At7 (w3.alloc O) w3.heap.size 0 x := by subst hO; constructor <;> simp [go_sem]
      have HBT : Hid (At7 (w3.alloc O) w3.heap.size 0 x) := hbt
      have hnm : w3.heap.size < (w3.alloc O).heap.size := by simp
      clear hp hp2 hxt hps hgd hnb hBO hbt HS HPS hbx HGL
      subst hO
      go_wp2_with fail
      refine HGD.out.mono ?_
      rintro e w5 ⟨rfl, hb5⟩
      have hW5 : Below w3.heap.size w3 w5 := HBO.out.trans (hb5.mono HBO.out.size)
      have hbt5 := HBT.out.below hb5
      clear hb5 HGD
      cases g with
      | false =>
        have hpn : parseS s.data.toList = none := by rw [HPP.out, HGG.out]; rfl
        have HF : Hid _ := BAD.out hpn w5 hW5
        have hbxO := (HE.out _ hW5).1
        have HGT : Hid _ := put7_gets (x := tleaf 0 0) hbxO
        have h7 := hbxO.at7
        have c0 := h7.c0
        have c1 := h7.c1
        have c2 := h7.c2
        have c3 := h7.c3
        have c4 := h7.c4
        have c5 := h7.c5
        have c6 := h7.c6
        simp only [Nat.zero_add, tleaf] at c0 c1 c2 c3 c4 c5 c6
        have f0 := hbxO.fz 0 (by omega)
        have f1 := hbxO.fz 1 (by omega)
        have f2 := hbxO.fz 2 (by omega)
        have f3 := hbxO.fz 3 (by omega)
        have f4 := hbxO.fz 4 (by omega)
        have f5 := hbxO.fz 5 (by omega)
        have f6 := hbxO.fz 6 (by omega)
        clear hbxO h7 hpn BAD hW5 hbt5
        go_wp2_with fail
        refine bodyPost_ret (v := .tuple #[.agg #[.int .i64 0, .int .i64 0, .int .i64 0, .slice none 0 0, .int .i64 0, .slice none 0 0, .slice none 0 0], .int .i64 1]) ?_ rfl HF.out
        obtain ⟨d0, d1, d2, d3, d4, d5, d6⟩ := HGT.out
        simp only [tleaf, List.length_nil] at d0 d1 d2 d3 d4 d5 d6
        simp [results, Tryz.results16, go_sem, d0, d1, d2, d3, d4, d5, d6]
      | true =>
        have hpy : parseS s.data.toList = some x.tm := by rw [HPP.out, HGG.out]; rfl
        obtain ⟨hbxO, hBw, hxi, hxb⟩ := HE.out _ hW5
        have HF : Hid (PsPost s w (.returned (.tuple #[.agg #[.int .i64 x.k, .int .i64 x.n, .int .i64 x.t.k, .slice x.t.a x.t.l.length x.t.c, .int .i64 x.f.k, .slice x.f.a x.f.l.length x.f.c, .slice x.a x.l.length x.c], .int .i64 0])) (put7 w5 w.heap.size x)) :=
          ⟨x, 0, rfl, hxi.keptR put7_kept (hxb.mono fun b hb => by omega), HNB.out, put7_below hBw, .inr (.inr ⟨hs, hpy, rfl⟩)⟩
        have HGT : Hid _ := put7_gets (x := x) hbxO
        have t0 := hbt5.c0
        have t1 := hbt5.c1
        have t2 := hbt5.c2
        have t3 := hbt5.c3
        have t4 := hbt5.c4
        have t5 := hbt5.c5
        have t6 := hbt5.c6
        simp only [Nat.zero_add] at t0 t1 t2 t3 t4 t5 t6
        have h7 := hbxO.at7
        have c0 := h7.c0
        have c1 := h7.c1
        have c2 := h7.c2
        have c3 := h7.c3
        have c4 := h7.c4
        have c5 := h7.c5
        have c6 := h7.c6
        simp only [Nat.zero_add, tleaf] at c0 c1 c2 c3 c4 c5 c6
        have f0 := hbxO.fz 0 (by omega)
        have f1 := hbxO.fz 1 (by omega)
        have f2 := hbxO.fz 2 (by omega)
        have f3 := hbxO.fz 3 (by omega)
        have f4 := hbxO.fz 4 (by omega)
        have f5 := hbxO.fz 5 (by omega)
        have f6 := hbxO.fz 6 (by omega)
        clear hbxO h7 hpy BAD hW5 hbt5 hBw hxi hxb
        go_wp2_with fail
        refine bodyPost_ret (v := .tuple #[.agg #[.int .i64 x.k, .int .i64 x.n, .int .i64 x.t.k, .slice x.t.a x.t.l.length x.t.c, .int .i64 x.f.k, .slice x.f.a x.f.l.length x.f.c, .slice x.a x.l.length x.c], .int .i64 0]) ?_ rfl HF.out
        obtain ⟨d0, d1, d2, d3, d4, d5, d6⟩ := HGT.out
        simp [results, Tryz.results16, go_sem, d0, d1, d2, d3, d4, d5, d6]

/-- term.Parse. -/
theorem parse_any (s : ByteArray) (hm : s.size ≤ 9223372036854775807) (w : World) (hg : Gl w) : Calls Tryz.prog 16 #[.string s] w (PsPost s w) := by
  by_cases hs : s.size ≤ 1000
  · exact parse_short s hs w hg
  · exact parse_long s (by omega) hm w
end Go.Proofs.YtnddkmccagiclaaGreatDoor

/-
  A good term's text is read as it: the plain mathematics; no program in it.
-/
namespace Go.Proofs.YtnddkmccagiclaaGreatDoor
open Go.RowKit

theorem tok_all (n : Nat) (l : List Tm) (hl : ∀ y, y ∈ l → ∀ rest, delim rest → tokW [] (tmText n y ++ rest) = tmWords n y ++ tokW [] rest) :
    ∀ rest, delim rest → tokW [] (l.flatMap (fun y => 32 :: tmText n y) ++ rest) = l.flatMap (fun y => tmWords n y) ++ tokW [] rest := by
  induction l with
  | nil => intro rest _; simp
  | cons x l ih =>
    intro rest hr
    simp only [List.flatMap_cons, List.append_assoc, List.cons_append]
    have hd : delim (l.flatMap (fun y => 32 :: tmText n y) ++ rest) := by
      cases l with
      | nil => simpa using hr
      | cons y l => simp only [List.flatMap_cons, List.cons_append]; exact delim_space _
    rw [tok_space, hl x (by simp) _ hd, ih (fun y hy => hl y (by simp [hy])) rest hr]

theorem bindL_mem {α : Type} {f : α → Nat → Option Nat} {l : List α} {r r' : Nat} (h : bindL f l r = some r') (y : α) (hy : y ∈ l) : ∃ q q', f y q = some q' := by
  obtain ⟨j, hj, rfl⟩ := List.getElem_of_mem hy
  exact bindL_each h j hj

theorem plain_ref (n : Int) : plainW (35 :: Lib.itoa n) := by
  refine ⟨by simp, fun c hc => ?_⟩
  rcases List.mem_cons.1 hc with rfl | hc
  · decide
  · exact (plain_itoa n).2 c hc

theorem tok_tm : ∀ (n : Nat) (ins : Int) (x : Tm) (r r' : Nat), goodS 0 n ins x r = some r' → ∀ rest, delim rest → tokW [] (tmText n x ++ rest) = tmWords n x ++ tokW [] rest
  | 0, ins, x, r, r', h => by simp [goodS] at h
  | n + 1, ins, x, r, r', h => by
    intro rest hr
    obtain ⟨m, q, hm, rfl, hok, hb⟩ := goodS_top h
    obtain rfl : n = m := by omega
    obtain ⟨h1, h9, hl, hty, hnum⟩ := okTop_parts hok
    simp only [tmText, tmWords]
    by_cases k1 : x.k = 1
    · rw [if_pos k1, if_pos k1, tok_plain _ _ (plain_ref x.n) hr]; rfl
    · rw [if_neg k1, if_neg k1]
      by_cases k2 : x.k = 2
      · rw [if_pos k2, if_pos k2, tok_plain _ _ (plain_itoa x.n) hr]; rfl
      · rw [if_neg k2, if_neg k2]
        by_cases k3 : x.k = 3
        · rw [if_pos k3, if_pos k3, tok_plain _ _ (plain_truth x.n) hr]; rfl
        · rw [if_neg k3, if_neg k3]
          have hall := tok_all n x.l (fun y hy => by
            obtain ⟨q1, q2, hq⟩ := bindL_mem hb y hy
            exact tok_tm n _ y q1 q2 hq) (41 :: rest) (delim_close _)
          have hd : delim (x.l.flatMap (fun y => 32 :: tmText n y) ++ (41 :: rest)) := by
            cases x.l with
            | nil => exact delim_close _
            | cons y l => simp only [List.flatMap_cons, List.cons_append]; exact delim_space _
          simp only [List.cons_append, List.nil_append, List.append_assoc]
          rw [tok_open]
          by_cases ht : tells x.k = true
          · simp only [okTypes, Bool.and_eq_true] at hty
            rw [ht, if_pos rfl] at hty
            rw [if_pos ht, if_pos ht, List.cons_append, tok_plain _ _ (plain_kind x.k) (delim_space _), tok_space, tok_ty 4 x.t _ hty.2 hd, hall]
            rw [tok_close]
          · rw [if_neg ht, if_neg ht, List.nil_append, tok_plain _ _ (plain_kind x.k) hd, hall, tok_close]
            rfl

/-! ### Reading -/

theorem bw_ne {a b : List UInt8} (h : a ≠ b) : bw a ≠ bw b := fun e => h (bw_inj e)

theorem read_ty : ∀ (n N : Nat) (t : Ty) (rest : List ByteArray), goodY n t = true → (tyWords n t).length ≤ N → readTy N ((tyWords n t).map bw ++ rest) = some (t, rest)
  | 0, N, t, rest, h, _ => by simp [goodY] at h
  | n + 1, N, ⟨k, l⟩, rest, h, hN => by
    match l, h with
    | [], h =>
      have hk : k = 0 ∨ k = 1 ∨ k = 2 := by simpa [goodY, or_assoc] using h
      have hk3 : k ≠ 3 := by omega
      simp only [tyWords, if_neg hk3, List.length_cons, List.length_nil] at hN ⊢
      obtain ⟨M, rfl⟩ : ∃ M, N = M + 1 := ⟨N - 1, by omega⟩
      simp only [List.map_cons, List.map_nil, List.cons_append, List.nil_append, readTy]
      rcases hk with rfl | rfl | rfl
      · rfl
      · rfl
      · rfl
    | [x], h => simp [goodY] at h
    | x :: y :: z :: s, h => simp [goodY] at h
    | [x, y], h =>
      simp only [goodY, Bool.and_eq_true, beq_iff_eq] at h
      obtain ⟨⟨rfl, hx⟩, hy⟩ := h
      have e : tyWords (n + 1) ⟨3, [x, y]⟩ = [[40], [116, 111]] ++ tyWords n x ++ tyWords n y ++ [[41]] := by simp [tyWords]
      rw [e] at hN ⊢
      simp only [List.length_append, List.length_cons, List.length_nil] at hN
      obtain ⟨M, rfl⟩ : ∃ M, N = M + 1 := ⟨N - 1, by omega⟩
      simp only [List.map_append, List.map_cons, List.map_nil, List.append_assoc, List.cons_append, List.nil_append]
      have e1 : bw [40] = opB := rfl
      have e2 : bw [116, 111] = toB := rfl
      have e3 : bw [41] = clB := rfl
      rw [e1, e2, e3, readTy, if_pos rfl]
      simp only [behind, if_true, Option.bind_some]
      rw [read_ty n M x _ hx (by omega)]
      simp only [Option.bind_some]
      rw [read_ty n M y _ hy (by omega)]
      simp

theorem read_all (f : List ByteArray → Option (Tm × List ByteArray)) (g : Tm → List (List UInt8)) : ∀ (l : List Tm), (∀ y, y ∈ l → ∀ rest, f ((g y).map bw ++ rest) = some (y, rest)) → ∀ rest, readN f l.length ((l.flatMap g).map bw ++ rest) = some (l, rest)
  | [], _, rest => by simp [readN]
  | x :: l, h, rest => by
    simp only [List.length_cons, readN, List.flatMap_cons, List.map_append, List.append_assoc]
    rw [h x (by simp)]
    simp only [Option.bind_some]
    rw [read_all f g l (fun y hy => h y (by simp [hy])) rest]
    rfl

theorem itoa_word (n : Int) (w : List UInt8) (c : UInt8) (hw : w.head? = some c) (hc : ¬ (c = 45 ∨ (48 ≤ c.toNat ∧ c.toNat ≤ 57))) : Lib.itoa n ≠ w := by
  intro e
  have h := itoa_are n
  cases hi : Lib.itoa n with
  | nil => exact h.1 hi
  | cons d r =>
    rw [← e, hi] at hw
    simp only [List.head?_cons, Option.some.injEq] at hw
    subst hw
    exact hc (h.2 d (by rw [hi]; simp))

theorem read_word_ref (n : Int) (h0 : -1000000 ≤ n) (h1 : n ≤ 1000000) (r : List ByteArray) : readWord (bw (35 :: Lib.itoa n)) r = some (⟨1, n, anyY, anyY, []⟩, r) := by
  have e1 : atWord (bw (35 :: Lib.itoa n)) truthWs 0 = none := by
    have a : (⟨#[110, 111]⟩ : ByteArray) ≠ bw (35 :: Lib.itoa n) := fun e => by have := bw_inj (a := [110, 111]) e; cases this
    have b : (⟨#[121, 101, 115]⟩ : ByteArray) ≠ bw (35 :: Lib.itoa n) := fun e => by have := bw_inj (a := [121, 101, 115]) e; cases this
    simp [atWord, truthWs, a, b]
  simp only [readWord, e1, bw_data]
  have e2 : (⟨(Lib.itoa n).toArray⟩ : ByteArray) = bw (Lib.itoa n) := rfl
  rw [e2, num_itoa n h0 h1]
  rfl

theorem read_word_lit (n : Int) (h0 : -1000000 ≤ n) (h1 : n ≤ 1000000) (r : List ByteArray) : readWord (bw (Lib.itoa n)) r = some (⟨2, n, anyY, anyY, []⟩, r) := by
  have e1 : atWord (bw (Lib.itoa n)) truthWs 0 = none := by
    have a : (⟨#[110, 111]⟩ : ByteArray) ≠ bw (Lib.itoa n) := fun e => itoa_word n [110, 111] 110 rfl (by decide) (bw_inj (a := [110, 111]) e).symm
    have b : (⟨#[121, 101, 115]⟩ : ByteArray) ≠ bw (Lib.itoa n) := fun e => itoa_word n [121, 101, 115] 121 rfl (by decide) (bw_inj (a := [121, 101, 115]) e).symm
    simp [atWord, truthWs, a, b]
  simp only [readWord, e1, bw_data]
  cases hi : Lib.itoa n with
  | nil => exact absurd hi (itoa_are n).1
  | cons c d =>
    have hc : c ≠ 35 := (num_sign c ((itoa_are n).2 c (by rw [hi]; simp))).2.2.1
    split
    · rename_i heq; cases heq; exact absurd rfl hc
    · rw [← hi, num_itoa n h0 h1]
      rfl

theorem read_word_truth (n : Int) (h : n = 0 ∨ n = 1) (r : List ByteArray) : readWord (bw (truthW n)) r = some (⟨3, n, anyY, anyY, []⟩, r) := by
  rcases h with rfl | rfl <;> rfl

theorem kindAt_word (k : Int) (h4 : 4 ≤ k) (h9 : k ≤ 9) : kindAt (bw (kindW k)) = some k.toNat := by
  obtain rfl | rfl | rfl | rfl | rfl | rfl : k = 4 ∨ k = 5 ∨ k = 6 ∨ k = 7 ∨ k = 8 ∨ k = 9 := by omega
  all_goals rfl

theorem words_pos (n : Nat) (x : Tm) (ins : Int) (r r' : Nat) (h : goodS 0 n ins x r = some r') : 1 ≤ (tmWords n x).length := by
  obtain ⟨m, q, rfl, rfl, hok, hb⟩ := goodS_top h
  simp only [tmWords]
  repeat' split
  all_goals simp

theorem read_tm : ∀ (n N : Nat) (ins : Nat) (x : Tm) (r r' : Nat), ins + n ≤ 1000 → goodS 0 n (ins : Int) x r = some r' → (tmWords n x).length ≤ N → ∀ rest, readTm N ((tmWords n x).map bw ++ rest) = some (x, rest)
  | 0, N, ins, x, r, r', _, h => by simp [goodS] at h
  | n + 1, N, ins, x, r, r', hi, h => by
    intro hN rest
    obtain ⟨m, q, hm, rfl, hok, hb⟩ := goodS_top h
    obtain rfl : n = m := by omega
    obtain ⟨h1, h9, hl, hty, hnum⟩ := okTop_parts hok
    have hbd := okNum_bound (by omega) hnum
    have hwp := words_pos (n + 1) x _ _ _ h
    obtain ⟨M, rfl⟩ : ∃ M, N = M + 1 := ⟨N - 1, by omega⟩
    obtain ⟨k, v, t, f, l⟩ := x
    dsimp only at h1 h9 hl hty hnum hbd hb ⊢
    simp only [okTypes, Bool.and_eq_true] at hty
    have hf := isAny_eq hty.1
    subst hf
    have leafT : tells k = false → t = anyY := fun ht => by
      have := hty.2
      rw [ht, if_neg (by simp)] at this
      exact isAny_eq this
    have leafL : partsOf k = 0 → l = [] := fun hp => List.length_eq_zero_iff.1 (hl.trans hp)
    by_cases k1 : k = 1
    · subst k1
      have e : tmWords (n + 1) ⟨1, v, t, anyY, l⟩ = [35 :: Lib.itoa v] := by simp [tmWords]
      rw [e, leafT rfl, leafL rfl]
      simp only [List.map_cons, List.map_nil, List.cons_append, List.nil_append]
      rw [readTm_word _ _ _ (bw_ne (b := [40]) (by simp)), read_word_ref v hbd.1 hbd.2]
    · by_cases k2 : k = 2
      · subst k2
        have e : tmWords (n + 1) ⟨2, v, t, anyY, l⟩ = [Lib.itoa v] := by simp [tmWords]
        rw [e, leafT rfl, leafL rfl]
        simp only [List.map_cons, List.map_nil, List.cons_append, List.nil_append]
        rw [readTm_word _ _ _ (bw_ne (b := [40]) (itoa_word v [40] 40 rfl (by decide))), read_word_lit v hbd.1 hbd.2]
      · by_cases k3 : k = 3
        · subst k3
          have hv : v = 0 ∨ v = 1 := by simpa [okNum] using hnum
          have e : tmWords (n + 1) ⟨3, v, t, anyY, l⟩ = [truthW v] := by simp [tmWords]
          rw [e, leafT rfl, leafL rfl]
          simp only [List.map_cons, List.map_nil, List.cons_append, List.nil_append]
          have hne : truthW v ≠ [40] := by rcases hv with rfl | rfl <;> decide
          rw [readTm_word _ _ _ (bw_ne (b := [40]) hne), read_word_truth v hv]
        · have hv : v = 0 := by simpa [okNum, k1, k2, k3] using hnum
          subst hv
          have h4 : 4 ≤ k := by omega
          have e : tmWords (n + 1) ⟨k, 0, t, anyY, l⟩ = [[40], kindW k] ++ (if tells k = true then tyWords 4 t else []) ++ l.flatMap (fun y => tmWords n y) ++ [[41]] := by simp [tmWords, k1, k2, k3]
          rw [e] at hN ⊢
          simp only [List.length_append, List.length_cons, List.length_nil] at hN
          simp only [List.map_append, List.map_cons, List.map_nil, List.append_assoc, List.cons_append, List.nil_append]
          have e1 : bw [40] = opB := rfl
          have e3 : bw [41] = clB := rfl
          rw [e1, e3, readTm_open]
          have hkt : ((k.toNat : Nat) : Int) = k := by omega
          simp only [inTm, kindAt_word k h4 h9, Option.bind_some, hkt]
          have hrt : ∀ s, readT M k.toNat ((if tells k = true then tyWords 4 t else []).map bw ++ s) = some (t, s) := by
            intro s
            unfold readT
            rw [hkt]
            by_cases ht : tells k = true
            · have hg := hty.2
              rw [ht, if_pos rfl] at hg
              rw [ht]
              simp only [if_true]
              rw [ht] at hN
              simp only [if_true] at hN
              exact read_ty 4 M t s hg (by omega)
            · have ht' : tells k = false := by simpa using ht
              rw [ht']
              simp only [Bool.false_eq_true, if_false, List.map_nil, List.nil_append]
              rw [leafT ht']
          rw [hrt]
          simp only [Option.bind_some]
          have hins : insOf k (ins : Int) = ((if k = 7 then ins + 1 else ins : Nat) : Int) := by unfold insOf; split <;> simp
          rw [hins] at hb
          have hra := read_all (readTm M) (tmWords n) l (fun y hy s => by
            obtain ⟨q1, q2, hq⟩ := bindL_mem hb y hy
            have : (tmWords n y).length ≤ (l.flatMap fun y => tmWords n y).length := mem_len hy
            exact read_tm n M _ y q1 q2 (by split <;> omega) hq (by omega) s) (clB :: rest)
          rw [← hl, hra]
          simp [behind]

/-- A good term's text is read as it. -/
theorem parse_text (x : Tm) (h : goodM 0 x = true) : parseS (tmText 40 x) = some x := by
  obtain ⟨r', hr⟩ := Option.isSome_iff_exists.1 h
  have hr0 : goodS 0 40 ((0 : Nat) : Int) x 40 = some r' := hr
  have hw : wordsOf (tmText 40 x) = (tmWords 40 x).map bw := by
    have := tok_tm 40 0 x 40 r' hr [] (.inl rfl)
    simp only [List.append_nil, tokW, flush, if_true] at this
    rw [wordsOf, this]
  have hread := read_tm 40 ((wordsOf (tmText 40 x)).length + 1) 0 x 40 r' (by omega) hr0 (by rw [hw, List.length_map]; omega) []
  rw [List.append_nil, ← hw] at hread
  rw [parseS, hread]
  simp [h]
end Go.Proofs.YtnddkmccagiclaaGreatDoor

/-
  What the call of chaperonelaw.terms answers.
-/
namespace Go.Proofs.YtnddkmccagiclaaGreatDoor
open Go.RowKit

/-! ### The closed term -/

/-- (fun (to num any) (call #0 7)) -/
def T0 : Tm := ⟨7, 0, ⟨3, [⟨1, []⟩, ⟨0, []⟩]⟩, anyY, [⟨8, 0, anyY, anyY, [⟨1, 0, anyY, anyY, []⟩, ⟨2, 7, anyY, anyY, []⟩]⟩]⟩
def X0 : ByteArray := ⟨#[40, 102, 117, 110, 32, 40, 116, 111, 32, 110, 117, 109, 32, 97, 110, 121, 41, 32, 40, 99, 97, 108, 108, 32, 35, 48, 32, 55, 41, 41]⟩

theorem itoa0 : Lib.itoa 0 = [48] := by
  rw [Lib.itoa, if_neg (by omega)]
  exact Lib.decDigits_one (by omega)
theorem itoa7 : Lib.itoa 7 = [55] := by
  rw [Lib.itoa, if_neg (by omega)]
  exact Lib.decDigits_one (by omega)

theorem isAny_any0 : isAnyY anyY = true := by simp [isAnyY, anyY, relY_mk, relL]

theorem T0_texts (n : Nat) : tmText (n + 1 + 1 + 1) T0 = X0.data.toList := by
  have e : tyText (1 + 1 + 1 + 1) ⟨3, [⟨1, []⟩, ⟨0, []⟩]⟩ = [40, 116, 111, 32, 110, 117, 109, 32, 97, 110, 121, 41] := rfl
  have e4 : tyText 4 ⟨3, [⟨1, []⟩, ⟨0, []⟩]⟩ = [40, 116, 111, 32, 110, 117, 109, 32, 97, 110, 121, 41] := e
  simp [T0, tmText, e4, kindW, tells, itoa0, itoa7, X0]

theorem T0_text : tmText 40 T0 = X0.data.toList := T0_texts 37

theorem T0_step (n r : Nat) : goodS 0 (n + 1 + 1 + 1) 0 T0 (r + 1 + 1 + 1 + 1) = some r := by
  simp [goodS, T0, okTop, okTypes, okNum, tells, partsOf, goodY, isAny_any0, bindL, insOf]

theorem T0_good : goodM 0 T0 = true := congrArg Option.isSome (T0_step 37 36)

theorem T0_size : T0.sz = 4 := by simp [T0, Tm.sz_mk]

theorem X0_parse : parseS X0.data.toList = some T0 := by
  rw [← T0_text]
  exact parse_text T0 T0_good

set_option maxRecDepth 20000 in
set_option maxHeartbeats 2000000 in
/-- chaperonelaw.terms. -/
theorem terms_any (w : World) (hg : Gl w) : Calls Tryz.prog 15 #[] w fun e w' => e = .returned (.bool true) ∧ Below w.heap.size w w' := by
  have HP : Hid (Calls Tryz.prog 16 #[.string ⟨#[40, 102, 117, 110, 32, 40, 116, 111, 32, 110, 117, 109, 32, 97, 110, 121, 41, 32, 40, 99, 97, 108, 108, 32, 35, 48, 32, 55, 41, 41]⟩] w fun e w' => ∃ x : TT, e = .returned (.tuple #[.agg #[.int .i64 x.k, .int .i64 x.n, .int .i64 x.t.k, .slice x.t.a x.t.l.length x.t.c, .int .i64 x.f.k, .slice x.f.a x.f.l.length x.f.c, .slice x.a x.l.length x.c], .int .i64 0]) ∧ x.In w' ∧ x.nb ∧ x.tm = T0 ∧ Below w.heap.size w w') := by
    refine (parse_any X0 (by decide) w hg).mono ?_
    rintro e w' ⟨x, er, rfl, hin, hnb, hb, ⟨h, _⟩ | ⟨_, h, _⟩ | ⟨_, h, rfl⟩⟩
    · exact absurd h (by decide)
    · rw [X0_parse] at h; cases h
    · rw [X0_parse] at h
      exact ⟨x, rfl, hin, hnb, (Option.some.inj h).symm, hb⟩
  have HG : Hid (Gl w) := hg
  clear hg
  go_enter Tryz.func15, Tryz.ntmps15
  go_wp2_with fail
  refine HP.out.mono ?_
  rintro e w1 ⟨x, rfl, hin, hnb, htm, hb1⟩
  have hk7 : x.k = 7 := by rw [← TT.tm_k, htm]; rfl
  have hz4 : x.sz = 4 := by rw [TT.sz_tm, htm, T0_size]
  have hbo : ∀ o, Below w1.heap.size w1 (w1.alloc o) := fun o => (Below.refl _ _).alloc (Nat.le_refl _) _
  have HPR : Hid (∀ o, Calls Tryz.prog 7 #[.agg #[.int .i64 x.k, .int .i64 x.n, .int .i64 x.t.k, .slice x.t.a x.t.l.length x.t.c, .int .i64 x.f.k, .slice x.f.a x.f.l.length x.f.c, .slice x.a x.l.length x.c]] (w1.alloc o) fun e w' => e = .returned (.tuple #[.string ⟨#[40, 102, 117, 110, 32, 40, 116, 111, 32, 110, 117, 109, 32, 97, 110, 121, 41, 32, 40, 99, 97, 108, 108, 32, 35, 48, 32, 55, 41, 41]⟩, .int .i64 0]) ∧ Below (w1.alloc o).heap.size (w1.alloc o) w') := by
    intro o
    refine (print_any x _ ((HG.out.below hb1).below (hbo o)) (hin.below (hbo o)) hnb).mono ?_
    rintro e w' ⟨s, er, rfl, hb, ⟨h, _⟩ | ⟨_, h, _⟩ | ⟨_, _, rfl, rfl⟩⟩
    · rw [htm, T0_good] at h; cases h
    · rw [htm, T0_text] at h; exact absurd h (by decide)
    · refine ⟨?_, hb⟩
      rw [htm, T0_text]
      rfl
  have HND : Hid (∀ W, x.In W → Calls Tryz.prog 11 #[.agg #[.int .i64 x.k, .int .i64 x.n, .int .i64 x.t.k, .slice x.t.a x.t.l.length x.t.c, .int .i64 x.f.k, .slice x.f.a x.f.l.length x.f.c, .slice x.a x.l.length x.c]] W fun e w' => e = .returned (.int .i64 4) ∧ Below W.heap.size W w') := by
    intro W hW
    have := nodes_any x W hW (by omega)
    rw [hz4] at this
    exact this
  have HK : Hid (x.k = 7) := hk7
  have e7 : (x.k == 7) = true := by simp [hk7]
  have HI : Hid (x.In w1 ∧ Below w.heap.size w w1) := ⟨hin, hb1⟩
  clear hk7 hz4 htm hin hnb hb1 hbo HP HG
  go_wp2_with fail
  refine (HPR.out _).mono ?_
  rintro e w2 ⟨rfl, hb2⟩
  have h7 : At7 w2 w1.heap.size 0 x := At7.below hb2 (by constructor <;> simp [go_sem])
  have hbw : Below w1.heap.size w1 w2 := ((Below.refl _ _).alloc (Nat.le_refl _) _).trans (hb2.mono (by simp))
  have c0 := h7.c0
  have c1 := h7.c1
  have c2 := h7.c2
  have c3 := h7.c3
  have c4 := h7.c4
  have c5 := h7.c5
  have c6 := h7.c6
  simp only [Nat.zero_add] at c0 c1 c2 c3 c4 c5 c6
  have HN2 : Hid (Calls Tryz.prog 11 #[.agg #[.int .i64 x.k, .int .i64 x.n, .int .i64 x.t.k, .slice x.t.a x.t.l.length x.t.c, .int .i64 x.f.k, .slice x.f.a x.f.l.length x.f.c, .slice x.a x.l.length x.c]] w2 fun e w' => e = .returned (.int .i64 4) ∧ Below w2.heap.size w2 w') := HND.out w2 (HI.out.1.below hbw)
  have HB2 : Hid (Below w.heap.size w w2) := HI.out.2.trans (hbw.mono HI.out.2.size)
  clear h7 hb2 hbw HPR HND
  go_wp2_with fail
  refine HN2.out.mono ?_
  rintro e w3 ⟨rfl, hb3⟩
  have HB3 : Hid (Below w.heap.size w w3) := HB2.out.trans (hb3.mono HB2.out.size)
  clear hb3 c0 c1 c2 c3 c4 c5 c6
  go_wp2_with fail
  go_ret
  exact ⟨rfl, HB3.out⟩
end Go.Proofs.YtnddkmccagiclaaGreatDoor

/-
  How great the type of a term is at most; no program in it.
-/
namespace Go.Proofs.YtnddkmccagiclaaGreatDoor

def Ty.sz : Ty → Nat
  | ⟨_, l⟩ => (l.map fun t => t.sz).sum + 1
theorem Ty.sz_mk (k : Int) (l : List Ty) : (Ty.mk k l).sz = (l.map Ty.sz).sum + 1 := by
  rw [Ty.sz]

theorem Tr.sz_ty (t : Tr) : t.sz = t.ty.sz := by
  induction t using Tr.ind with
  | h k a c l ih =>
    rw [Tr.ty_mk, Tr.sz_mk, Ty.sz_mk, List.map_map]
    have : l.map Tr.sz = l.map (Ty.sz ∘ Tr.ty) := List.map_congr_left fun x hx => ih x hx
    rw [this]

theorem goodY_sz : ∀ (n : Nat) (t : Ty), goodY n t = true → t.sz + 1 ≤ 2 ^ n
  | 0, t, h => by simp [goodY] at h
  | n + 1, t, h => by
    have hp : 1 ≤ 2 ^ n := Nat.one_le_two_pow
    rw [Nat.pow_succ]
    rcases goodY_cases h with ⟨k, rfl, _⟩ | ⟨x, y, rfl, hx, hy⟩
    · rw [Ty.sz_mk]; simp; omega
    · have h1 := goodY_sz n x hx
      have h2 := goodY_sz n y hy
      rw [Ty.sz_mk]
      simp only [List.map_cons, List.map_nil, List.sum_cons, List.sum_nil]; omega

theorem sz_leaf (k : Int) : (Ty.mk k []).sz = 1 := by simp [Ty.sz_mk]

theorem join_sz : ∀ (n : Nat) (a b : Ty), goodY n a = true → goodY n b = true → (joinY a b).sz ≤ a.sz
  | 0, a, b, h, _ => by simp [goodY] at h
  | n + 1, a, b, ha, hb => by
    have any1 : ∀ t : Ty, (Ty.mk 0 []).sz ≤ t.sz := fun t => by
      obtain ⟨k, l⟩ := t
      rw [sz_leaf, Ty.sz_mk]; omega
    rcases goodY_cases ha with ⟨k, rfl, hk⟩ | ⟨x, y, rfl, hx, hy⟩
    · rcases goodY_cases hb with ⟨k', rfl, hk'⟩ | ⟨x', y', rfl, hx', hy'⟩
      · rw [joinY_mk]
        split
        · simp [joinL]
        · exact any1 _
      · have e : k ≠ 3 := by omega
        rw [joinY_mk, if_neg e]
        exact any1 _
    · rcases goodY_cases hb with ⟨k', rfl, hk'⟩ | ⟨x', y', rfl, hx', hy'⟩
      · have e : (3 : Int) ≠ k' := by omega
        rw [joinY_mk, if_neg e]
        exact any1 _
      · rw [join_two, Ty.sz_mk, Ty.sz_mk]
        have h1 := join_sz n x x' hx hx'
        have h2 := join_sz n y y' hy hy'
        simp only [List.map_cons, List.map_nil, List.sum_cons, List.sum_nil]
        omega

theorem getD_sz {M : Nat} {l : List Ty} (h : ∀ u, u ∈ l → u.sz ≤ M) (hM : 1 ≤ M) (j : Nat) : (l.getD j ⟨0, []⟩).sz ≤ M := by
  rw [List.getD_eq_getElem?_getD]
  cases hj : l[j]? with
  | none => simpa [sz_leaf] using hM
  | some u => exact h u (List.mem_of_getElem? hj)

theorem rule_sz {k n : Int} {t : Ty} {ps takes : List Ty} {i : Ty} {us : List Ty} (m M : Nat) (h1 : 1 ≤ k) (h9 : k ≤ 9) (ht : goodY 4 t = true) (hT : ∀ u, u ∈ takes → goodY 4 u = true) (hm : 1 ≤ m) (hp : ∀ u, u ∈ ps → goodY m u = true) (hpM : ∀ u, u ∈ ps → u.sz ≤ M)
    (h : ruleY k n t ps takes = some (i, us)) : i.sz ≤ M + 17 := by
  have hk : k = 1 ∨ k = 2 ∨ k = 3 ∨ k = 4 ∨ k = 5 ∨ k = 6 ∨ k = 7 ∨ k = 8 ∨ k = 9 := by omega
  have s4 : ∀ u, goodY 4 u = true → u.sz ≤ 15 := fun u hu => by have := goodY_sz 4 u hu; omega
  have hpd : ∀ j, (ps.getD j ⟨0, []⟩).sz ≤ M + 1 := fun j => getD_sz (fun u hu => by have := hpM u hu; omega) (by omega) j
  rcases hk with rfl | rfl | rfl | rfl | rfl | rfl | rfl | rfl | rfl
  · have h' : some (takes.getD n.toNat ⟨0, []⟩, []) = some (i, us) := by simpa [ruleY] using h
    cases h'
    have := getD_sz (M := 15) (fun u hu => s4 u (hT u hu)) (by omega) n.toNat
    omega
  · simp [ruleY] at h
    rw [← h.1, sz_leaf]; omega
  · simp [ruleY] at h
    rw [← h.1, sz_leaf]; omega
  · simp [ruleY] at h
    rw [← h.1, sz_leaf]; omega
  · simp [ruleY] at h
    rw [← h.1, sz_leaf]; omega
  · have h' : ifY ⟨2, []⟩ (ps.getD 1 ⟨0, []⟩) (ps.getD 2 ⟨0, []⟩) = some (i, us) := by simpa [ruleY] using h
    unfold ifY at h'
    split at h'
    · cases h'
      have := join_sz m _ _ (getD_good hp hm 1) (getD_good hp hm 2)
      have := hpd 1
      omega
    · cases h'
  · have h' : some (Ty.mk 3 [t, ps.getD 0 ⟨0, []⟩], ps) = some (i, us) := by simpa [ruleY] using h
    cases h'
    rw [Ty.sz_mk]
    have := s4 t ht
    have h0 : ps = [] ∨ ∃ u, u ∈ ps ∧ ps.getD 0 ⟨0, []⟩ = u := by
      cases ps with
      | nil => exact .inl rfl
      | cons a r => exact .inr ⟨a, by simp, by simp⟩
    rcases h0 with rfl | ⟨u, hu, e⟩
    · simp [sz_leaf]; omega
    · rw [e]
      have := hpM u hu
      simp only [List.map_cons, List.map_nil, List.sum_cons, List.sum_nil]
      omega
  · have h' : callY (ps.getD 0 ⟨0, []⟩) = some (i, us) := by simpa [ruleY] using h
    have hs := hpd 0
    have hg := getD_good hp hm 0
    generalize ps.getD 0 ⟨0, []⟩ = q at h' hs hg
    obtain ⟨m, rfl⟩ : ∃ r, m = r + 1 := ⟨m - 1, by omega⟩
    rcases goodY_cases hg with ⟨k, rfl, hk⟩ | ⟨x, y, rfl, hx, hy⟩
    · rcases hk with rfl | rfl | rfl
      · simp [callY] at h'
        rw [← h'.1, sz_leaf]; omega
      · simp [callY] at h'
      · simp [callY] at h'
    · simp [callY] at h'
      rw [Ty.sz_mk] at hs
      simp only [List.map_cons, List.map_nil, List.sum_cons, List.sum_nil] at hs
      rw [← h'.1]
      omega
  · have h' : some (t, [t]) = some (i, us) := by simpa [ruleY] using h
    cases h'
    have := s4 _ ht
    omega

/-- A type is not much greater than its term. -/
theorem read_sz : ∀ (x : Tm) (takes : List Ty) (c : Nat) (y : Tm) (i : Ty), okTm x takes.length → (∀ u, u ∈ takes → goodY 4 u = true) → readS x takes c = some (y, i) → i.sz ≤ 17 * x.sz := by
  intro x
  induction x using Tm.ind with
  | h k n t f l ih =>
    intro takes c y i hok hT h
    obtain ⟨h0, h1⟩ := okTm_mk.1 hok
    obtain ⟨k1, k9, hl, _, ht, _, _⟩ := okTop_all h0
    obtain ⟨ps, us, e1, e2, _, _⟩ := readS_some h
    have hlen := readL_length _ _ _ _ e1
    have hp : ∀ u, u ∈ ps.map (fun p => p.2.2) → goodY ((l.map Tm.sz).sum + 4) u = true ∧ u.sz ≤ 17 * (l.map Tm.sz).sum := by
      intro u hu
      obtain ⟨j, hj, rfl⟩ := List.getElem_of_mem hu
      have hj' : j < ps.length := by simpa using hj
      have := readL_all (Q := fun x _ _ i => goodY (x.sz + 4) i = true ∧ i.sz ≤ 17 * x.sz) l _ ps e1 (fun x hx c y i hr => ⟨read_good x _ c y i (by rw [takesIn_length]; exact h1 x hx) (takesIn_good ht hT) hr, ih x hx _ c y i (by rw [takesIn_length]; exact h1 x hx) (takesIn_good ht hT) hr⟩) j hj' (by omega)
      have hs := sz_mem l l[j] (List.getElem_mem _)
      have h2 := goodY_more _ ((l.map Tm.sz).sum + 4) _ (by omega) this.1
      have h3 : (ps[j].2.2).sz ≤ 17 * (l.map Tm.sz).sum := by have := this.2; omega
      simpa using And.intro h2 h3
    have := rule_sz ((l.map Tm.sz).sum + 4) (17 * (l.map Tm.sz).sum) k1 k9 ht (takesIn_good ht hT) (by omega) (fun u hu => (hp u hu).1) (fun u hu => (hp u hu).2) e2
    rw [Tm.sz_mk]
    omega
end Go.Proofs.YtnddkmccagiclaaGreatDoor
