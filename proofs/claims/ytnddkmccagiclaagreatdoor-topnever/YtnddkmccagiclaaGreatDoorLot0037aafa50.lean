/-
  What the call of term.Parse answers, at any text.
-/
import Derived.Test.YtnddkmccagiclaaGreatDoorLot5a3137c577
import Derived.Test.YtnddkmccagiclaaGreatDoorLotafdfc8828a
import Derived.Test.YtnddkmccagiclaaGreatDoorLot4fc1238a38
import Derived.Test.YtnddkmccagiclaaGreatDoorLot1a1770ec87
import Derived.Test.YtnddkmccagiclaaGreatDoorRows
import Derived.Test.YtnddkmccagiclaaGreatDoorLot5c98e2b2d2
import Derived.ProofKit
import Derived.Deep.Slices
namespace Go.Proofs.YtnddkmccagiclaaGreatDoor
open Go.RowKit
/-! ### Numbers of 64 bits; how many words there are, and how long -/
def Tm.nb : Tm → Prop
  | ⟨_, n, _, _, l⟩ => n ≤ 9223372036854775807 ∧ ∀ x, x ∈ l → x.nb
theorem Tm.nb_mk {k n : Int} {t f : Ty} {l : List Tm} : (Tm.mk k n t f l).nb ↔ n ≤ 9223372036854775807 ∧ ∀ x, x ∈ l → x.nb := by
  rw [Tm.nb]
theorem TT.nb_tm {x : TT} : x.tm.nb → x.nb := by
  induction x using TT.ind with
  | h k n t f a c l ih =>
    intro h
    rw [TT.tm_mk] at h
    obtain ⟨h1, h2⟩ := Tm.nb_mk.1 h
    exact TT.nb_mk.2 ⟨h1, fun x hx => ih x hx (h2 _ (List.mem_map_of_mem hx))⟩
theorem numOf_le {d : ByteArray} {v : Int} (h : numOf d = some v) : v ≤ 9223372036854775807 := by
  unfold numOf at h
  split at h
  · rename_i u hu
    split at h
    · cases h; exact (Lib.atoiAll_bounds hu).2
    · cases h
  · cases h
theorem atWord_le (x : ByteArray) : ∀ (l : List ByteArray) (i k : Nat), atWord x l i = some k → k < i + l.length
  | [], i, k, h => by cases h
  | y :: r, i, k, h => by
    simp only [atWord] at h
    split at h
    · cases h; simp
    · have := atWord_le x r (i + 1) k h
      simp only [List.length_cons]; omega
theorem readWord_nb {x : ByteArray} {r : List ByteArray} {p : Tm × List ByteArray} (h : readWord x r = some p) : p.1.nb := by
  unfold readWord at h
  split at h
  · rename_i b hb
    have := atWord_le x truthWs 0 b hb
    have e : truthWs.length = 2 := rfl
    cases h
    exact Tm.nb_mk.2 ⟨by omega, fun x hx => by cases hx⟩
  · split at h
    · obtain ⟨v, hv, rfl⟩ := Option.map_eq_some_iff.1 h
      exact Tm.nb_mk.2 ⟨numOf_le hv, fun x hx => by cases hx⟩
    · obtain ⟨v, hv, rfl⟩ := Option.map_eq_some_iff.1 h
      exact Tm.nb_mk.2 ⟨numOf_le hv, fun x hx => by cases hx⟩
theorem readN_nb (f : List ByteArray → Option (Tm × List ByteArray)) (hf : ∀ ws p, f ws = some p → p.1.nb) : ∀ (m : Nat) (ws : List ByteArray) (q : List Tm × List ByteArray), readN f m ws = some q → ∀ x, x ∈ q.1 → x.nb
  | 0, ws, q, h => by simp [readN] at h; rw [← h]; intro x hx; cases hx
  | m + 1, ws, q, h => by
    simp only [readN, Option.bind_eq_some_iff, Option.map_eq_some_iff] at h
    obtain ⟨p, hp, q', hq, rfl⟩ := h
    intro x hx
    rcases List.mem_cons.1 hx with rfl | hx
    · exact hf ws p hp
    · exact readN_nb f hf m _ _ hq x hx
theorem readTm_nb : ∀ (n : Nat) (ws : List ByteArray) (p : Tm × List ByteArray), readTm n ws = some p → p.1.nb
  | 0, _, _, h => by simp [readTm] at h
  | n + 1, [], _, h => by simp [readTm] at h
  | n + 1, x :: r, p, h => by
    by_cases hx : x = opB
    · subst hx
      rw [readTm_open] at h
      cases r with
      | nil => cases h
      | cons y r1 =>
        simp only [inTm, Option.bind_eq_some_iff, Option.map_eq_some_iff] at h
        obtain ⟨k, _, p1, h1, q, h2, r4, h3, rfl⟩ := h
        exact Tm.nb_mk.2 ⟨by omega, readN_nb (readTm n) (fun ws p hp => readTm_nb n ws p hp) _ _ _ h2⟩
    · rw [readTm_word n x r hx] at h
      exact readWord_nb h
theorem flush_len (cur : List UInt8) : (flush cur).length ≤ 1 := by unfold flush; split <;> simp
theorem tok_len : ∀ (s cur : List UInt8), (tokW cur s).length ≤ 2 * s.length + 1
  | [], cur => by rw [tokW]; have := flush_len cur; omega
  | c :: r, cur => by
    rw [tokW]
    have h1 := flush_len cur
    split
    · have := tok_len r []
      simp only [List.length_append, List.length_cons]; omega
    · split
      · have := tok_len r []
        simp only [List.length_append, List.length_cons, List.length_nil]; omega
      · have := tok_len r (cur ++ [c])
        simp only [List.length_cons]; omega
theorem tok_small : ∀ (s cur x : List UInt8), x ∈ tokW cur s → x.length ≤ cur.length + s.length + 1
  | [], cur, x, h => by
    rw [tokW, flush] at h
    split at h
    · cases h
    · rcases List.mem_singleton.1 h with rfl; omega
  | c :: r, cur, x, h => by
    have hf : ∀ y, y ∈ flush cur → y.length ≤ cur.length := by
      intro y hy
      rw [flush] at hy
      split at hy
      · cases hy
      · rcases List.mem_singleton.1 hy with rfl; omega
    rw [tokW] at h
    split at h
    · rcases List.mem_append.1 h with h | h
      · have := hf x h; simp only [List.length_cons]; omega
      · have := tok_small r [] x h; simp only [List.length_cons, List.length_nil] at this ⊢; omega
    · split at h
      · rcases List.mem_append.1 h with h | h
        · rcases List.mem_append.1 h with h | h
          · have := hf x h; simp only [List.length_cons]; omega
          · rcases List.mem_singleton.1 h with rfl; simp
        · have := tok_small r [] x h; simp only [List.length_cons, List.length_nil] at this ⊢; omega
      · have := tok_small r (cur ++ [c]) x h
        simp only [List.length_append, List.length_cons, List.length_nil] at this ⊢; omega
theorem words_len (s : List UInt8) (h : s.length ≤ 1000) : (wordsOf s).length ≤ 2001 := by
  rw [wordsOf, List.length_map]; have := tok_len s []; omega
theorem words_small (s : List UInt8) (h : s.length ≤ 1000) : SmW (wordsOf s) := by
  intro x hx
  obtain ⟨y, hy, rfl⟩ := List.mem_map.1 hx
  have := tok_small s [] y hy
  show y.toArray.size ≤ 1000000
  simp at this ⊢
  omega
/-! ### Parse -/
/-- The good term that a text tells. -/
def parseS (s : List UInt8) : Option Tm :=
  match readTm ((wordsOf s).length + 1) (wordsOf s) with
  | some (t, []) => if goodM 0 t = true then some t else none
  | _ => none
def PsPost (s : ByteArray) (w : World) (e : Ending) (w' : World) : Prop :=
  ∃ (x : TT) (er : Int), e = .returned (.tuple #[.agg #[.int .i64 x.k, .int .i64 x.n, .int .i64 x.t.k, .slice x.t.a x.t.l.length x.t.c, .int .i64 x.f.k, .slice x.f.a x.f.l.length x.f.c, .slice x.a x.l.length x.c], .int .i64 er]) ∧ x.In w' ∧ x.nb ∧ Below w.heap.size w w' ∧
    ((1000 < s.size ∧ er = 4 ∧ x = tleaf 0 0) ∨ (s.size ≤ 1000 ∧ parseS s.data.toList = none ∧ er = 1 ∧ x = tleaf 0 0) ∨ (s.size ≤ 1000 ∧ parseS s.data.toList = some x.tm ∧ er = 0))
theorem tleaf_nb (k n : Int) (h : n ≤ 9223372036854775807) : (tleaf k n).nb := TT.nb_mk.2 ⟨h, fun x hx => by cases hx⟩
theorem Kept.lowB {R B : Nat} {u v : World} (h : Kept R none u v) (hR : R ≤ u.heap.size) (hB : B ≤ R) : Below B u v :=
  ⟨h.os, h.tape, h.output, h.size, fun k hk => h.block k (by omega) (by omega) (by simp)⟩
/-- The result's place is written: what is below it stays. -/
theorem put7_below {w w4 : World} {x : TT} (h : Below w.heap.size w w4) : Below w.heap.size w (put7 w4 w.heap.size x) :=
  h.trans ⟨(put7_kept (x := x)).os, (put7_kept (x := x)).tape, (put7_kept (x := x)).output, (put7_kept (x := x)).size, fun k hk => put7_kept.block k (by have := h.size; omega) (by omega) (by simp)⟩
set_option maxRecDepth 20000 in
set_option maxHeartbeats 1000000 in
theorem parse_long (s : ByteArray) (hs : 1000 < s.size) (hm : s.size ≤ 9223372036854775807) (w : World) :
    Calls Tryz.prog 16 #[.string s] w (PsPost s w) := by
  have hbx := box7_alloc w
  have i1 : (1000 : Int) < (s.size : Int) := by omega
  have HE : Hid (PsPost s w (.returned (.tuple #[.agg #[.int .i64 0, .int .i64 0, .int .i64 0, .slice none 0 0, .int .i64 0, .slice none 0 0, .slice none 0 0], .int .i64 4])) (w7 w)) := ⟨tleaf 0 0, 4, rfl, tleaf_in _ _ _, tleaf_nb _ _ (by omega), w7_below w, .inl ⟨hs, rfl, rfl⟩⟩
  clear hbx
  go_enter Tryz.func16, Tryz.ntmps16
  go_wp2_with fail
  refine bodyPost_ret (v := .tuple #[.agg #[.int .i64 0, .int .i64 0, .int .i64 0, .slice none 0 0, .int .i64 0, .slice none 0 0, .slice none 0 0], .int .i64 4]) ?_ rfl HE.out
  simp [results, Tryz.results16, go_sem]
set_option maxRecDepth 20000 in
set_option maxHeartbeats 4000000 in
theorem parse_short (s : ByteArray) (hs : s.size ≤ 1000) (w : World) (hg : Gl w) :
    Calls Tryz.prog 16 #[.string s] w (PsPost s w) := by
  have i1 : ¬ (1000 : Int) < (s.size : Int) := by omega
  have hsl : s.data.toList.length = s.size := Array.length_toList
  obtain ⟨ws, hws⟩ : ∃ ws, wordsOf s.data.toList = ws := ⟨_, rfl⟩
  have HC : Hid (Calls Tryz.prog 28 #[.string s] (w7 w) fun e w' => ∃ A, e = .returned (.slice (some ⟨A, 0, none⟩) ws.length ws.length) ∧ (w7 w).heap.size ≤ A ∧ w'.ownsRow (w7 w).heap.size 9 1 (.slice (some ⟨A, 0, none⟩) ws.length ws.length) ws.length (ws.map Value.string) ∧ Below (w7 w).heap.size (w7 w) w') := by
    have := cut_any s hs (w7 w) (hg.below (w7_below w))
    rw [hws] at this
    exact this
  have HWL : Hid (ws.length ≤ 2001 ∧ SmW ws) := by rw [← hws]; exact ⟨words_len _ (by omega), words_small _ (by omega)⟩
  have HWS : Hid (wordsOf s.data.toList = ws) := hws
  clear hws
  have HG : Hid (Gl (w7 w)) := hg.below (w7_below w)
  have hgs := hg.size
  have hw7 : (w7 w).heap.size = w.heap.size + 1 := by simp [w7]
  clear hg hsl
  go_enter Tryz.func16, Tryz.ntmps16
  go_wp2_with fail
  refine HC.out.mono ?_
  rintro e w1 ⟨A, rfl, hA, hown, hb1⟩
  have hwl := HWL.out.1
  have hAlt : A < w1.heap.size := by
    rcases hown.2 with ⟨h, _⟩ | ⟨g, cap, cur, h, _, hg, _⟩
    · cases h
    · cases h; exact (Array.getElem?_eq_some_iff.1 hg).1
  have hb0 : Below w.heap.size w w1 := (w7_below w).trans (hb1.mono (by rw [hw7]; omega))
  have hsz1 : w.heap.size + 1 ≤ w1.heap.size := by have := hb1.size; rw [hw7] at this; exact this
  have hbx1 : Box7 w1 w.heap.size (tleaf 0 0) := (box7_alloc w).below hb1
  have hbR : ∀ o, Below w1.heap.size w1 (w1.alloc o) := fun o => (Below.refl _ _).alloc (Nat.le_refl _) _
  have hrs : ∀ o, o = Obj.cells #[.slice (some ⟨A, 0, none⟩) ws.length ws.length, .bool false] 60 → RS w1.heap.size ws false (w1.alloc o) := by
    rintro o rfl
    refine ⟨⟨_, _, by simp [go_sem], Nat.le_refl _, fun _ => ⟨A, 0, rfl, hAlt, fun i x hx => ?_⟩⟩, by simp [go_sem], by simp [go_sem], by simp [go_sem], by omega⟩
    have hi : i < ws.length := (List.getElem?_eq_some_iff.1 hx).1
    rw [(hbR _).cell (p := ⟨A, 0 + i, none⟩) hAlt, Nat.zero_add, hown.cellAt i (by omega), List.getElem?_map, hx]
    rfl
  have HT : Hid (Calls Tryz.prog 29 #[.pointer (some ⟨w1.heap.size, 0, none⟩)] (w1.alloc (.cells #[.slice (some ⟨A, 0, none⟩) ws.length ws.length, .bool false] 60)) (TmPost w1.heap.size false (readTm (ws.length + 1) ws) (w1.alloc (.cells #[.slice (some ⟨A, 0, none⟩) ws.length ws.length, .bool false] 60)))) :=
    readTerm_any w1.heap.size (by omega) (ws.length + 1) ws false _ (by omega) HWL.out.2 ((HG.out.below hb1).below (hbR _)) (hrs _ rfl)
  have HD : Hid (Below w.heap.size w w1 ∧ Box7 w1 w.heap.size (tleaf 0 0) ∧ Gl w1) := ⟨hb0, hbx1, HG.out.below hb1⟩
  clear hA hown hb1 HC hAlt hb0 hbx1 hrs hbR HG hwl
  go_wp2_with fail
  refine HT.out.mono ?_
  rintro e w3 ⟨x, rfl, hi3, hbl3, hk3, hA3, he3⟩
  obtain ⟨ws', b', hr3, hs3⟩ := hA3.letters
  obtain ⟨O, hO⟩ : ∃ O, O = Obj.cells #[.slice (some ⟨A, 0, none⟩) ws.length ws.length, .bool false] 60 := ⟨_, rfl⟩
  rw [← hO] at hbl3 hk3
  have hbO : Below w1.heap.size w1 (w1.alloc O) := (Below.refl _ _).alloc (Nat.le_refl _) _
  have hsO : (w1.alloc O).heap.size = w1.heap.size + 1 := by simp
  have hsz3 : w1.heap.size + 1 ≤ w3.heap.size := by have := hk3.size; rw [hsO] at this; exact this
  have hB3 : Below w.heap.size w w3 := (HD.out.1.trans (hbO.mono (by omega))).trans (hk3.lowB (by rw [hsO]; omega) (by omega))
  have hbx3 : Box7 w3 w.heap.size (tleaf 0 0) := (HD.out.2.1.below hbO).kept hk3 (by omega)
  have hgl3 : Gl w3 := (HD.out.2.2.below hbO).kept (by omega) hk3
  have hbx : ∀ o, Below w3.heap.size w3 (w3.alloc o) := fun o => (Below.refl _ _).alloc (Nat.le_refl _) _
  -- facts on the reader
  obtain ⟨⟨ra, rc, hrc, _, _⟩, hrb, _, _, _⟩ := hr3
  have hxbl : x.Bl (w.heap.size < ·) := hbl3.mono fun b hb => by rw [hsO] at hb; omega
  have HE : Hid (∀ W, Below w3.heap.size w3 W → Box7 W w.heap.size (tleaf 0 0) ∧ Below w.heap.size w W ∧ x.In W ∧ x.Bl (w.heap.size < ·)) := fun W hW => ⟨hbx3.below hW, hB3.trans (hW.mono hB3.size), hi3.below hW, hxbl⟩
  have HS : Hid (StepR ((readTm (ws.length + 1) ws).map (·.2)) false ws' b' ∧ (∀ p, readTm (ws.length + 1) ws = some p → x.tm = p.1)) := ⟨hs3, he3⟩
  have HGL : Hid (Gl w3) := hgl3
  have hne : w1.heap.size ≠ w3.heap.size := by omega
  have hnl : w1.heap.size < w3.heap.size := by omega
  clear hi3 hbl3 hk3 hA3 he3 hs3 hB3 hbx3 hgl3 hbO hsO hxbl hO HD HT
  -- the two ways to end
  have BAD : Hid (parseS s.data.toList = none → ∀ W, Below w3.heap.size w3 W → PsPost s w (.returned (.tuple #[.agg #[.int .i64 0, .int .i64 0, .int .i64 0, .slice none 0 0, .int .i64 0, .slice none 0 0, .slice none 0 0], .int .i64 1])) (put7 W w.heap.size (tleaf 0 0))) :=
    fun hp W hW => ⟨tleaf 0 0, 1, rfl, tleaf_in _ _ _, tleaf_nb _ _ (by omega), put7_below (HE.out W hW).2.1, .inr (.inl ⟨hs, hp, rfl, rfl⟩)⟩
  have HPS : Hid (parseS s.data.toList = match readTm (ws.length + 1) ws with | some (t, []) => if goodM 0 t = true then some t else none | _ => none) := by show _ = _; rw [parseS, HWS.out]
  cases b' with
  | true =>
    have hpn : parseS s.data.toList = none := by
      have ho : readTm (ws.length + 1) ws = none := by
        rcases HS.out.1 with ⟨_, h⟩ | ⟨h, _⟩
        · cases h
        · exact Option.map_eq_none_iff.1 h
      rw [HPS.out, ho]
    obtain ⟨O, hO⟩ : ∃ O, O = Obj.cells #[.int .i64 x.k, .int .i64 x.n, .int .i64 x.t.k, .slice x.t.a x.t.l.length x.t.c, .int .i64 x.f.k, .slice x.f.a x.f.l.length x.f.c, .slice x.a x.l.length x.c] 27 := ⟨_, rfl⟩
    have HF : Hid _ := BAD.out hpn (w3.alloc O) (hbx O)
    have hbxO := (HE.out _ (hbx O)).1
    have HGT : Hid _ := put7_gets (x := tleaf 0 0) hbxO
    have h7 := hbxO.at7
    have c0 := h7.c0
    have c1 := h7.c1
    have c2 := h7.c2
    have c3 := h7.c3
    have c4 := h7.c4
    have c5 := h7.c5
    have c6 := h7.c6
    simp only [Nat.zero_add, tleaf] at c0 c1 c2 c3 c4 c5 c6
    have f0 := hbxO.fz 0 (by omega)
    have f1 := hbxO.fz 1 (by omega)
    have f2 := hbxO.fz 2 (by omega)
    have f3 := hbxO.fz 3 (by omega)
    have f4 := hbxO.fz 4 (by omega)
    have f5 := hbxO.fz 5 (by omega)
    have f6 := hbxO.fz 6 (by omega)
    subst hO
    clear hbxO h7 hpn BAD hbx HS HPS HGL
    go_wp2_with fail
    refine bodyPost_ret (v := .tuple #[.agg #[.int .i64 0, .int .i64 0, .int .i64 0, .slice none 0 0, .int .i64 0, .slice none 0 0, .slice none 0 0], .int .i64 1]) ?_ rfl HF.out
    obtain ⟨d0, d1, d2, d3, d4, d5, d6⟩ := HGT.out
    simp only [tleaf, List.length_nil] at d0 d1 d2 d3 d4 d5 d6
    simp [results, Tryz.results16, go_sem, d0, d1, d2, d3, d4, d5, d6]
  | false =>
    obtain ⟨p, hp, hp2⟩ : ∃ p, readTm (ws.length + 1) ws = some p ∧ p.2 = ws' := by
      rcases HS.out.1 with ⟨h, _⟩ | ⟨_, _, h⟩
      · exact Option.map_eq_some_iff.1 h
      · cases h
    have hxt : x.tm = p.1 := HS.out.2 p hp
    have hnb : x.nb := TT.nb_tm (hxt ▸ readTm_nb _ _ _ hp)
    obtain ⟨O, hO⟩ : ∃ O, O = Obj.cells #[.int .i64 x.k, .int .i64 x.n, .int .i64 x.t.k, .slice x.t.a x.t.l.length x.t.c, .int .i64 x.f.k, .slice x.f.a x.f.l.length x.f.c, .slice x.a x.l.length x.c] 27 := ⟨_, rfl⟩
    cases ws' with
    | cons y r' =>
      have hpn : parseS s.data.toList = none := by
        obtain ⟨p1, p2⟩ := p
        dsimp only at hp2
        subst hp2
        rw [HPS.out, hp]
      have i2 : (0 : Int) < (((y :: r').length : Nat) : Int) := by simp
      have HF : Hid _ := BAD.out hpn (w3.alloc O) (hbx O)
      have hbxO := (HE.out _ (hbx O)).1
      have HGT : Hid _ := put7_gets (x := tleaf 0 0) hbxO
      have h7 := hbxO.at7
      have c0 := h7.c0
      have c1 := h7.c1
      have c2 := h7.c2
      have c3 := h7.c3
      have c4 := h7.c4
      have c5 := h7.c5
      have c6 := h7.c6
      simp only [Nat.zero_add, tleaf] at c0 c1 c2 c3 c4 c5 c6
      have f0 := hbxO.fz 0 (by omega)
      have f1 := hbxO.fz 1 (by omega)
      have f2 := hbxO.fz 2 (by omega)
      have f3 := hbxO.fz 3 (by omega)
      have f4 := hbxO.fz 4 (by omega)
      have f5 := hbxO.fz 5 (by omega)
      have f6 := hbxO.fz 6 (by omega)
      subst hO
      have HP : Hid (readTm (ws.length + 1) ws = some p ∧ p.2 = y :: r' ∧ x.tm = p.1) := ⟨hp, hp2, hxt⟩
      clear hbxO h7 hpn BAD hbx HS HPS HGL hp hp2 hxt hnb HP
      go_wp2_with fail
      refine bodyPost_ret (v := .tuple #[.agg #[.int .i64 0, .int .i64 0, .int .i64 0, .slice none 0 0, .int .i64 0, .slice none 0 0, .slice none 0 0], .int .i64 1]) ?_ rfl HF.out
      obtain ⟨d0, d1, d2, d3, d4, d5, d6⟩ := HGT.out
      simp only [tleaf, List.length_nil] at d0 d1 d2 d3 d4 d5 d6
      simp [results, Tryz.results16, go_sem, d0, d1, d2, d3, d4, d5, d6]
    | nil =>
      have hps : parseS s.data.toList = if goodM 0 x.tm = true then some x.tm else none := by
        obtain ⟨p1, p2⟩ := p
        dsimp only at hp2 hxt
        subst hp2 hxt
        rw [HPS.out, hp]
      have HPP : Hid (parseS s.data.toList = if goodM 0 x.tm = true then some x.tm else none) := hps
      have HGD : Hid (Calls Tryz.prog 9 #[.agg #[.int .i64 x.k, .int .i64 x.n, .int .i64 x.t.k, .slice x.t.a x.t.l.length x.t.c, .int .i64 x.f.k, .slice x.f.a x.f.l.length x.f.c, .slice x.a x.l.length x.c], .int .i64 0] (w3.alloc O) fun e w' => e = .returned (.bool (goodM 0 x.tm)) ∧ Below (w3.alloc O).heap.size (w3.alloc O) w') := goodTm_any x 0 _ (HGL.out.below (hbx O)).gp (HE.out _ (hbx O)).2.2.1 hnb
      have i2 : ¬ (0 : Int) < ((([] : List ByteArray).length : Nat) : Int) := by simp
      simp only [List.length_nil] at hrc
      have e0 : ((0 : Nat) : Int) = 0 := rfl
      obtain ⟨g, hgd⟩ : ∃ g, goodM 0 x.tm = g := ⟨_, rfl⟩
      rw [hgd] at HGD
      have HGG : Hid (goodM 0 x.tm = g) := hgd
      have HNB : Hid x.nb := hnb
      have hBO := hbx O
      have HBO : Hid (Below w3.heap.size w3 (w3.alloc O)) := hBO
      have hbt : At7 (w3.alloc O) w3.heap.size 0 x := by subst hO; constructor <;> simp [go_sem]
      have HBT : Hid (At7 (w3.alloc O) w3.heap.size 0 x) := hbt
      have hnm : w3.heap.size < (w3.alloc O).heap.size := by simp
      clear hp hp2 hxt hps hgd hnb hBO hbt HS HPS hbx HGL
      subst hO
      go_wp2_with fail
      refine HGD.out.mono ?_
      rintro e w5 ⟨rfl, hb5⟩
      have hW5 : Below w3.heap.size w3 w5 := HBO.out.trans (hb5.mono HBO.out.size)
      have hbt5 := HBT.out.below hb5
      clear hb5 HGD
      cases g with
      | false =>
        have hpn : parseS s.data.toList = none := by rw [HPP.out, HGG.out]; rfl
        have HF : Hid _ := BAD.out hpn w5 hW5
        have hbxO := (HE.out _ hW5).1
        have HGT : Hid _ := put7_gets (x := tleaf 0 0) hbxO
        have h7 := hbxO.at7
        have c0 := h7.c0
        have c1 := h7.c1
        have c2 := h7.c2
        have c3 := h7.c3
        have c4 := h7.c4
        have c5 := h7.c5
        have c6 := h7.c6
        simp only [Nat.zero_add, tleaf] at c0 c1 c2 c3 c4 c5 c6
        have f0 := hbxO.fz 0 (by omega)
        have f1 := hbxO.fz 1 (by omega)
        have f2 := hbxO.fz 2 (by omega)
        have f3 := hbxO.fz 3 (by omega)
        have f4 := hbxO.fz 4 (by omega)
        have f5 := hbxO.fz 5 (by omega)
        have f6 := hbxO.fz 6 (by omega)
        clear hbxO h7 hpn BAD hW5 hbt5
        go_wp2_with fail
        refine bodyPost_ret (v := .tuple #[.agg #[.int .i64 0, .int .i64 0, .int .i64 0, .slice none 0 0, .int .i64 0, .slice none 0 0, .slice none 0 0], .int .i64 1]) ?_ rfl HF.out
        obtain ⟨d0, d1, d2, d3, d4, d5, d6⟩ := HGT.out
        simp only [tleaf, List.length_nil] at d0 d1 d2 d3 d4 d5 d6
        simp [results, Tryz.results16, go_sem, d0, d1, d2, d3, d4, d5, d6]
      | true =>
        have hpy : parseS s.data.toList = some x.tm := by rw [HPP.out, HGG.out]; rfl
        obtain ⟨hbxO, hBw, hxi, hxb⟩ := HE.out _ hW5
        have HF : Hid (PsPost s w (.returned (.tuple #[.agg #[.int .i64 x.k, .int .i64 x.n, .int .i64 x.t.k, .slice x.t.a x.t.l.length x.t.c, .int .i64 x.f.k, .slice x.f.a x.f.l.length x.f.c, .slice x.a x.l.length x.c], .int .i64 0])) (put7 w5 w.heap.size x)) :=
          ⟨x, 0, rfl, hxi.keptR put7_kept (hxb.mono fun b hb => by omega), HNB.out, put7_below hBw, .inr (.inr ⟨hs, hpy, rfl⟩)⟩
        have HGT : Hid _ := put7_gets (x := x) hbxO
        have t0 := hbt5.c0
        have t1 := hbt5.c1
        have t2 := hbt5.c2
        have t3 := hbt5.c3
        have t4 := hbt5.c4
        have t5 := hbt5.c5
        have t6 := hbt5.c6
        simp only [Nat.zero_add] at t0 t1 t2 t3 t4 t5 t6
        have h7 := hbxO.at7
        have c0 := h7.c0
        have c1 := h7.c1
        have c2 := h7.c2
        have c3 := h7.c3
        have c4 := h7.c4
        have c5 := h7.c5
        have c6 := h7.c6
        simp only [Nat.zero_add, tleaf] at c0 c1 c2 c3 c4 c5 c6
        have f0 := hbxO.fz 0 (by omega)
        have f1 := hbxO.fz 1 (by omega)
        have f2 := hbxO.fz 2 (by omega)
        have f3 := hbxO.fz 3 (by omega)
        have f4 := hbxO.fz 4 (by omega)
        have f5 := hbxO.fz 5 (by omega)
        have f6 := hbxO.fz 6 (by omega)
        clear hbxO h7 hpy BAD hW5 hbt5 hBw hxi hxb
        go_wp2_with fail
        refine bodyPost_ret (v := .tuple #[.agg #[.int .i64 x.k, .int .i64 x.n, .int .i64 x.t.k, .slice x.t.a x.t.l.length x.t.c, .int .i64 x.f.k, .slice x.f.a x.f.l.length x.f.c, .slice x.a x.l.length x.c], .int .i64 0]) ?_ rfl HF.out
        obtain ⟨d0, d1, d2, d3, d4, d5, d6⟩ := HGT.out
        simp [results, Tryz.results16, go_sem, d0, d1, d2, d3, d4, d5, d6]
/-- term.Parse. -/
theorem parse_any (s : ByteArray) (hm : s.size ≤ 9223372036854775807) (w : World) (hg : Gl w) : Calls Tryz.prog 16 #[.string s] w (PsPost s w) := by
  by_cases hs : s.size ≤ 1000
  · exact parse_short s hs w hg
  · exact parse_long s (by omega) hm w
end Go.Proofs.YtnddkmccagiclaaGreatDoor

/-
  What the calls of run's Run and Text answer.
-/
namespace Go.Proofs.YtnddkmccagiclaaGreatDoor
open Go.RowKit
/-- What Run makes of a term: the outcome, the error. -/
def runR (x : Tm) (f : Int) : Out × Int := if goodM 0 x = true then (match readS x [] 0 with
  | none => (out0, 2)
  | some p => if f < 0 ∨ 100 < f then (out0, 3) else (runM p.1 f.toNat, 0)) else (out0, 1)
/-- What such a call answers. -/
def OutPost (r : Out × Int) (w : World) (e : Ending) (w' : World) : Prop := e = .returned (.tuple #[.agg #[.int .i64 r.1.k, .int .i64 r.1.n, .bool r.1.b], .int .i64 r.2]) ∧ Below w.heap.size w w'
/-- outcome, at whatever number. -/
theorem outcome_all (y : TT) (f : Int) (w : World) (hy : y.In w) (sy : shp y.tm) (hz : y.tm.tsz ≤ 100) :
    Calls Tryz.prog 32 #[.agg #[.int .i64 y.k, .int .i64 y.n, .int .i64 y.t.k, .slice y.t.a y.t.l.length y.t.c, .int .i64 y.f.k, .slice y.f.a y.f.l.length y.f.c, .slice y.a y.l.length y.c], .int .i64 f] w (OutPost (if f < 0 ∨ 100 < f then (out0, 3) else (runM y.tm f.toNat, 0)) w) := by
  by_cases hf : f < 0 ∨ 100 < f
  · rw [if_pos hf]
    exact outcome_range y f hf w
  · rw [if_neg hf]
    have e : f = ((f.toNat : Nat) : Int) := by omega
    have := outcome_any y f.toNat (by omega) w hy sy hz
    rw [← e] at this
    exact this
set_option maxRecDepth 20000 in
set_option maxHeartbeats 8000000 in
/-- Run. -/
theorem runFn_any (x : TT) (f : Int) (w : World) (hg : Gp w) (hx : x.In w) (hnb : x.nb) :
    Calls Tryz.prog 18 #[.agg #[.int .i64 x.k, .int .i64 x.n, .int .i64 x.t.k, .slice x.t.a x.t.l.length x.t.c, .int .i64 x.f.k, .slice x.f.a x.f.l.length x.f.c, .slice x.a x.l.length x.c], .int .i64 f] w (OutPost (runR x.tm f) w) := by
  obtain ⟨W1, hW1⟩ : ∃ W, W = (w.alloc (.cells #[.int .i64 x.k, .int .i64 x.n, .int .i64 x.t.k, .slice x.t.a x.t.l.length x.t.c, .int .i64 x.f.k, .slice x.f.a x.f.l.length x.f.c, .slice x.a x.l.length x.c] 27)).alloc (.cells #[.int .i64 0, .int .i64 0, .bool false] 41) := ⟨_, rfl⟩
  have hb1 : Below w.heap.size w W1 := by rw [hW1]; exact ((Below.refl _ _).alloc (Nat.le_refl _) _).alloc (by simp) _
  have hs1 : W1.heap.size = w.heap.size + 1 + 1 := by rw [hW1]; simp
  have z0 : W1.cell? ⟨w.heap.size + 1, 0, none⟩ = some (.int .i64 0) := by rw [hW1]; simp [go_sem]
  have z1 : W1.cell? ⟨w.heap.size + 1, 1, none⟩ = some (.int .i64 0) := by rw [hW1]; simp [go_sem]
  have z2 : W1.cell? ⟨w.heap.size + 1, 2, none⟩ = some (.bool false) := by rw [hW1]; simp [go_sem]
  have zf : ∀ i, W1.frozen? ⟨w.heap.size + 1, i, none⟩ = false := by intro i; rw [hW1]; simp [go_sem]
  have HC : Hid (Calls Tryz.prog 20 #[.agg #[.int .i64 x.k, .int .i64 x.n, .int .i64 x.t.k, .slice x.t.a x.t.l.length x.t.c, .int .i64 x.f.k, .slice x.f.a x.f.l.length x.f.c, .slice x.a x.l.length x.c]] W1 (CkPost x W1)) := check_any x W1 (hg.below hb1) (hx.below hb1) hnb
  have HZ : Hid (∀ W, Below W1.heap.size W1 W → W.cell? ⟨w.heap.size + 1, 0, none⟩ = some (.int .i64 0) ∧ W.cell? ⟨w.heap.size + 1, 1, none⟩ = some (.int .i64 0) ∧ W.cell? ⟨w.heap.size + 1, 2, none⟩ = some (.bool false) ∧ W.frozen? ⟨w.heap.size + 1, 0, none⟩ = false ∧ W.frozen? ⟨w.heap.size + 1, 1, none⟩ = false ∧ W.frozen? ⟨w.heap.size + 1, 2, none⟩ = false ∧ w.heap.size + 1 < W.heap.size ∧ Below w.heap.size w W) := fun W hW =>
    ⟨cell_later hW z0, cell_later hW z1, cell_later hW z2, (hW.frozen (p := ⟨w.heap.size + 1, 0, none⟩) (by rw [hs1]; show w.heap.size + 1 < _; omega)).trans (zf 0), (hW.frozen (p := ⟨w.heap.size + 1, 1, none⟩) (by rw [hs1]; show w.heap.size + 1 < _; omega)).trans (zf 1), (hW.frozen (p := ⟨w.heap.size + 1, 2, none⟩) (by rw [hs1]; show w.heap.size + 1 < _; omega)).trans (zf 2), by have := hW.size; omega, hb1.trans (hW.mono hb1.size)⟩
  obtain ⟨R, hR⟩ : ∃ R, R = runR x.tm f := ⟨_, rfl⟩
  rw [← hR]
  have HR : Hid (R = runR x.tm f) := hR
  have HE : Hid (∀ (o : Out) (er : Int) (W : World), R = (o, er) → Below w.heap.size w W → OutPost R w (.returned (.tuple #[.agg #[.int .i64 o.k, .int .i64 o.n, .bool o.b], .int .i64 er])) (((W.setCell ⟨w.heap.size + 1, 0, none⟩ (.int .i64 o.k)).setCell ⟨w.heap.size + 1, 1, none⟩ (.int .i64 o.n)).setCell ⟨w.heap.size + 1, 2, none⟩ (.bool o.b))) := fun o er W h1 h2 => by
    rw [h1]
    exact ⟨rfl, ((h2.setCell (by simp) _).setCell (by simp) _).setCell (by simp) _⟩
  clear hR hb1 hs1 z0 z1 z2 zf hg hx hnb
  go_enter Tryz.func18, Tryz.ntmps18
  go_wp2_with fail
  rw [← hW1]
  clear hW1
  refine HC.out.mono ?_
  rintro e w2 ⟨hb2, ⟨hgd, rfl⟩ | ⟨hgd, hrd, rfl⟩ | ⟨hgd, y, i, hrd, rfl, hyi, hii, hi44⟩⟩
  · have HR1 : Hid (R = (out0, 1)) := by rw [HR.out]; unfold runR; rw [if_neg (by rw [hgd]; simp)]; rfl
    obtain ⟨W3, hW3⟩ : ∃ W3, W3 = (w2.alloc (.cells #[.int .i64 0, .int .i64 0, .int .i64 0, .slice none 0 0, .int .i64 0, .slice none 0 0, .slice none 0 0] 27)).alloc (.cells #[.int .i64 0, .slice none 0 0] 24) := ⟨_, rfl⟩
    have hA : Below W1.heap.size W1 W3 := hb2.trans ((show Below w2.heap.size w2 W3 by rw [hW3]; exact ((Below.refl _ _).alloc (Nat.le_refl _) _).alloc (by simp) _).mono hb2.size)
    obtain ⟨r0, r1, r2, f0, f1, f2, rl, hB⟩ := HZ.out W3 hA
    have HB : Hid (Below w.heap.size w W3) := hB
    clear hA hB hgd hb2 HC HZ
    go_upto_region 2 with fail
    rw [← hW3]
    clear hW3
    go_wp2_with fail
    obtain ⟨q0, q1, q2⟩ := set3_cells (u := .int .i64 0) (v := .int .i64 0) (z := .bool false) r0 r1 r2
    exact bodyPost_ret (v := .tuple #[.agg #[.int .i64 0, .int .i64 0, .bool false], .int .i64 1]) (by simp [results, Tryz.results18, go_sem, q0, q1, q2]) rfl (HE.out out0 1 W3 HR1.out HB.out)
  · have HR1 : Hid (R = (out0, 2)) := by rw [HR.out]; unfold runR; rw [if_pos hgd, hrd]; rfl
    obtain ⟨W3, hW3⟩ : ∃ W3, W3 = (w2.alloc (.cells #[.int .i64 0, .int .i64 0, .int .i64 0, .slice none 0 0, .int .i64 0, .slice none 0 0, .slice none 0 0] 27)).alloc (.cells #[.int .i64 0, .slice none 0 0] 24) := ⟨_, rfl⟩
    have hA : Below W1.heap.size W1 W3 := hb2.trans ((show Below w2.heap.size w2 W3 by rw [hW3]; exact ((Below.refl _ _).alloc (Nat.le_refl _) _).alloc (by simp) _).mono hb2.size)
    obtain ⟨r0, r1, r2, f0, f1, f2, rl, hB⟩ := HZ.out W3 hA
    have HB : Hid (Below w.heap.size w W3) := hB
    clear hA hB hgd hrd hb2 HC HZ
    go_upto_region 2 with fail
    rw [← hW3]
    clear hW3
    go_wp2_with fail
    obtain ⟨q0, q1, q2⟩ := set3_cells (u := .int .i64 0) (v := .int .i64 0) (z := .bool false) r0 r1 r2
    exact bodyPost_ret (v := .tuple #[.agg #[.int .i64 0, .int .i64 0, .bool false], .int .i64 2]) (by simp [results, Tryz.results18, go_sem, q0, q1, q2]) rfl (HE.out out0 2 W3 HR1.out HB.out)
  · obtain ⟨sy, zy, _⟩ := check_run hgd hrd
    obtain ⟨r, hr⟩ : ∃ r : Out × Int, r = (if f < 0 ∨ 100 < f then (out0, 3) else (runM y.tm f.toNat, 0)) := ⟨_, rfl⟩
    have HR1 : Hid (R = r) := by rw [HR.out, hr]; unfold runR; rw [if_pos hgd, hrd]; exact rfl
    obtain ⟨W3, hW3⟩ : ∃ W3, W3 = (w2.alloc (.cells #[.int .i64 y.k, .int .i64 y.n, .int .i64 y.t.k, .slice y.t.a y.t.l.length y.t.c, .int .i64 y.f.k, .slice y.f.a y.f.l.length y.f.c, .slice y.a y.l.length y.c] 27)).alloc (.cells #[.int .i64 i.k, .slice i.a i.l.length i.c] 24) := ⟨_, rfl⟩
    have hA2 : Below w2.heap.size w2 W3 := by rw [hW3]; exact ((Below.refl _ _).alloc (Nat.le_refl _) _).alloc (by simp) _
    have hA : Below W1.heap.size W1 W3 := hb2.trans (hA2.mono hb2.size)
    have p0 : W3.cell? ⟨w2.heap.size, 0, none⟩ = some (.int .i64 y.k) := by rw [hW3]; simp [go_sem]
    have p1 : W3.cell? ⟨w2.heap.size, 1, none⟩ = some (.int .i64 y.n) := by rw [hW3]; simp [go_sem]
    have p2 : W3.cell? ⟨w2.heap.size, 2, none⟩ = some (.int .i64 y.t.k) := by rw [hW3]; simp [go_sem]
    have p3 : W3.cell? ⟨w2.heap.size, 3, none⟩ = some (.slice y.t.a y.t.l.length y.t.c) := by rw [hW3]; simp [go_sem]
    have p4 : W3.cell? ⟨w2.heap.size, 4, none⟩ = some (.int .i64 y.f.k) := by rw [hW3]; simp [go_sem]
    have p5 : W3.cell? ⟨w2.heap.size, 5, none⟩ = some (.slice y.f.a y.f.l.length y.f.c) := by rw [hW3]; simp [go_sem]
    have p6 : W3.cell? ⟨w2.heap.size, 6, none⟩ = some (.slice y.a y.l.length y.c) := by rw [hW3]; simp [go_sem]
    have HO : Hid (Calls Tryz.prog 32 #[.agg #[.int .i64 y.k, .int .i64 y.n, .int .i64 y.t.k, .slice y.t.a y.t.l.length y.t.c, .int .i64 y.f.k, .slice y.f.a y.f.l.length y.f.c, .slice y.a y.l.length y.c], .int .i64 f] W3 fun e w' => e = .returned (.tuple #[.agg #[.int .i64 r.1.k, .int .i64 r.1.n, .bool r.1.b], .int .i64 r.2]) ∧ Below W1.heap.size W1 w') := by
      refine (outcome_all y f W3 (hyi.below hA2) sy zy).mono ?_
      rintro e w' ⟨he, hb⟩
      rw [hr]
      exact ⟨he, hA.trans (hb.mono hA.size)⟩
    have lw2 : w2.heap.size < W3.heap.size := World.block_lt_of_cell? _ _ p0
    clear hA hA2 hgd hrd hb2 HC hyi hii hi44 sy zy hr
    go_upto_region 2 with fail
    rw [← hW3]
    clear hW3
    go_wp2_with fail
    refine HO.out.mono ?_
    rintro e w4 ⟨rfl, hb4⟩
    obtain ⟨r0, r1, r2, f0, f1, f2, rl, hB⟩ := HZ.out w4 hb4
    have HB : Hid (Below w.heap.size w w4) := hB
    clear hb4 hB HZ p0 p1 p2 p3 p4 p5 p6
    go_wp2_with fail
    obtain ⟨q0, q1, q2⟩ := set3_cells (u := .int .i64 r.1.k) (v := .int .i64 r.1.n) (z := .bool r.1.b) r0 r1 r2
    exact bodyPost_ret (v := .tuple #[.agg #[.int .i64 r.1.k, .int .i64 r.1.n, .bool r.1.b], .int .i64 r.2]) (by simp [results, Tryz.results18, go_sem, q0, q1, q2]) rfl (HE.out r.1 r.2 w4 HR1.out HB.out)
/-- What Text makes of a text. -/
def textR (s : ByteArray) (f : Int) : Out × Int := if 1000 < s.size then (out0, 4) else (match parseS s.data.toList with
  | none => (out0, 1)
  | some x => runR x f)
set_option maxRecDepth 20000 in
set_option maxHeartbeats 8000000 in
/-- Text. -/
theorem textFn_any (s : ByteArray) (hm : s.size ≤ 9223372036854775807) (f : Int) (w : World) (hg : Gl w) : Calls Tryz.prog 33 #[.string s, .int .i64 f] w (OutPost (textR s f) w) := by
  obtain ⟨W1, hW1⟩ : ∃ W, W = w.alloc (.cells #[.int .i64 0, .int .i64 0, .bool false] 41) := ⟨_, rfl⟩
  have hb1 : Below w.heap.size w W1 := by rw [hW1]; exact (Below.refl _ _).alloc (Nat.le_refl _) _
  have hs1 : W1.heap.size = w.heap.size + 1 := by rw [hW1]; simp
  have z0 : W1.cell? ⟨w.heap.size, 0, none⟩ = some (.int .i64 0) := by rw [hW1]; simp [go_sem]
  have z1 : W1.cell? ⟨w.heap.size, 1, none⟩ = some (.int .i64 0) := by rw [hW1]; simp [go_sem]
  have z2 : W1.cell? ⟨w.heap.size, 2, none⟩ = some (.bool false) := by rw [hW1]; simp [go_sem]
  have zf : ∀ i, W1.frozen? ⟨w.heap.size, i, none⟩ = false := by intro i; rw [hW1]; simp [go_sem]
  have HC : Hid (Calls Tryz.prog 16 #[.string s] W1 (PsPost s W1)) := parse_any s hm W1 (hg.below hb1)
  have HZ : Hid (∀ W, Below W1.heap.size W1 W → W.cell? ⟨w.heap.size, 0, none⟩ = some (.int .i64 0) ∧ W.cell? ⟨w.heap.size, 1, none⟩ = some (.int .i64 0) ∧ W.cell? ⟨w.heap.size, 2, none⟩ = some (.bool false) ∧ W.frozen? ⟨w.heap.size, 0, none⟩ = false ∧ W.frozen? ⟨w.heap.size, 1, none⟩ = false ∧ W.frozen? ⟨w.heap.size, 2, none⟩ = false ∧ w.heap.size < W.heap.size ∧ Below w.heap.size w W ∧ Gl W) := fun W hW =>
    ⟨cell_later hW z0, cell_later hW z1, cell_later hW z2, (hW.frozen (p := ⟨w.heap.size, 0, none⟩) (by rw [hs1]; show w.heap.size < _; omega)).trans (zf 0), (hW.frozen (p := ⟨w.heap.size, 1, none⟩) (by rw [hs1]; show w.heap.size < _; omega)).trans (zf 1), (hW.frozen (p := ⟨w.heap.size, 2, none⟩) (by rw [hs1]; show w.heap.size < _; omega)).trans (zf 2), by have := hW.size; omega, hb1.trans (hW.mono hb1.size), hg.below (hb1.trans (hW.mono hb1.size))⟩
  obtain ⟨R, hR⟩ : ∃ R, R = textR s f := ⟨_, rfl⟩
  rw [← hR]
  have HR : Hid (R = textR s f) := hR
  have HE : Hid (∀ (o : Out) (er : Int) (W : World), R = (o, er) → Below w.heap.size w W → OutPost R w (.returned (.tuple #[.agg #[.int .i64 o.k, .int .i64 o.n, .bool o.b], .int .i64 er])) (((W.setCell ⟨w.heap.size, 0, none⟩ (.int .i64 o.k)).setCell ⟨w.heap.size, 1, none⟩ (.int .i64 o.n)).setCell ⟨w.heap.size, 2, none⟩ (.bool o.b))) := fun o er W h1 h2 => by
    rw [h1]
    exact ⟨rfl, ((h2.setCell (by simp) _).setCell (by simp) _).setCell (by simp) _⟩
  clear hR hb1 hs1 z0 z1 z2 zf hg hm
  go_enter Tryz.func33, Tryz.ntmps33
  go_wp2_with fail
  rw [← hW1]
  clear hW1
  refine HC.out.mono ?_
  rintro e w2 ⟨x, er, rfl, hxi, hnb, hb2, hcase⟩
  have hc2 : (er = 0 ∧ Hid (R = runR x.tm f)) ∨ ((er != 0) = true ∧ Hid (R = (out0, er))) := by
    rcases hcase with ⟨h1, rfl, _⟩ | ⟨h1, h2, rfl, _⟩ | ⟨h1, h2, rfl⟩
    · refine .inr ⟨rfl, ?_⟩
      rw [HR.out]; unfold textR; rw [if_pos h1]; exact rfl
    · refine .inr ⟨rfl, ?_⟩
      rw [HR.out]; unfold textR; rw [if_neg (by omega), h2]; exact rfl
    · refine .inl ⟨rfl, ?_⟩
      rw [HR.out]; unfold textR; rw [if_neg (by omega), h2]; exact rfl
  obtain ⟨W3, hW3⟩ : ∃ W3, W3 = w2.alloc (.cells #[.int .i64 x.k, .int .i64 x.n, .int .i64 x.t.k, .slice x.t.a x.t.l.length x.t.c, .int .i64 x.f.k, .slice x.f.a x.f.l.length x.f.c, .slice x.a x.l.length x.c] 27) := ⟨_, rfl⟩
  have hA2 : Below w2.heap.size w2 W3 := by rw [hW3]; exact (Below.refl _ _).alloc (Nat.le_refl _) _
  have hA : Below W1.heap.size W1 W3 := hb2.trans (hA2.mono hb2.size)
  have p0 : W3.cell? ⟨w2.heap.size, 0, none⟩ = some (.int .i64 x.k) := by rw [hW3]; simp [go_sem]
  have p1 : W3.cell? ⟨w2.heap.size, 1, none⟩ = some (.int .i64 x.n) := by rw [hW3]; simp [go_sem]
  have p2 : W3.cell? ⟨w2.heap.size, 2, none⟩ = some (.int .i64 x.t.k) := by rw [hW3]; simp [go_sem]
  have p3 : W3.cell? ⟨w2.heap.size, 3, none⟩ = some (.slice x.t.a x.t.l.length x.t.c) := by rw [hW3]; simp [go_sem]
  have p4 : W3.cell? ⟨w2.heap.size, 4, none⟩ = some (.int .i64 x.f.k) := by rw [hW3]; simp [go_sem]
  have p5 : W3.cell? ⟨w2.heap.size, 5, none⟩ = some (.slice x.f.a x.f.l.length x.f.c) := by rw [hW3]; simp [go_sem]
  have p6 : W3.cell? ⟨w2.heap.size, 6, none⟩ = some (.slice x.a x.l.length x.c) := by rw [hW3]; simp [go_sem]
  have lw2 : w2.heap.size < W3.heap.size := World.block_lt_of_cell? _ _ p0
  obtain ⟨r0, r1, r2, f0, f1, f2, rl, hB, hG3⟩ := HZ.out W3 hA
  have HO : Hid (Calls Tryz.prog 18 #[.agg #[.int .i64 x.k, .int .i64 x.n, .int .i64 x.t.k, .slice x.t.a x.t.l.length x.t.c, .int .i64 x.f.k, .slice x.f.a x.f.l.length x.f.c, .slice x.a x.l.length x.c], .int .i64 f] W3 fun e w' => e = .returned (.tuple #[.agg #[.int .i64 (runR x.tm f).1.k, .int .i64 (runR x.tm f).1.n, .bool (runR x.tm f).1.b], .int .i64 (runR x.tm f).2]) ∧ Below W1.heap.size W1 w') := by
    refine (runFn_any x f W3 hG3.gp (hxi.below hA2) hnb).mono ?_
    rintro e w' ⟨he, hb⟩
    exact ⟨he, hA.trans (hb.mono hA.size)⟩
  have HB : Hid (Below w.heap.size w W3) := hB
  clear hA hA2 hb2 HC hxi hnb hB hG3 hcase HR
  rcases hc2 with ⟨rfl, HR1⟩ | ⟨he, HR1⟩
  · obtain ⟨r, hr⟩ : ∃ r, r = runR x.tm f := ⟨_, rfl⟩
    rw [← hr] at HO HR1
    clear hr r0 r1 r2 f0 f1 f2 rl
    go_upto_region 2 with fail
    rw [← hW3]
    clear hW3
    go_wp2_with fail
    refine HO.out.mono ?_
    rintro e w4 ⟨rfl, hb4⟩
    obtain ⟨r0, r1, r2, f0, f1, f2, rl, hB, _⟩ := HZ.out w4 hb4
    have HB4 : Hid (Below w.heap.size w w4) := hB
    clear hb4 hB HZ p0 p1 p2 p3 p4 p5 p6
    go_wp2_with fail
    obtain ⟨q0, q1, q2⟩ := set3_cells (u := .int .i64 r.1.k) (v := .int .i64 r.1.n) (z := .bool r.1.b) r0 r1 r2
    exact bodyPost_ret (v := .tuple #[.agg #[.int .i64 r.1.k, .int .i64 r.1.n, .bool r.1.b], .int .i64 r.2]) (by simp [results, Tryz.results33, go_sem, q0, q1, q2]) rfl (HE.out r.1 r.2 w4 HR1.out HB4.out)
  · clear HO HZ p0 p1 p2 p3 p4 p5 p6
    go_upto_region 2 with fail
    rw [← hW3]
    clear hW3
    go_wp2_with fail
    obtain ⟨q0, q1, q2⟩ := set3_cells (u := .int .i64 0) (v := .int .i64 0) (z := .bool false) r0 r1 r2
    exact bodyPost_ret (v := .tuple #[.agg #[.int .i64 0, .int .i64 0, .bool false], .int .i64 er]) (by simp [results, Tryz.results33, go_sem, q0, q1, q2]) rfl (HE.out out0 er W3 HR1.out HB.out)
end Go.Proofs.YtnddkmccagiclaaGreatDoor

/-
  What the laws' own call 'alive' answers: true.
-/
namespace Go.Proofs.YtnddkmccagiclaaGreatDoor
open Go.RowKit
/-- (call (fun any (add #0 1)) (as any 6)) -/
def aX : Tm := ⟨8, 0, anyY, anyY, [⟨7, 0, anyY, anyY, [⟨4, 0, anyY, anyY, [⟨1, 0, anyY, anyY, []⟩, ⟨2, 1, anyY, anyY, []⟩]⟩]⟩, ⟨9, 0, anyY, anyY, [⟨2, 6, anyY, anyY, []⟩]⟩]⟩
/-- The same with its casts. -/
def aY : Tm := ⟨8, 0, anyY, anyY, [⟨7, 0, anyY, anyY, [⟨4, 0, anyY, anyY, [⟨10, 3, ⟨1, []⟩, anyY, [⟨1, 0, anyY, anyY, []⟩]⟩, ⟨2, 1, anyY, anyY, []⟩]⟩]⟩, ⟨9, 0, anyY, anyY, [⟨10, 6, anyY, ⟨1, []⟩, [⟨2, 6, anyY, anyY, []⟩]⟩]⟩]⟩
def aS : ByteArray := ⟨#[40, 99, 97, 108, 108, 32, 40, 102, 117, 110, 32, 97, 110, 121, 32, 40, 97, 100, 100, 32, 35, 48, 32, 49, 41, 41, 32, 40, 97, 115, 32, 97, 110, 121, 32, 54, 41, 41]⟩
theorem a_any : isAnyY anyY = true := by simp [isAnyY, anyY, relY_mk, relL]
theorem a_good4 : goodY 4 anyY = true := by simp [goodY, anyY]
theorem aX_good : goodM 0 aX = true := by
  have : goodS 0 40 0 aX 40 = some 33 := by
    simp [aX, goodS, okTop, okTypes, okNum, tells, partsOf, bindL, a_any, a_good4, insOf]
  exact congrArg Option.isSome this
theorem aX_read : readS aX [] 0 = some (aY, ⟨1, []⟩) := by
  simp [aX, aY, readS_mk, readL, takesIn, ruleY, fitL, castL, castY, relY_mk, relL, escFits, escSame, anyY, callY, Tm.sz_mk]
set_option maxRecDepth 100000 in
theorem aS_words : readTm ((wordsOf aS.data.toList).length + 1) (wordsOf aS.data.toList) = some (aX, []) := by kernel_rfl
theorem aS_parse : parseS aS.data.toList = some aX := by
  unfold parseS
  rw [aS_words]
  simp only
  rw [if_pos aX_good]
theorem a_new1 (o : Out) : newC 100 ⟨1, []⟩ anyY o = some ⟨false, out0, 1, out0, none, none, true⟩ := by
  have e : newC 99 ⟨1, []⟩ ⟨1, []⟩ o = none := by rw [newC, if_pos (by simp [relY_mk, relL])]
  rw [newC, if_neg (by simp [anyY, relY_mk, relL, escSame]), if_neg (by simp), if_pos (by rfl)]
  have g : groundY ⟨1, []⟩ = ⟨1, []⟩ := rfl
  simp only [g, e, someC]
theorem a_new2 (o : Out) : newC 100 anyY ⟨1, []⟩ o = some ⟨true, o, 1, out0, none, none, false⟩ := by
  have e : newC 99 ⟨1, []⟩ ⟨1, []⟩ o = none := by rw [newC, if_pos (by simp [relY_mk, relL])]
  rw [newC, if_neg (by simp [anyY, relY_mk, relL, escSame]), if_neg (by simp), if_neg (by simp), if_pos (by rfl)]
  have g : groundY ⟨1, []⟩ = ⟨1, []⟩ := rfl
  simp only [g, e, someC]
theorem aY_run : runM aY 5 = ⟨1, 7, false⟩ := by
  obtain ⟨h1, h2, _⟩ := check_run aX_good aX_read
  have e : runN 13 (st0 aY 5) = ⟨[], [numV 7], 1, 5, out0⟩ := by
    simp [runN, st0, stepS, doS, lookS, bothS, St.plan, St.push, lookT, doT, changeT, aY, Tm.at, changeS, callS, enterS, funV, numV, a_new1, a_new2, ofC, knownV, clampI, Val.core, out0, tm0]
    omega
  rw [runM_of h1 h2 (by omega) (n := 13) (by rw [e]; exact .inr rfl), e]
  rfl
theorem aS_text : textR aS 5 = (⟨1, 7, false⟩, 0) := by
  unfold textR
  rw [if_neg (by show ¬ (1000 < 38); omega), aS_parse]
  simp only
  unfold runR
  rw [if_pos aX_good, aX_read]
  simp only
  rw [if_neg (by omega)]
  show (runM aY 5, (0 : Int)) = _
  rw [aY_run]
set_option maxRecDepth 20000 in
set_option maxHeartbeats 4000000 in
/-- alive. -/
theorem alive_any (w : World) (hg : Gl w) : Calls Tryz.prog 19 #[] w fun e w' => e = .returned (.bool true) ∧ Below w.heap.size w w' := by
  have HT : Hid (Calls Tryz.prog 33 #[.string aS, .int .i64 5] w fun e w' => e = .returned (.tuple #[.agg #[.int .i64 1, .int .i64 7, .bool false], .int .i64 0]) ∧ Below w.heap.size w w') := by
    have := textFn_any aS (by show 38 ≤ 9223372036854775807; omega) 5 w hg
    rw [aS_text] at this
    exact this
  unfold aS at HT
  clear hg
  go_enter Tryz.func19, Tryz.ntmps19
  go_wp2_with fail
  refine HT.out.mono ?_
  rintro e w2 ⟨rfl, hb⟩
  have HB : Hid (Below w.heap.size w w2) := hb
  clear hb HT
  go_wp2_with fail
  go_ret
  exact ⟨rfl, HB.out.alloc HB.out.size _⟩
end Go.Proofs.YtnddkmccagiclaaGreatDoor

/-
  What the call of chaperonetop.TopNever answers: true.
-/
namespace Go.Proofs.YtnddkmccagiclaaGreatDoor
open Go.RowKit
/-- Run's four ways. -/
theorem runR_cases (x : Tm) (f : Int) : ((runR x f).1 = out0 ∧ ((runR x f).2 != 0) = true) ∨ ((runR x f).2 = 0 ∧ goodM 0 x = true ∧ 0 ≤ f ∧ f ≤ 100 ∧ ∃ y i, readS x [] 0 = some (y, i) ∧ (runR x f).1 = runM y f.toNat) := by
  unfold runR
  by_cases hg : goodM 0 x = true
  · rw [if_pos hg]
    cases hr : readS x [] 0 with
    | none => exact .inl ⟨rfl, rfl⟩
    | some p =>
      simp only
      by_cases hf : f < 0 ∨ 100 < f
      · rw [if_pos hf]; exact .inl ⟨rfl, rfl⟩
      · rw [if_neg hf]
        obtain ⟨y, i⟩ := p
        refine .inr ⟨by simp only, hg, by omega, by omega, y, i, by simp only, by simp only⟩
  · rw [if_neg hg]; exact .inl ⟨rfl, rfl⟩
set_option maxRecDepth 20000 in
set_option maxHeartbeats 8000000 in
/-- chaperonetop.TopNever. -/
theorem topNever_any (x : TT) (f : Int) (w : World) (hg : Gl w) (hx : x.In w) (hnb : x.nb) :
    Calls Tryz.prog 5 #[.agg #[.int .i64 x.k, .int .i64 x.n, .int .i64 x.t.k, .slice x.t.a x.t.l.length x.t.c, .int .i64 x.f.k, .slice x.f.a x.f.l.length x.f.c, .slice x.a x.l.length x.c], .int .i64 f] w fun e w' => e = .returned (.bool true) ∧ Below w.heap.size w w' := by
  obtain ⟨W1, hW1⟩ : ∃ W, W = w.alloc (.cells #[.int .i64 x.k, .int .i64 x.n, .int .i64 x.t.k, .slice x.t.a x.t.l.length x.t.c, .int .i64 x.f.k, .slice x.f.a x.f.l.length x.f.c, .slice x.a x.l.length x.c] 27) := ⟨_, rfl⟩
  have hb1 : Below w.heap.size w W1 := by rw [hW1]; exact (Below.refl _ _).alloc (Nat.le_refl _) _
  have h7 : At7 W1 w.heap.size 0 x := by constructor <;> (rw [hW1]; simp [go_sem])
  have HR : Hid (Calls Tryz.prog 18 #[.agg #[.int .i64 x.k, .int .i64 x.n, .int .i64 x.t.k, .slice x.t.a x.t.l.length x.t.c, .int .i64 x.f.k, .slice x.f.a x.f.l.length x.f.c, .slice x.a x.l.length x.c], .int .i64 f] W1 (OutPost (runR x.tm f) W1)) := runFn_any x f W1 (hg.below hb1).gp (hx.below hb1) hnb
  have HX : Hid (∀ W, Below W1.heap.size W1 W → At7 W w.heap.size 0 x ∧ x.In W ∧ Gl W ∧ Below w.heap.size w W) := fun W hW => ⟨h7.below hW, (hx.below hb1).below hW, (hg.below hb1).below hW, hb1.trans (hW.mono hb1.size)⟩
  have HNB : Hid x.nb := hnb
  have HA : Hid (∀ W, Below W1.heap.size W1 W → Calls Tryz.prog 19 #[] W fun e w' => e = .returned (.bool true) ∧ Hid (Below w.heap.size w w')) := fun W hW => by
    refine (alive_any W (HX.out W hW).2.2.1).mono ?_
    rintro e w' ⟨rfl, hb⟩
    exact ⟨rfl, (HX.out W hW).2.2.2.trans (hb.mono (HX.out W hW).2.2.2.size)⟩
  obtain ⟨r, hr⟩ : ∃ r, r = runR x.tm f := ⟨_, rfl⟩
  have hcases := runR_cases x.tm f
  rw [← hr] at HR hcases
  clear hr hb1 h7 hg hx hnb
  go_enter Tryz.func5, Tryz.ntmps5
  go_wp2_with fail
  rw [← hW1]
  clear hW1
  refine HR.out.mono ?_
  rintro e w2 ⟨rfl, hb2⟩
  obtain ⟨W3, hW3⟩ : ∃ W, W = w2.alloc (.cells #[.int .i64 r.1.k, .int .i64 r.1.n, .bool r.1.b] 41) := ⟨_, rfl⟩
  have hA2 : Below w2.heap.size w2 W3 := by rw [hW3]; exact (Below.refl _ _).alloc (Nat.le_refl _) _
  have hA : Below W1.heap.size W1 W3 := hb2.trans (hA2.mono hb2.size)
  have p0 : W3.cell? ⟨w2.heap.size, 0, none⟩ = some (.int .i64 r.1.k) := by rw [hW3]; simp [go_sem]
  have p1 : W3.cell? ⟨w2.heap.size, 1, none⟩ = some (.int .i64 r.1.n) := by rw [hW3]; simp [go_sem]
  have p2 : W3.cell? ⟨w2.heap.size, 2, none⟩ = some (.bool r.1.b) := by rw [hW3]; simp [go_sem]
  have lw2 : w2.heap.size < W3.heap.size := World.block_lt_of_cell? _ _ p0
  have HB3 : Hid (Below W1.heap.size W1 W3) := hA
  clear hb2 hA2 hA HR
  rcases hcases with ⟨h0, h1⟩ | ⟨h0, hgd, f1, f2, y0, i0, hrd, hrun⟩
  · rw [h0] at p0 p1 p2
    have hAl := HA.out W3 HB3.out
    have HAl : Hid (Calls Tryz.prog 19 #[] W3 fun e w' => e = .returned (.bool true) ∧ Hid (Below w.heap.size w w')) := hAl
    have e1 : r.1 = out0 := h0
    obtain ⟨⟨rk, rn, rb⟩, r2⟩ := r
    simp only at e1 h1
    cases e1
    clear hAl HA HX h0
    go_upto_region 2 with fail
    have hW3' : W3 = w2.alloc (.cells #[.int .i64 0, .int .i64 0, .bool false] 41) := hW3
    try simp only [out0]
    rw [← hW3']
    clear hW3 hW3'
    go_wp2_with fail
    refine HAl.out.mono ?_
    rintro e w4 ⟨rfl, HB⟩
    go_wp2_with fail
    go_ret
    exact ⟨rfl, HB.out⟩
  · have hf100 : f.toNat ≤ 100 := by omega
    obtain ⟨sy, zy, ty⟩ := check_run hgd hrd
    have hnev := never sy zy hf100 ty
    rw [← hrun] at hnev
    have HCK : Hid (Calls Tryz.prog 20 #[.agg #[.int .i64 x.k, .int .i64 x.n, .int .i64 x.t.k, .slice x.t.a x.t.l.length x.t.c, .int .i64 x.f.k, .slice x.f.a x.f.l.length x.f.c, .slice x.a x.l.length x.c]] W3 fun e w' => ∃ (y : TT) (i : Tr), i.k = i0.k ∧ e = .returned (.tuple #[.agg #[.int .i64 y.k, .int .i64 y.n, .int .i64 y.t.k, .slice y.t.a y.t.l.length y.t.c, .int .i64 y.f.k, .slice y.f.a y.f.l.length y.f.c, .slice y.a y.l.length y.c], .agg #[.int .i64 i.k, .slice i.a i.l.length i.c], .int .i64 0]) ∧ Below W1.heap.size W1 w' ∧ Below W3.heap.size W3 w') := by
      obtain ⟨_, xi, xg, _⟩ := HX.out W3 HB3.out
      refine (check_any x W3 xg.gp xi HNB.out).mono ?_
      rintro e w' ⟨hb, ⟨h1, _⟩ | ⟨_, h2, _⟩ | ⟨_, y, i, h2, he, _⟩⟩
      · rw [hgd] at h1; cases h1
      · rw [hrd] at h2; cases h2
      · rw [hrd] at h2
        have : (y0, i0) = (y.tm, i.ty) := Option.some.inj h2
        refine ⟨y, i, ?_, he, HB3.out.trans (hb.mono HB3.out.size), hb⟩
        rw [(Prod.mk.inj this).2, i.ty_k]
    obtain ⟨a0, a1, a2, a3, a4, a5, a6⟩ := (HX.out W3 HB3.out).1
    simp only [Nat.zero_add] at a0 a1 a2 a3 a4 a5 a6
    have lx : w.heap.size < W3.heap.size := World.block_lt_of_cell? _ _ a0
    have HNV : Hid ((r.1.k = 4 ∨ r.1.k = 5 ∨ ((r.1.k = 1 ∨ r.1.k = 2 ∨ r.1.k = 3) ∧ (i0.k ≠ 0 → r.1.k = i0.k)))) := hnev
    obtain ⟨o, r2⟩ := r
    simp only at h0 p0 p1 p2 HNV
    subst h0
    clear hnev sy zy ty hgd hrd hrun f1 f2 hf100 HNB
    go_upto_region 2 with fail
    rw [← hW3]
    clear hW3
    go_wp2_with fail
    refine HCK.out.mono ?_
    rintro e w4 ⟨y, i, hik, rfl, hb4, hb34⟩
    have q0 := cell_later hb34 p0
    have k1 : decide (o.k < 1) = false := by have := HNV.out; simp; omega
    have k6 : decide (6 ≤ o.k) = false := by have := HNV.out; simp; omega
    have lo : w2.heap.size < w4.heap.size := World.block_lt_of_cell? _ _ q0
    obtain ⟨W5, hW5⟩ : ∃ W, W = (w4.alloc (.cells #[.int .i64 y.k, .int .i64 y.n, .int .i64 y.t.k, .slice y.t.a y.t.l.length y.t.c, .int .i64 y.f.k, .slice y.f.a y.f.l.length y.f.c, .slice y.a y.l.length y.c] 27)).alloc (.cells #[.int .i64 i.k, .slice i.a i.l.length i.c] 24) := ⟨_, rfl⟩
    have hA5 : Below w4.heap.size w4 W5 := by rw [hW5]; exact ((Below.refl _ _).alloc (Nat.le_refl _) _).alloc (by simp) _
    have s0 := cell_later hA5 q0
    have s1 : W5.cell? ⟨w4.heap.size + 1, 0, none⟩ = some (.int .i64 i.k) := by rw [hW5]; simp [go_sem]
    have l5 : w4.heap.size + 1 < W5.heap.size := World.block_lt_of_cell? _ _ s1
    have lo5 : w2.heap.size < W5.heap.size := World.block_lt_of_cell? _ _ s0
    have HAl : Hid (Calls Tryz.prog 19 #[] W5 fun e w' => e = .returned (.bool true) ∧ Hid (Below w.heap.size w w')) := HA.out W5 (hb4.trans (hA5.mono hb4.size))
    have hnv := HNV.out
    rw [← hik] at hnv
    clear hb4 hb34 hA5 HCK HA HX HNV a0 a1 a2 a3 a4 a5 a6 p0 p1 p2 hik q0
    by_cases hi : i.k = 0
    · have e1 : (i.k == 0) = true := by simpa using hi
      clear hnv hi
      go_upto_region 5 with fail
      rw [← hW5]
      clear hW5
      go_wp2_with fail
      refine HAl.out.mono ?_
      rintro e w6 ⟨rfl, HB⟩
      go_wp2_with fail
      go_ret
      exact ⟨rfl, HB.out⟩
    · have e1 : (i.k == 0) = false := by simpa using hi
      by_cases h3 : 3 < o.k
      · have e2 : decide (3 < o.k) = true := by simpa using h3
        clear hnv hi h3
        go_upto_region 5 with fail
        rw [← hW5]
        clear hW5
        go_wp2_with fail
        refine HAl.out.mono ?_
        rintro e w6 ⟨rfl, HB⟩
        go_wp2_with fail
        go_ret
        exact ⟨rfl, HB.out⟩
      · have e2 : decide (3 < o.k) = false := by simpa using h3
        have e3 : (o.k == i.k) = true := by
          rcases hnv with h | h | ⟨_, h⟩
          · omega
          · omega
          · simpa using h hi
        clear hnv hi h3
        go_upto_region 5 with fail
        rw [← hW5]
        clear hW5
        go_wp2_with fail
        refine HAl.out.mono ?_
        rintro e w6 ⟨rfl, HB⟩
        go_wp2_with fail
        go_ret
        exact ⟨rfl, HB.out⟩
end Go.Proofs.YtnddkmccagiclaaGreatDoor

/-
  Whatever can be read as data of the type 'Type{Kind int, L []Type}' is a tree that lies in memory.
-/
namespace Go.Proofs.YtnddkmccagiclaaGreatDoor
open Go.ChangeShapes Go.WideShapes Go.ChangeAt Go.RowKit
theorem Tryz.cells24 : Tryz.prog.cellsOf 24 = 2 := by kernel_rfl
theorem Tryz.cells22 : Tryz.prog.cellsOf 22 = 1 := by kernel_rfl
theorem Tryz.cells3 : Tryz.prog.cellsOf 3 = 1 := by kernel_rfl
theorem cell_spot {w : World} {a : Addr} {v : Value} (h : w.cell? a = some v) : a = ⟨a.block, a.off, none⟩ := by
  obtain ⟨b, o, s⟩ := a
  cases s with
  | none => rfl
  | some s =>
    unfold World.cell? at h
    split at h <;> simp at h
theorem cellsTwo {w : World} {base : Nat} {a : Addr} {u v : Value} (h : w.cells? base a 2 = some [u, v]) : w.cell? a = some u ∧ w.cell? (a.add 1) = some v := by
  unfold World.cells? at h
  split at h
  · have h0 : a.add 0 = a := by simp [Addr.add]
    simp only [List.range_succ, List.range_zero, List.nil_append, List.cons_append, List.mapM_cons, List.mapM_nil, h0] at h
    cases hu : w.cell? a with
    | none => simp [hu] at h
    | some u' =>
      cases hv : w.cell? (a.add 1) with
      | none => simp [hu, hv] at h
      | some v' =>
        simp [hu, hv] at h
        exact ⟨by rw [h.1], by rw [h.2]⟩
  · cases h
set_option maxRecDepth 100000 in
theorem tr_of {H : Type} {enc : TypeId × Value → H} {W : World} {base : Nat} {spare : Nat → Bool} {held : Bool} : ∀ (fuel : Nat) (cs : List Value) (x : DataW H × List MemPlace),
    DataW.trod enc Tryz.prog W base spare held fuel 24 cs = some x → ∃ t : Tr, cs = [.int .i64 t.k, .slice t.a t.l.length t.c] ∧ t.In W := by
  intro fuel
  induction fuel using Nat.strongRecOn with
  | _ fuel ih =>
    intro cs x h
    obtain ⟨xs, n, rfl, _, hl, hlen, hf⟩ := DataW.trod_struct Tryz.underlying24 h
    rw [Tryz.cells24] at hl
    match cs, hl with
    | [c0, c1], _ =>
      have h0 := hf 0 { name := "Kind", type := 3, offset := 0, embedded := false, tag := "", pkgPath := "", byteOffset := 0 } rfl
      have h1 := hf 1 { name := "L", type := 22, offset := 1, embedded := false, tag := "", pkgPath := "", byteOffset := 8 } rfl
      simp only [List.drop_zero, List.drop_succ_cons, Tryz.cells3, Tryz.cells22, List.take_succ_cons, List.take_zero] at h0 h1
      match xs, hlen with
      | [y0, y1], _ =>
        simp only [List.getElem?_cons_zero, List.getElem?_cons_succ] at h0 h1
        obtain ⟨k, hc0, _, _⟩ := DataW.trod_int Tryz.underlying3 h0
        simp only [List.cons.injEq, and_true] at hc0
        subst hc0
        rcases DataW.trod_slice Tryz.underlying22 h1 with ⟨hc1, _⟩ | ⟨a, len, cap, elems, rest, m, rfl, hc1, _, _, _, _, hel, hat, _⟩
        · simp only [List.cons.injEq, and_true] at hc1
          subst hc1
          exact ⟨.mk k none 0 [], rfl, Tr.In_nil _ _ _ _⟩
        · simp only [List.cons.injEq, and_true] at hc1
          subst hc1
          have hex : ∀ i, i < len → ∃ t : Tr, W.cells? base (a.add (i * 2)) 2 = some [.int .i64 t.k, .slice t.a t.l.length t.c] ∧ t.In W := by
            intro i hi
            have hi' := hat i hi
            rw [Tryz.cells24, List.getElem?_eq_getElem (by omega)] at hi'
            obtain ⟨cs', hcs, htr⟩ := Option.bind_eq_some_iff.1 hi'
            obtain ⟨t, rfl, hin⟩ := ih m (by omega) cs' _ htr
            exact ⟨t, hcs, hin⟩
          haveI : Inhabited Tr := ⟨.mk 0 none 0 []⟩
          obtain ⟨T, hT⟩ := Go.Deep.choose_lt hex
          refine ⟨.mk k (some a) cap ((List.range len).map T), by simp, ?_⟩
          refine Tr.In_mk.2 ⟨fun j hj => ?_, fun t ht => ?_⟩
          rotate_left
          · obtain ⟨i, hi, rfl⟩ := List.mem_map.1 ht
            exact (hT i (by simpa using hi)).2
          have hj' : j < len := by simpa using hj
          obtain ⟨hz, _⟩ := cellsTwo (hT 0 (by omega)).1
          simp only [Nat.zero_mul] at hz
          have ha0 : a.add 0 = a := by simp [Addr.add]
          rw [ha0] at hz
          have ha := cell_spot hz
          have hc := (hT j hj').1
          obtain ⟨c0, c1⟩ := cellsTwo hc
          have hadd : ∀ q, a.add q = ⟨a.block, a.off + q, none⟩ := by
            intro q
            rw [ha]
            unfold Addr.add
            by_cases hq : q = 0 <;> simp [hq]
          refine ⟨a.block, a.off, by rw [← ha], ?_, ?_⟩
          · rw [hadd] at c0
            simpa using c0
          · rw [Go.Deep.add_add, hadd] at c1
            simp only [List.getElem_map, List.getElem_range, Tr.sl]
            rw [show a.off + j * 2 + 1 = a.off + (j * 2 + 1) by omega]
            exact c1
end Go.Proofs.YtnddkmccagiclaaGreatDoor
