/-
  What the call of term.Parse answers, at any text.
-/
import Derived.Test.YtnddkmccagiclaaGreatDoorLot92534916af
import Derived.Test.YtnddkmccagiclaaGreatDoorLotb837bfd78f
import Derived.Test.YtnddkmccagiclaaGreatDoorLot914012f14a
import Derived.Test.YtnddkmccagiclaaGreatDoorLot141546800d
import Derived.BigQuiet
import Derived.Test.YtnddkmccagiclaaGreatDoorLotfb68e5fec9
import Derived.Test.YtnddkmccagiclaaGreatDoorLot8074724fc1
import Derived.Test.YtnddkmccagiclaaGreatDoorLot694cd256ef
import Derived.Deep.RegionHeld3
import Derived.Deep.DeepCutAuto
namespace Go.Proofs.YtnddkmccagiclaaGreatDoor
open Go.RowKit

/-! ### Numbers of 64 bits; how many words there are, and how long -/

def Tm.nb : Tm → Prop
  | ⟨_, n, _, _, l⟩ => n ≤ 9223372036854775807 ∧ ∀ x, x ∈ l → x.nb

theorem Tm.nb_mk {k n : Int} {t f : Ty} {l : List Tm} : (Tm.mk k n t f l).nb ↔ n ≤ 9223372036854775807 ∧ ∀ x, x ∈ l → x.nb := by
  rw [Tm.nb]

theorem TT.nb_tm {x : TT} : x.tm.nb → x.nb := by
  induction x using TT.ind with
  | h k n t f a c l ih =>
    intro h
    rw [TT.tm_mk] at h
    obtain ⟨h1, h2⟩ := Tm.nb_mk.1 h
    exact TT.nb_mk.2 ⟨h1, fun x hx => ih x hx (h2 _ (List.mem_map_of_mem hx))⟩

theorem numOf_le {d : ByteArray} {v : Int} (h : numOf d = some v) : v ≤ 9223372036854775807 := by
  unfold numOf at h
  split at h
  · rename_i u hu
    split at h
    · cases h; exact (Lib.atoiAll_bounds hu).2
    · cases h
  · cases h

theorem atWord_le (x : ByteArray) : ∀ (l : List ByteArray) (i k : Nat), atWord x l i = some k → k < i + l.length
  | [], i, k, h => by cases h
  | y :: r, i, k, h => by
    simp only [atWord] at h
    split at h
    · cases h; simp
    · have := atWord_le x r (i + 1) k h
      simp only [List.length_cons]; omega

theorem readWord_nb {x : ByteArray} {r : List ByteArray} {p : Tm × List ByteArray} (h : readWord x r = some p) : p.1.nb := by
  unfold readWord at h
  split at h
  · rename_i b hb
    have := atWord_le x truthWs 0 b hb
    have e : truthWs.length = 2 := rfl
    cases h
    exact Tm.nb_mk.2 ⟨by omega, fun x hx => by cases hx⟩
  · split at h
    · obtain ⟨v, hv, rfl⟩ := Option.map_eq_some_iff.1 h
      exact Tm.nb_mk.2 ⟨numOf_le hv, fun x hx => by cases hx⟩
    · obtain ⟨v, hv, rfl⟩ := Option.map_eq_some_iff.1 h
      exact Tm.nb_mk.2 ⟨numOf_le hv, fun x hx => by cases hx⟩

theorem readN_nb (f : List ByteArray → Option (Tm × List ByteArray)) (hf : ∀ ws p, f ws = some p → p.1.nb) : ∀ (m : Nat) (ws : List ByteArray) (q : List Tm × List ByteArray), readN f m ws = some q → ∀ x, x ∈ q.1 → x.nb
  | 0, ws, q, h => by simp [readN] at h; rw [← h]; intro x hx; cases hx
  | m + 1, ws, q, h => by
    simp only [readN, Option.bind_eq_some_iff, Option.map_eq_some_iff] at h
    obtain ⟨p, hp, q', hq, rfl⟩ := h
    intro x hx
    rcases List.mem_cons.1 hx with rfl | hx
    · exact hf ws p hp
    · exact readN_nb f hf m _ _ hq x hx

theorem readTm_nb : ∀ (n : Nat) (ws : List ByteArray) (p : Tm × List ByteArray), readTm n ws = some p → p.1.nb
  | 0, _, _, h => by simp [readTm] at h
  | n + 1, [], _, h => by simp [readTm] at h
  | n + 1, x :: r, p, h => by
    by_cases hx : x = opB
    · subst hx
      rw [readTm_open] at h
      cases r with
      | nil => cases h
      | cons y r1 =>
        simp only [inTm, Option.bind_eq_some_iff, Option.map_eq_some_iff] at h
        obtain ⟨k, _, p1, h1, q, h2, r4, h3, rfl⟩ := h
        exact Tm.nb_mk.2 ⟨by omega, readN_nb (readTm n) (fun ws p hp => readTm_nb n ws p hp) _ _ _ h2⟩
    · rw [readTm_word n x r hx] at h
      exact readWord_nb h

theorem flush_len (cur : List UInt8) : (flush cur).length ≤ 1 := by unfold flush; split <;> simp

theorem tok_len : ∀ (s cur : List UInt8), (tokW cur s).length ≤ 2 * s.length + 1
  | [], cur => by rw [tokW]; have := flush_len cur; omega
  | c :: r, cur => by
    rw [tokW]
    have h1 := flush_len cur
    split
    · have := tok_len r []
      simp only [List.length_append, List.length_cons]; omega
    · split
      · have := tok_len r []
        simp only [List.length_append, List.length_cons, List.length_nil]; omega
      · have := tok_len r (cur ++ [c])
        simp only [List.length_cons]; omega

theorem tok_small : ∀ (s cur x : List UInt8), x ∈ tokW cur s → x.length ≤ cur.length + s.length + 1
  | [], cur, x, h => by
    rw [tokW, flush] at h
    split at h
    · cases h
    · rcases List.mem_singleton.1 h with rfl; omega
  | c :: r, cur, x, h => by
    have hf : ∀ y, y ∈ flush cur → y.length ≤ cur.length := by
      intro y hy
      rw [flush] at hy
      split at hy
      · cases hy
      · rcases List.mem_singleton.1 hy with rfl; omega
    rw [tokW] at h
    split at h
    · rcases List.mem_append.1 h with h | h
      · have := hf x h; simp only [List.length_cons]; omega
      · have := tok_small r [] x h; simp only [List.length_cons, List.length_nil] at this ⊢; omega
    · split at h
      · rcases List.mem_append.1 h with h | h
        · rcases List.mem_append.1 h with h | h
          · have := hf x h; simp only [List.length_cons]; omega
          · rcases List.mem_singleton.1 h with rfl; simp
        · have := tok_small r [] x h; simp only [List.length_cons, List.length_nil] at this ⊢; omega
      · have := tok_small r (cur ++ [c]) x h
        simp only [List.length_append, List.length_cons, List.length_nil] at this ⊢; omega

theorem words_len (s : List UInt8) (h : s.length ≤ 1000) : (wordsOf s).length ≤ 2001 := by
  rw [wordsOf, List.length_map]; have := tok_len s []; omega

theorem words_small (s : List UInt8) (h : s.length ≤ 1000) : SmW (wordsOf s) := by
  intro x hx
  obtain ⟨y, hy, rfl⟩ := List.mem_map.1 hx
  have := tok_small s [] y hy
  show y.toArray.size ≤ 1000000
  simp at this ⊢
  omega

/-! ### Parse -/

/-- The good term that a text tells. -/
def parseS (s : List UInt8) : Option Tm :=
  match readTm ((wordsOf s).length + 1) (wordsOf s) with
  | some (t, []) => if goodM 0 t = true then some t else none
  | _ => none

def PsPost (s : ByteArray) (w : World) (e : Ending) (w' : World) : Prop :=
  ∃ (x : TT) (er : Int), e = .returned (.tuple #[.agg #[.int .i64 x.k, .int .i64 x.n, .int .i64 x.t.k, .slice x.t.a x.t.l.length x.t.c, .int .i64 x.f.k, .slice x.f.a x.f.l.length x.f.c, .slice x.a x.l.length x.c], .int .i64 er]) ∧ x.In w' ∧ x.nb ∧ Below w.heap.size w w' ∧
    ((1000 < s.size ∧ er = 4 ∧ x = tleaf 0 0) ∨ (s.size ≤ 1000 ∧ parseS s.data.toList = none ∧ er = 1 ∧ x = tleaf 0 0) ∨ (s.size ≤ 1000 ∧ parseS s.data.toList = some x.tm ∧ er = 0))

theorem tleaf_nb (k n : Int) (h : n ≤ 9223372036854775807) : (tleaf k n).nb := TT.nb_mk.2 ⟨h, fun x hx => by cases hx⟩

theorem Kept.lowB {R B : Nat} {u v : World} (h : Kept R none u v) (hR : R ≤ u.heap.size) (hB : B ≤ R) : Below B u v :=
  ⟨h.os, h.tape, h.output, h.size, fun k hk => h.block k (by omega) (by omega) (by simp)⟩

/-- The result's place is written: what is below it stays. -/
theorem put7_below {w w4 : World} {x : TT} (h : Below w.heap.size w w4) : Below w.heap.size w (put7 w4 w.heap.size x) :=
  h.trans ⟨(put7_kept (x := x)).os, (put7_kept (x := x)).tape, (put7_kept (x := x)).output, (put7_kept (x := x)).size, fun k hk => put7_kept.block k (by have := h.size; omega) (by omega) (by simp)⟩

set_option maxRecDepth 20000 in
set_option maxHeartbeats 1000000 in
theorem parse_long (s : ByteArray) (hs : 1000 < s.size) (hm : s.size ≤ 9223372036854775807) (w : World) :
    Calls Tryz.prog 16 #[.string s] w (PsPost s w) := by
  have hbx := box7_alloc w
  have i1 : (1000 : Int) < (s.size : Int) := by omega
  have HE : Hid (PsPost s w (.returned (.tuple #[.agg #[.int .i64 0, .int .i64 0, .int .i64 0, .slice none 0 0, .int .i64 0, .slice none 0 0, .slice none 0 0], .int .i64 4])) (w7 w)) := ⟨tleaf 0 0, 4, rfl, tleaf_in _ _ _, tleaf_nb _ _ (by omega), w7_below w, .inl ⟨hs, rfl, rfl⟩⟩
  clear hbx
  go_enter Tryz.func16, Tryz.ntmps16
  go_wp2_with fail
  refine bodyPost_ret (v := .tuple #[.agg #[.int .i64 0, .int .i64 0, .int .i64 0, .slice none 0 0, .int .i64 0, .slice none 0 0, .slice none 0 0], .int .i64 4]) ?_ rfl HE.out
  simp [results, Tryz.results16, go_sem]

set_option maxRecDepth 20000 in
set_option maxHeartbeats 4000000 in
theorem parse_short (s : ByteArray) (hs : s.size ≤ 1000) (w : World) (hg : Gl w) :
    Calls Tryz.prog 16 #[.string s] w (PsPost s w) := by
  have i1 : ¬ (1000 : Int) < (s.size : Int) := by omega
  have hsl : s.data.toList.length = s.size := Array.length_toList
  obtain ⟨ws, hws⟩ : ∃ ws, wordsOf s.data.toList = ws := ⟨_, rfl⟩
  have HC : Hid (Calls Tryz.prog 28 #[.string s] (w7 w) fun e w' => ∃ A, e = .returned (.slice (some ⟨A, 0, none⟩) ws.length ws.length) ∧ (w7 w).heap.size ≤ A ∧ w'.ownsRow (w7 w).heap.size 9 1 (.slice (some ⟨A, 0, none⟩) ws.length ws.length) ws.length (ws.map Value.string) ∧ Below (w7 w).heap.size (w7 w) w') := by
    have := cut_any s hs (w7 w) (hg.below (w7_below w))
    rw [hws] at this
    exact this
  have HWL : Hid (ws.length ≤ 2001 ∧ SmW ws) := by rw [← hws]; exact ⟨words_len _ (by omega), words_small _ (by omega)⟩
  have HWS : Hid (wordsOf s.data.toList = ws) := hws
  clear hws
  have HG : Hid (Gl (w7 w)) := hg.below (w7_below w)
  have hgs := hg.size
  have hw7 : (w7 w).heap.size = w.heap.size + 1 := by simp [w7]
  clear hg hsl
  go_enter Tryz.func16, Tryz.ntmps16
  go_wp2_with fail
  refine HC.out.mono ?_
  rintro e w1 ⟨A, rfl, hA, hown, hb1⟩
  have hwl := HWL.out.1
  have hAlt : A < w1.heap.size := by
    rcases hown.2 with ⟨h, _⟩ | ⟨g, cap, cur, h, _, hg, _⟩
    · cases h
    · cases h; exact (Array.getElem?_eq_some_iff.1 hg).1
  have hb0 : Below w.heap.size w w1 := (w7_below w).trans (hb1.mono (by rw [hw7]; omega))
  have hsz1 : w.heap.size + 1 ≤ w1.heap.size := by have := hb1.size; rw [hw7] at this; exact this
  have hbx1 : Box7 w1 w.heap.size (tleaf 0 0) := (box7_alloc w).below hb1
  have hbR : ∀ o, Below w1.heap.size w1 (w1.alloc o) := fun o => (Below.refl _ _).alloc (Nat.le_refl _) _
  have hrs : ∀ o, o = Obj.cells #[.slice (some ⟨A, 0, none⟩) ws.length ws.length, .bool false] 60 → RS w1.heap.size ws false (w1.alloc o) := by
    rintro o rfl
    refine ⟨⟨_, _, by simp [go_sem], Nat.le_refl _, fun _ => ⟨A, 0, rfl, hAlt, fun i x hx => ?_⟩⟩, by simp [go_sem], by simp [go_sem], by simp [go_sem], by omega⟩
    have hi : i < ws.length := (List.getElem?_eq_some_iff.1 hx).1
    rw [(hbR _).cell (p := ⟨A, 0 + i, none⟩) hAlt, Nat.zero_add, hown.cellAt i (by omega), List.getElem?_map, hx]
    rfl
  have HT : Hid (Calls Tryz.prog 29 #[.pointer (some ⟨w1.heap.size, 0, none⟩)] (w1.alloc (.cells #[.slice (some ⟨A, 0, none⟩) ws.length ws.length, .bool false] 60)) (TmPost w1.heap.size false (readTm (ws.length + 1) ws) (w1.alloc (.cells #[.slice (some ⟨A, 0, none⟩) ws.length ws.length, .bool false] 60)))) :=
    readTerm_any w1.heap.size (by omega) (ws.length + 1) ws false _ (by omega) HWL.out.2 ((HG.out.below hb1).below (hbR _)) (hrs _ rfl)
  have HD : Hid (Below w.heap.size w w1 ∧ Box7 w1 w.heap.size (tleaf 0 0) ∧ Gl w1) := ⟨hb0, hbx1, HG.out.below hb1⟩
  clear hA hown hb1 HC hAlt hb0 hbx1 hrs hbR HG hwl
  go_wp2_with fail
  refine HT.out.mono ?_
  rintro e w3 ⟨x, rfl, hi3, hbl3, hk3, hA3, he3⟩
  obtain ⟨ws', b', hr3, hs3⟩ := hA3.letters
  obtain ⟨O, hO⟩ : ∃ O, O = Obj.cells #[.slice (some ⟨A, 0, none⟩) ws.length ws.length, .bool false] 60 := ⟨_, rfl⟩
  rw [← hO] at hbl3 hk3
  have hbO : Below w1.heap.size w1 (w1.alloc O) := (Below.refl _ _).alloc (Nat.le_refl _) _
  have hsO : (w1.alloc O).heap.size = w1.heap.size + 1 := by simp
  have hsz3 : w1.heap.size + 1 ≤ w3.heap.size := by have := hk3.size; rw [hsO] at this; exact this
  have hB3 : Below w.heap.size w w3 := (HD.out.1.trans (hbO.mono (by omega))).trans (hk3.lowB (by rw [hsO]; omega) (by omega))
  have hbx3 : Box7 w3 w.heap.size (tleaf 0 0) := (HD.out.2.1.below hbO).kept hk3 (by omega)
  have hgl3 : Gl w3 := (HD.out.2.2.below hbO).kept (by omega) hk3
  have hbx : ∀ o, Below w3.heap.size w3 (w3.alloc o) := fun o => (Below.refl _ _).alloc (Nat.le_refl _) _
  -- facts on the reader
  obtain ⟨⟨ra, rc, hrc, _, _⟩, hrb, _, _, _⟩ := hr3
  have hxbl : x.Bl (w.heap.size < ·) := hbl3.mono fun b hb => by rw [hsO] at hb; omega
  have HE : Hid (∀ W, Below w3.heap.size w3 W → Box7 W w.heap.size (tleaf 0 0) ∧ Below w.heap.size w W ∧ x.In W ∧ x.Bl (w.heap.size < ·)) := fun W hW => ⟨hbx3.below hW, hB3.trans (hW.mono hB3.size), hi3.below hW, hxbl⟩
  have HS : Hid (StepR ((readTm (ws.length + 1) ws).map (·.2)) false ws' b' ∧ (∀ p, readTm (ws.length + 1) ws = some p → x.tm = p.1)) := ⟨hs3, he3⟩
  have HGL : Hid (Gl w3) := hgl3
  have hne : w1.heap.size ≠ w3.heap.size := by omega
  have hnl : w1.heap.size < w3.heap.size := by omega
  clear hi3 hbl3 hk3 hA3 he3 hs3 hB3 hbx3 hgl3 hbO hsO hxbl hO HD HT
  -- the two ways to end
  have BAD : Hid (parseS s.data.toList = none → ∀ W, Below w3.heap.size w3 W → PsPost s w (.returned (.tuple #[.agg #[.int .i64 0, .int .i64 0, .int .i64 0, .slice none 0 0, .int .i64 0, .slice none 0 0, .slice none 0 0], .int .i64 1])) (put7 W w.heap.size (tleaf 0 0))) :=
    fun hp W hW => ⟨tleaf 0 0, 1, rfl, tleaf_in _ _ _, tleaf_nb _ _ (by omega), put7_below (HE.out W hW).2.1, .inr (.inl ⟨hs, hp, rfl, rfl⟩)⟩
  have HPS : Hid (parseS s.data.toList = match readTm (ws.length + 1) ws with | some (t, []) => if goodM 0 t = true then some t else none | _ => none) := by show _ = _; rw [parseS, HWS.out]
  cases b' with
  | true =>
    have hpn : parseS s.data.toList = none := by
      have ho : readTm (ws.length + 1) ws = none := by
        rcases HS.out.1 with ⟨_, h⟩ | ⟨h, _⟩
        · cases h
        · exact Option.map_eq_none_iff.1 h
      rw [HPS.out, ho]
    obtain ⟨O, hO⟩ : ∃ O, O = Obj.cells #[.int .i64 x.k, .int .i64 x.n, .int .i64 x.t.k, .slice x.t.a x.t.l.length x.t.c, .int .i64 x.f.k, .slice x.f.a x.f.l.length x.f.c, .slice x.a x.l.length x.c] 27 := ⟨_, rfl⟩
    have HF : Hid _ := BAD.out hpn (w3.alloc O) (hbx O)
    have hbxO := (HE.out _ (hbx O)).1
    have HGT : Hid _ := put7_gets (x := tleaf 0 0) hbxO
    have h7 := hbxO.at7
    have c0 := h7.c0
    have c1 := h7.c1
    have c2 := h7.c2
    have c3 := h7.c3
    have c4 := h7.c4
    have c5 := h7.c5
    have c6 := h7.c6
    simp only [Nat.zero_add, tleaf] at c0 c1 c2 c3 c4 c5 c6
    have f0 := hbxO.fz 0 (by omega)
    have f1 := hbxO.fz 1 (by omega)
    have f2 := hbxO.fz 2 (by omega)
    have f3 := hbxO.fz 3 (by omega)
    have f4 := hbxO.fz 4 (by omega)
    have f5 := hbxO.fz 5 (by omega)
    have f6 := hbxO.fz 6 (by omega)
    subst hO
    clear hbxO h7 hpn BAD hbx HS HPS HGL
    go_wp2_with fail
    refine bodyPost_ret (v := .tuple #[.agg #[.int .i64 0, .int .i64 0, .int .i64 0, .slice none 0 0, .int .i64 0, .slice none 0 0, .slice none 0 0], .int .i64 1]) ?_ rfl HF.out
    obtain ⟨d0, d1, d2, d3, d4, d5, d6⟩ := HGT.out
    simp only [tleaf, List.length_nil] at d0 d1 d2 d3 d4 d5 d6
    simp [results, Tryz.results16, go_sem, d0, d1, d2, d3, d4, d5, d6]
  | false =>
    obtain ⟨p, hp, hp2⟩ : ∃ p, readTm (ws.length + 1) ws = some p ∧ p.2 = ws' := by
      rcases HS.out.1 with ⟨h, _⟩ | ⟨_, _, h⟩
      · exact Option.map_eq_some_iff.1 h
      · cases h
    have hxt : x.tm = p.1 := HS.out.2 p hp
    have hnb : x.nb := TT.nb_tm (hxt ▸ readTm_nb _ _ _ hp)
    obtain ⟨O, hO⟩ : ∃ O, O = Obj.cells #[.int .i64 x.k, .int .i64 x.n, .int .i64 x.t.k, .slice x.t.a x.t.l.length x.t.c, .int .i64 x.f.k, .slice x.f.a x.f.l.length x.f.c, .slice x.a x.l.length x.c] 27 := ⟨_, rfl⟩
    cases ws' with
    | cons y r' =>
      have hpn : parseS s.data.toList = none := by
        obtain ⟨p1, p2⟩ := p
        dsimp only at hp2
        subst hp2
        rw [HPS.out, hp]
      have i2 : (0 : Int) < (((y :: r').length : Nat) : Int) := by simp
      have HF : Hid _ := BAD.out hpn (w3.alloc O) (hbx O)
      have hbxO := (HE.out _ (hbx O)).1
      have HGT : Hid _ := put7_gets (x := tleaf 0 0) hbxO
      have h7 := hbxO.at7
      have c0 := h7.c0
      have c1 := h7.c1
      have c2 := h7.c2
      have c3 := h7.c3
      have c4 := h7.c4
      have c5 := h7.c5
      have c6 := h7.c6
      simp only [Nat.zero_add, tleaf] at c0 c1 c2 c3 c4 c5 c6
      have f0 := hbxO.fz 0 (by omega)
      have f1 := hbxO.fz 1 (by omega)
      have f2 := hbxO.fz 2 (by omega)
      have f3 := hbxO.fz 3 (by omega)
      have f4 := hbxO.fz 4 (by omega)
      have f5 := hbxO.fz 5 (by omega)
      have f6 := hbxO.fz 6 (by omega)
      subst hO
      have HP : Hid (readTm (ws.length + 1) ws = some p ∧ p.2 = y :: r' ∧ x.tm = p.1) := ⟨hp, hp2, hxt⟩
      clear hbxO h7 hpn BAD hbx HS HPS HGL hp hp2 hxt hnb HP
      go_wp2_with fail
      refine bodyPost_ret (v := .tuple #[.agg #[.int .i64 0, .int .i64 0, .int .i64 0, .slice none 0 0, .int .i64 0, .slice none 0 0, .slice none 0 0], .int .i64 1]) ?_ rfl HF.out
      obtain ⟨d0, d1, d2, d3, d4, d5, d6⟩ := HGT.out
      simp only [tleaf, List.length_nil] at d0 d1 d2 d3 d4 d5 d6
      simp [results, Tryz.results16, go_sem, d0, d1, d2, d3, d4, d5, d6]
    | nil =>
      have hps : parseS s.data.toList = if goodM 0 x.tm = true then some x.tm else none := by
        obtain ⟨p1, p2⟩ := p
        dsimp only at hp2 hxt
        subst hp2 hxt
        rw [HPS.out, hp]
      have HPP : Hid (parseS s.data.toList = if goodM 0 x.tm = true then some x.tm else none) := hps
      have HGD : Hid (Calls Tryz.prog 9 #[.agg #[.int .i64 x.k, .int .i64 x.n, .int .i64 x.t.k, .slice x.t.a x.t.l.length x.t.c, .int .i64 x.f.k, .slice x.f.a x.f.l.length x.f.c, .slice x.a x.l.length x.c], .int .i64 0] (w3.alloc O) fun e w' => e = .returned (.bool (goodM 0 x.tm)) ∧ Below (w3.alloc O).heap.size (w3.alloc O) w') := goodTm_any x 0 _ (HGL.out.below (hbx O)).gp (HE.out _ (hbx O)).2.2.1 hnb
      have i2 : ¬ (0 : Int) < ((([] : List ByteArray).length : Nat) : Int) := by simp
      simp only [List.length_nil] at hrc
      have e0 : ((0 : Nat) : Int) = 0 := rfl
      obtain ⟨g, hgd⟩ : ∃ g, goodM 0 x.tm = g := ⟨_, rfl⟩
      rw [hgd] at HGD
      have HGG : Hid (goodM 0 x.tm = g) := hgd
      have HNB : Hid x.nb := hnb
      have hBO := hbx O
      have HBO : Hid (Below w3.heap.size w3 (w3.alloc O)) := hBO
      have hbt : At7 (w3.alloc O) w3.heap.size 0 x := by subst hO; constructor <;> simp [go_sem]
      have HBT : Hid (At7 (w3.alloc O) w3.heap.size 0 x) := hbt
      have hnm : w3.heap.size < (w3.alloc O).heap.size := by simp
      clear hp hp2 hxt hps hgd hnb hBO hbt HS HPS hbx HGL
      subst hO
      go_wp2_with fail
      refine HGD.out.mono ?_
      rintro e w5 ⟨rfl, hb5⟩
      have hW5 : Below w3.heap.size w3 w5 := HBO.out.trans (hb5.mono HBO.out.size)
      have hbt5 := HBT.out.below hb5
      clear hb5 HGD
      cases g with
      | false =>
        have hpn : parseS s.data.toList = none := by rw [HPP.out, HGG.out]; rfl
        have HF : Hid _ := BAD.out hpn w5 hW5
        have hbxO := (HE.out _ hW5).1
        have HGT : Hid _ := put7_gets (x := tleaf 0 0) hbxO
        have h7 := hbxO.at7
        have c0 := h7.c0
        have c1 := h7.c1
        have c2 := h7.c2
        have c3 := h7.c3
        have c4 := h7.c4
        have c5 := h7.c5
        have c6 := h7.c6
        simp only [Nat.zero_add, tleaf] at c0 c1 c2 c3 c4 c5 c6
        have f0 := hbxO.fz 0 (by omega)
        have f1 := hbxO.fz 1 (by omega)
        have f2 := hbxO.fz 2 (by omega)
        have f3 := hbxO.fz 3 (by omega)
        have f4 := hbxO.fz 4 (by omega)
        have f5 := hbxO.fz 5 (by omega)
        have f6 := hbxO.fz 6 (by omega)
        clear hbxO h7 hpn BAD hW5 hbt5
        go_wp2_with fail
        refine bodyPost_ret (v := .tuple #[.agg #[.int .i64 0, .int .i64 0, .int .i64 0, .slice none 0 0, .int .i64 0, .slice none 0 0, .slice none 0 0], .int .i64 1]) ?_ rfl HF.out
        obtain ⟨d0, d1, d2, d3, d4, d5, d6⟩ := HGT.out
        simp only [tleaf, List.length_nil] at d0 d1 d2 d3 d4 d5 d6
        simp [results, Tryz.results16, go_sem, d0, d1, d2, d3, d4, d5, d6]
      | true =>
        have hpy : parseS s.data.toList = some x.tm := by rw [HPP.out, HGG.out]; rfl
        obtain ⟨hbxO, hBw, hxi, hxb⟩ := HE.out _ hW5
        have HF : Hid (PsPost s w (.returned (.tuple #[.agg #[.int .i64 x.k, .int .i64 x.n, .int .i64 x.t.k, .slice x.t.a x.t.l.length x.t.c, .int .i64 x.f.k, .slice x.f.a x.f.l.length x.f.c, .slice x.a x.l.length x.c], .int .i64 0])) (put7 w5 w.heap.size x)) :=
          ⟨x, 0, rfl, hxi.keptR put7_kept (hxb.mono fun b hb => by omega), HNB.out, put7_below hBw, .inr (.inr ⟨hs, hpy, rfl⟩)⟩
        have HGT : Hid _ := put7_gets (x := x) hbxO
        have t0 := hbt5.c0
        have t1 := hbt5.c1
        have t2 := hbt5.c2
        have t3 := hbt5.c3
        have t4 := hbt5.c4
        have t5 := hbt5.c5
        have t6 := hbt5.c6
        simp only [Nat.zero_add] at t0 t1 t2 t3 t4 t5 t6
        have h7 := hbxO.at7
        have c0 := h7.c0
        have c1 := h7.c1
        have c2 := h7.c2
        have c3 := h7.c3
        have c4 := h7.c4
        have c5 := h7.c5
        have c6 := h7.c6
        simp only [Nat.zero_add, tleaf] at c0 c1 c2 c3 c4 c5 c6
        have f0 := hbxO.fz 0 (by omega)
        have f1 := hbxO.fz 1 (by omega)
        have f2 := hbxO.fz 2 (by omega)
        have f3 := hbxO.fz 3 (by omega)
        have f4 := hbxO.fz 4 (by omega)
        have f5 := hbxO.fz 5 (by omega)
        have f6 := hbxO.fz 6 (by omega)
        clear hbxO h7 hpy BAD hW5 hbt5 hBw hxi hxb
        go_wp2_with fail
        refine bodyPost_ret (v := .tuple #[.agg #[.int .i64 x.k, .int .i64 x.n, .int .i64 x.t.k, .slice x.t.a x.t.l.length x.t.c, .int .i64 x.f.k, .slice x.f.a x.f.l.length x.f.c, .slice x.a x.l.length x.c], .int .i64 0]) ?_ rfl HF.out
        obtain ⟨d0, d1, d2, d3, d4, d5, d6⟩ := HGT.out
        simp [results, Tryz.results16, go_sem, d0, d1, d2, d3, d4, d5, d6]

/-- term.Parse. -/
theorem parse_any (s : ByteArray) (hm : s.size ≤ 9223372036854775807) (w : World) (hg : Gl w) : Calls Tryz.prog 16 #[.string s] w (PsPost s w) := by
  by_cases hs : s.size ≤ 1000
  · exact parse_short s hs w hg
  · exact parse_long s (by omega) hm w
end Go.Proofs.YtnddkmccagiclaaGreatDoor

/-
  The good term that a text tells, by trees of words: the same that the words tell, read one behind the other; the plain mathematics.
-/
namespace Go.Proofs.YtnddkmccagiclaaGreatDoor

/-- The trees of a text. -/
def treesR (s : List UInt8) (wi : Bool) : Option (List Tn × List UInt8) := treesS (2 * s.length + 3) s wi
def termR (x : Tn) : Option Tm := termT x.flat.length x

/-- The good term of a text, by its trees. -/
def parseR (s : List UInt8) : Option Tm :=
  match treesR s false with
  | some ([x], _) => (termR x).bind fun t => if goodM 0 t = true then some t else none
  | _ => none

theorem small_ok : ∀ (x : Tm) (ins : Nat), okTm x ins → ins + x.sz ≤ 1000 → smallM x := by
  intro x
  induction x using Tm.ind with
  | h k n t f l ih =>
    intro ins h hs
    obtain ⟨h1, h2⟩ := okTm_mk.1 h
    rw [Tm.sz_mk] at hs
    refine smallM_mk.2 ⟨?_, fun y hy => ih y hy _ (h2 y hy) ?_⟩
    · simp only [okTop, okNum, Bool.and_eq_true] at h1
      have hn := h1.2.2
      split at hn
      · simp only [Bool.and_eq_true, decide_eq_true_eq] at hn
        omega
      · split at hn
        · simp only [Bool.and_eq_true, decide_eq_true_eq] at hn
          omega
        · split at hn
          · simp only [Bool.or_eq_true, beq_iff_eq] at hn
            omega
          · simp only [beq_iff_eq] at hn
            omega
    · have e : y.sz ≤ (l.map Tm.sz).sum := sz_mem l y hy
      split <;> omega

theorem words_flat (s : List UInt8) : wordsOf s = flatB (tokW [] s) := rfl

/-- Both ways to read come to the same. -/
theorem parse_same (s : List UInt8) : parseR s = parseS s := by
  have hk : ∀ x, x ∈ tokW [] s → KindW x := tok_kinds s [] (fun _ h => by cases h)
  have htl := tok_len s []
  have key : ∀ t, parseR s = some t ↔ parseS s = some t := by
    intro t
    constructor
    · intro h
      rw [parseR] at h
      split at h
      · rename_i x r hx
        obtain ⟨u, hu, h⟩ := Option.bind_eq_some_iff.1 h
        split at h
        · rename_i hg
          obtain rfl := Option.some.inj h
          have h1 := trees_tok (2 * s.length + 3) s false
          rw [treesR] at hx
          rw [hx] at h1
          obtain ⟨a1, a2, a3⟩ := treesT_back _ _ _ _ _ hk h1.symm
          simp only [Bool.false_eq_true, if_false, List.append_nil, flatL_cons, flatL_nil] at a2
          have h2 := term_read _ x u (a1 x (by simp)) hu ((tokW [] s).length + 1) [] (by rw [a2]; omega)
          rw [List.append_nil, ← a2, ← words_flat] at h2
          have hl : (wordsOf s).length = (tokW [] s).length := by rw [words_flat, flatB, List.length_map]
          rw [parseS, hl, h2]
          simp only
          rw [if_pos hg]
        · cases h
      · cases h
    · intro h
      have hl : (wordsOf s).length = (tokW [] s).length := by rw [words_flat, flatB, List.length_map]
      rw [parseS] at h
      split at h
      · rename_i u hu
        split at h
        · rename_i hg
          obtain rfl := Option.some.inj h
          obtain ⟨g1, g2⟩ := goodM_ok hg
          rw [words_flat] at hu
          obtain ⟨x, ws', hx, e, e', ht⟩ := read_term _ _ u [] hk hu (small_ok u 0 g1 (by omega))
          obtain rfl : ws' = [] := by
            cases ws' with
            | nil => rfl
            | cons a b => cases e'
          rw [List.append_nil] at e
          have hxs : ∀ y, y ∈ [x] → y.nice := fun y hy => by
            rw [List.mem_singleton.1 hy]
            exact hx
          have h1 := treesT_flat _ [x] [] false 1 ([], []) (Nat.le_refl _) hxs (by simp [treesT])
          simp only [flatL_cons, flatL_nil, List.append_nil] at h1
          have h2 := treesT_more _ (2 * s.length + 3) _ _ _ (by rw [← e]; omega) h1
          rw [← e, ← trees_tok] at h2
          obtain ⟨p, hp, he⟩ := Option.map_eq_some_iff.1 h2
          obtain ⟨p1, p2⟩ := p
          obtain ⟨rfl, _⟩ := Prod.mk.inj he
          rw [parseR, treesR, hp]
          have h3 : termR x = some u := by
            rw [termR, ← ht]
            refine termT_more _ _ _ (Nat.le_refl _) ?_
            have : (flatB (tokW [] s)).length = (tokW [] s).length := by rw [flatB, List.length_map]
            rw [this, e]
            omega
          simp only
          rw [h3, Option.bind_some, if_pos hg]
        · cases h
      · cases h
  cases hr : parseR s with
  | some t => exact ((key t).1 hr).symm
  | none =>
    cases hs : parseS s with
    | none => rfl
    | some t => rw [(key t).2 hs] at hr; cases hr
end Go.Proofs.YtnddkmccagiclaaGreatDoor

/-
  A term is good: it has at most forty terms in it, and each is right where it stands; in plain mathematics; no program in it.
-/
namespace Go.Proofs.YtnddkmccagiclaaGreatDoor

/-- A term is right where it stands. -/
def rightM (ar : Int) : Tm → Int → Bool
  | ⟨k, n, t, f, l⟩, own => okTop ar own ⟨k, n, t, f, l⟩ && (l.map fun y => rightM ar y (insOf k own)).all id
theorem rightM_mk (ar k n : Int) (t f : Ty) (l : List Tm) (own : Int) : rightM ar ⟨k, n, t, f, l⟩ own = (okTop ar own ⟨k, n, t, f, l⟩ && l.all fun y => rightM ar y (insOf k own)) := by
  rw [rightM, List.all_map]
  rfl

theorem bindL_if {f : Tm → Nat → Option Nat} {Q : Tm → Bool} (n : Nat) (hf : ∀ y q, q ≤ n → f y q = if Q y = true ∧ y.sz ≤ q then some (q - y.sz) else none) : ∀ (l : List Tm) (r : Nat), r ≤ n → bindL f l r = if l.all Q = true ∧ (l.map Tm.sz).sum ≤ r then some (r - (l.map Tm.sz).sum) else none
  | [], r, _ => by simp [bindL]
  | x :: l, r, hr => by
    simp only [bindL, List.all_cons, List.map_cons, List.sum_cons, Bool.and_eq_true]
    rw [hf x r hr]
    by_cases h1 : Q x = true ∧ x.sz ≤ r
    · rw [if_pos h1]
      simp only [Option.bind_some]
      rw [bindL_if n hf l (r - x.sz) (by omega)]
      by_cases h2 : l.all Q = true ∧ (l.map Tm.sz).sum ≤ r - x.sz
      · rw [if_pos h2, if_pos ⟨⟨h1.1, h2.1⟩, by omega⟩]
        congr 1
        omega
      · rw [if_neg h2, if_neg (fun h => h2 ⟨h.1.2, by omega⟩)]
    · rw [if_neg h1, if_neg (fun h => h1 ⟨h.1.1, by omega⟩)]
      rfl

theorem goodS_if (ar : Int) : ∀ (n : Nat) (ins : Int) (x : Tm) (r : Nat), r ≤ n → goodS ar n ins x r = if rightM ar x ins = true ∧ x.sz ≤ r then some (r - x.sz) else none
  | 0, ins, x, r, hr => by
    have := x.sz_pos
    rw [if_neg (by omega)]
    simp [goodS]
  | n + 1, ins, x, 0, _ => by
    have := x.sz_pos
    rw [if_neg (by omega)]
    simp [goodS]
  | n + 1, ins, ⟨k, m, t, f, l⟩, r + 1, hr => by
    simp only [goodS]
    rw [rightM_mk, Tm.sz_mk]
    by_cases h0 : okTop ar ins ⟨k, m, t, f, l⟩ = true
    · rw [if_pos h0, bindL_if n (fun y q hq => goodS_if ar n (insOf k ins) y q hq) l r (by omega), h0]
      simp only [Bool.true_and]
      by_cases h2 : (l.all fun y => rightM ar y (insOf k ins)) = true ∧ (l.map Tm.sz).sum ≤ r
      · rw [if_pos h2, if_pos ⟨h2.1, by omega⟩]
        congr 1
        omega
      · rw [if_neg h2, if_neg (fun h => h2 ⟨h.1, by omega⟩)]
    · have h0' : okTop ar ins ⟨k, m, t, f, l⟩ = false := by simpa using h0
      rw [if_neg h0, if_neg (by rw [h0']; simp)]

/-- Good, by the two roads. -/
theorem goodM_right (ar : Int) (x : Tm) : goodM ar x = (decide (x.sz < 41) && rightM ar x 0) := by
  unfold goodM
  rw [goodS_if ar 40 0 x 40 (Nat.le_refl _)]
  by_cases h : rightM ar x 0 = true ∧ x.sz ≤ 40
  · rw [if_pos h, h.1]
    have : decide (x.sz < 41) = true := by simp; omega
    rw [this]
    rfl
  · rw [if_neg h]
    by_cases h1 : x.sz < 41
    · have : rightM ar x 0 = false := by
        cases hr : rightM ar x 0 with
        | false => rfl
        | true => exact absurd ⟨hr, by omega⟩ h
      rw [this]
      simp
    · have : decide (x.sz < 41) = false := by simp; omega
      rw [this]
      rfl
end Go.Proofs.YtnddkmccagiclaaGreatDoor

/-
  A region that draws its order, all of whose operations yield one value in every world of a class and leave a world of that class: one walk in the order of the text serves every order.
-/
namespace Go.Proofs.YtnddkmccagiclaaGreatDoor
open Go.RowKit

section
variable {P : Program} {C : World → Prop}

theorem wp_region_class {id : Nat} {Q : Exit → Act → World → Prop} {a : Act} {w : World} {l : List Oper} (hm : P.follows .mixedOrders = true) (hB : Region.lexB .any l.toArray = true) (hC : C { w with drawn := w.drawn + 1 })
    (h : wpQuiet P l.toArray C (fun a' => ∀ w', C w' → Q .normal a' w') l a) : (Code.region id l.toArray true).wp P Q a w :=
  wp_region_quiet (C := C) hm hB hC (by simpa using h)

variable {ops : Array Oper} {Q : Act → Prop} {a : Act} {o : Oper} {rest : List Oper}

/-- An operation that is wanted, and yields v in every world of the class. -/
theorem quiet_value (v : Value) (hw : Region.wanted o (yielded ops a.tmps) = true) (h : ∀ W, C W → (execOp a.eval o).run P W = .ok (.value v) W) (hk : wpQuiet P ops C Q rest (a.put o.dst v)) : wpQuiet P ops C Q (o :: rest) a :=
  wpQuiet_step fun K hK => by
    rw [if_pos hw]
    exact ⟨v, fun W hW => by unfold Oper.quietAt; rw [h W hW]; exact ⟨rfl, rfl⟩, hK _ hk⟩

/-- A call that is wanted, and hands back v in every world of the class. -/
theorem quiet_enter (v : Value) (f : FuncId) (args : Array Value) (hw : Region.wanted o (yielded ops a.tmps) = true) (h : ∀ W, C W → (execOp a.eval o).run P W = .ok (.enter f args) W) (hc : ∀ W, C W → Calls P f args W fun e w' => e = .returned v ∧ C w')
    (hk : wpQuiet P ops C Q rest (a.put o.dst v)) : wpQuiet P ops C Q (o :: rest) a :=
  wpQuiet_step fun K hK => by
    rw [if_pos hw]
    exact ⟨v, fun W hW => by unfold Oper.quietAt; rw [h W hW]; exact ⟨rfl, hc W hW⟩, hK _ hk⟩

/-- An operation that is not wanted. -/
theorem quiet_skip (hw : Region.wanted o (yielded ops a.tmps) = false) (hk : wpQuiet P ops C Q rest (a.put o.dst undef)) : wpQuiet P ops C Q (o :: rest) a :=
  wpQuiet_step fun K hK => by rw [if_neg (by rw [hw]; exact Bool.false_ne_true)]; exact hK _ hk
end
end Go.Proofs.YtnddkmccagiclaaGreatDoor

/-
  What the call of ref's right answers.
-/
namespace Go.Proofs.YtnddkmccagiclaaGreatDoor
open Go.RowKit

set_option maxRecDepth 20000 in
set_option maxHeartbeats 1000000 in
/-- right, of what has no kind. -/
theorem right_kind (x : TT) (ar own : Int) (w : World) (hk : x.k < 1 ∨ 9 < x.k) :
    Calls Tryz.prog 25 #[.agg #[.int .i64 x.k, .int .i64 x.n, .int .i64 x.t.k, .slice x.t.a x.t.l.length x.t.c, .int .i64 x.f.k, .slice x.f.a x.f.l.length x.f.c, .slice x.a x.l.length x.c], .int .i64 ar, .int .i64 own] w fun e w' => e = .returned (.bool false) ∧ Below w.heap.size w w' := by
  obtain ⟨W1, hW1⟩ : ∃ W, W = w.alloc (.cells #[.int .i64 x.k, .int .i64 x.n, .int .i64 x.t.k, .slice x.t.a x.t.l.length x.t.c, .int .i64 x.f.k, .slice x.f.a x.f.l.length x.f.c, .slice x.a x.l.length x.c] 27) := ⟨_, rfl⟩
  have hb1 : Below w.heap.size w W1 := by rw [hW1]; exact (Below.refl _ _).alloc (Nat.le_refl _) _
  have HB : Hid (Below w.heap.size w W1.drew) := hb1.drew
  clear hb1
  by_cases h1 : x.k < 1
  · have e1 : decide (x.k < 1) = true := by simpa using h1
    clear hk h1
    go_enter Tryz.func25, Tryz.ntmps25
    go_upto_region 1 with fail
    go_region
    rw [← hW1]
    go_wp2_with fail
    go_ret
    exact ⟨rfl, HB.out⟩
  · have e1 : decide (x.k < 1) = false := by simpa using h1
    have e2 : decide (9 < x.k) = true := by simp; omega
    clear hk h1
    go_enter Tryz.func25, Tryz.ntmps25
    go_upto_region 1 with fail
    go_region
    rw [← hW1]
    go_wp2_with fail
    go_ret
    exact ⟨rfl, HB.out⟩

set_option maxRecDepth 20000 in
set_option maxHeartbeats 1000000 in
/-- right, of another number of parts. -/
theorem right_parts (x : TT) (ar own : Int) (w : World) (hw : (Lit.int .i64 x.k).wf = true) (h1 : 1 ≤ x.k) (h9 : x.k ≤ 9) (hne : x.l.length ≠ partsOf x.k) :
    Calls Tryz.prog 25 #[.agg #[.int .i64 x.k, .int .i64 x.n, .int .i64 x.t.k, .slice x.t.a x.t.l.length x.t.c, .int .i64 x.f.k, .slice x.f.a x.f.l.length x.f.c, .slice x.a x.l.length x.c], .int .i64 ar, .int .i64 own] w fun e w' => e = .returned (.bool false) ∧ Below w.heap.size w w' := by
  obtain ⟨W1, hW1⟩ : ∃ W, W = w.alloc (.cells #[.int .i64 x.k, .int .i64 x.n, .int .i64 x.t.k, .slice x.t.a x.t.l.length x.t.c, .int .i64 x.f.k, .slice x.f.a x.f.l.length x.f.c, .slice x.a x.l.length x.c] 27) := ⟨_, rfl⟩
  have hb1 : Below w.heap.size w W1 := by rw [hW1]; exact (Below.refl _ _).alloc (Nat.le_refl _) _
  have e1 : decide (x.k < 1) = false := by simp; omega
  have e2 : decide (9 < x.k) = false := by simp; omega
  obtain ⟨PP, hPP⟩ : ∃ P : Int, P = (partsOf x.k : Int) := ⟨_, rfl⟩
  have e3 : ((x.l.length : Int) != PP) = true := by simp; omega
  have HP : Hid (∀ W, Below W1.heap.size W1 W → Calls Tryz.prog 45 #[.int .i64 x.k] W fun e w' => e = .returned (.int .i64 PP) ∧ Below W1.heap.size W1 w') := fun W hW => by
    refine (parts_any x.k hw W).mono ?_
    rintro e w' ⟨rfl, hb⟩
    rw [hPP]
    exact ⟨rfl, hW.trans (hb.mono hW.size)⟩
  have h7 : At7 W1 w.heap.size 0 x := by constructor <;> (rw [hW1]; simp [go_sem])
  have HK : Hid (∀ W, Below W1.heap.size W1 W → W.cell? ⟨w.heap.size, 0, none⟩ = some (.int .i64 x.k) ∧ W.cell? ⟨w.heap.size, 4, none⟩ = some (.int .i64 x.f.k) ∧ W.cell? ⟨w.heap.size, 5, none⟩ = some (.slice x.f.a x.f.l.length x.f.c) ∧ W.cell? ⟨w.heap.size, 6, none⟩ = some (.slice x.a x.l.length x.c)) := fun W hW => by
    obtain ⟨a0, a1, a2, a3, a4, a5, a6⟩ := h7.below hW
    simp only [Nat.zero_add] at a0 a1 a2 a3 a4 a5 a6
    exact ⟨a0, a4, a5, a6⟩
  have HK0 : Hid (W1.cell? ⟨w.heap.size, 0, none⟩ = some (.int .i64 x.k) ∧ W1.cell? ⟨w.heap.size, 4, none⟩ = some (.int .i64 x.f.k) ∧ W1.cell? ⟨w.heap.size, 5, none⟩ = some (.slice x.f.a x.f.l.length x.f.c) ∧ W1.cell? ⟨w.heap.size, 6, none⟩ = some (.slice x.a x.l.length x.c)) := HK.out _ (Below.refl _ _)
  have HK1 : Hid (W1.drew.cell? ⟨w.heap.size, 0, none⟩ = some (.int .i64 x.k) ∧ W1.drew.cell? ⟨w.heap.size, 4, none⟩ = some (.int .i64 x.f.k) ∧ W1.drew.cell? ⟨w.heap.size, 5, none⟩ = some (.slice x.f.a x.f.l.length x.f.c) ∧ W1.drew.cell? ⟨w.heap.size, 6, none⟩ = some (.slice x.a x.l.length x.c)) := HK.out _ ((Below.refl _ _).drew)
  have HB : Hid (Below w.heap.size w W1) := hb1
  have hb : Below W1.heap.size W1 W1.drew := (Below.refl _ _).drew
  clear hb1 h1 h9 hne hw h7 hPP
  go_enter Tryz.func25, Tryz.ntmps25
  go_upto_region 1 with fail
  rw [← hW1]
  clear hW1
  clear hb
  go_cut [33] (fun s33 wx => s33 = .bool true ∧ Hid (Below W1.heap.size W1 wx))
  case first =>
    refine wp_region_class (C := fun W => Below W1.heap.size W1 W) (by kernel_rfl) (by kernel_rfl) ((Below.refl _ _).drew) ?_
    iterate 24 (first
      | go_big_quiet_skip
      | (refine quiet_value (v := ?_) (by rfl) ?_ ?_; rotate_left; (focus (intro W hW; obtain ⟨d0, d4, d5, d6⟩ := HK.out W hW; have lw : w.heap.size < W.heap.size := World.block_lt_of_cell? _ _ d0; first | (go_simp; done) | (go_simp; with_reducible rfl))); simp only [Act.put, List.setIfInBounds_toArray, List.set_cons_zero, List.set_cons_succ])
      | (refine quiet_enter (.int .i64 PP) 45 #[.int .i64 x.k] (by rfl) ?_ (fun W hW => HP.out W hW) ?_; (focus (intro W _; go_simp; done)); simp only [Act.put, List.setIfInBounds_toArray, List.set_cons_zero, List.set_cons_succ]))
    refine wpQuiet_nil ?_
    intro wq hq
    have HQ : Hid (Below W1.heap.size W1 wq) := hq
    clear hq
    go_wp2_with fail
    go_meet
    case rel => exact ⟨rfl, HQ⟩
  case rest =>
    obtain ⟨h33, HQ⟩ := hcut
    subst h33
    have HN : Hid (Below w.heap.size w wc) := HB.out.trans (HQ.out.mono HB.out.size)
    go_wp2_with fail
    go_ret
    exact ⟨rfl, HN.out⟩

set_option maxRecDepth 20000 in
set_option maxHeartbeats 1000000 in
/-- right, of a From that is not Any. -/
theorem right_from (x : TT) (ar own : Int) (w : World) (hx : x.In w) (hw : (Lit.int .i64 x.k).wf = true) (h1 : 1 ≤ x.k) (h9 : x.k ≤ 9) (hpp : x.l.length = partsOf x.k) (n : Nat) (hf : x.f.hgt ≤ n) (hs : x.f.sm) (hne : relY escSame x.f.ty ⟨0, []⟩ = false) :
    Calls Tryz.prog 25 #[.agg #[.int .i64 x.k, .int .i64 x.n, .int .i64 x.t.k, .slice x.t.a x.t.l.length x.t.c, .int .i64 x.f.k, .slice x.f.a x.f.l.length x.f.c, .slice x.a x.l.length x.c], .int .i64 ar, .int .i64 own] w fun e w' => e = .returned (.bool false) ∧ Below w.heap.size w w' := by
  obtain ⟨W1, hW1⟩ : ∃ W, W = w.alloc (.cells #[.int .i64 x.k, .int .i64 x.n, .int .i64 x.t.k, .slice x.t.a x.t.l.length x.t.c, .int .i64 x.f.k, .slice x.f.a x.f.l.length x.f.c, .slice x.a x.l.length x.c] 27) := ⟨_, rfl⟩
  have hb1 : Below w.heap.size w W1 := by rw [hW1]; exact (Below.refl _ _).alloc (Nat.le_refl _) _
  have e1 : decide (x.k < 1) = false := by simp; omega
  have e2 : decide (9 < x.k) = false := by simp; omega
  obtain ⟨PP, hPP⟩ : ∃ P : Int, P = (partsOf x.k : Int) := ⟨_, rfl⟩
  have e3 : ((x.l.length : Int) != PP) = false := by simp; omega
  have HP : Hid (∀ W, Below W1.heap.size W1 W → Calls Tryz.prog 45 #[.int .i64 x.k] W fun e w' => e = .returned (.int .i64 PP) ∧ Below W1.heap.size W1 w') := fun W hW => by
    refine (parts_any x.k hw W).mono ?_
    rintro e w' ⟨rfl, hb⟩
    rw [hPP]
    exact ⟨rfl, hW.trans (hb.mono hW.size)⟩
  have HA : Hid (∀ W, Below W1.heap.size W1 W → Calls Tryz.prog 46 #[] W fun e w' => e = .returned (.agg #[.int .i64 0, .slice none 0 0]) ∧ Below W1.heap.size W1 w') := fun W hW => by
    refine (any0_any W).mono ?_
    rintro e w' ⟨rfl, rfl⟩
    exact ⟨rfl, hW.alloc hW.size _⟩
  have HS : Hid (∀ W, Below W1.heap.size W1 W → Calls Tryz.prog 27 #[.agg #[.int .i64 x.f.k, .slice x.f.a x.f.l.length x.f.c], .agg #[.int .i64 0, .slice none 0 0]] W fun e w' => e = .returned (.bool false) ∧ Below W1.heap.size W1 w') := fun W hW => by
    have := sameType_any n x.f (leaf 0) W ((hx.below (hb1.trans (hW.mono hb1.size))).f) (leaf_in 0 W) hf hs
    rw [leaf_ty, hne] at this
    refine this.mono ?_
    rintro e w' ⟨rfl, hb⟩
    exact ⟨rfl, hW.trans (hb.mono hW.size)⟩
  have h7 : At7 W1 w.heap.size 0 x := by constructor <;> (rw [hW1]; simp [go_sem])
  have HK : Hid (∀ W, Below W1.heap.size W1 W → W.cell? ⟨w.heap.size, 0, none⟩ = some (.int .i64 x.k) ∧ W.cell? ⟨w.heap.size, 4, none⟩ = some (.int .i64 x.f.k) ∧ W.cell? ⟨w.heap.size, 5, none⟩ = some (.slice x.f.a x.f.l.length x.f.c) ∧ W.cell? ⟨w.heap.size, 6, none⟩ = some (.slice x.a x.l.length x.c)) := fun W hW => by
    obtain ⟨a0, a1, a2, a3, a4, a5, a6⟩ := h7.below hW
    simp only [Nat.zero_add] at a0 a1 a2 a3 a4 a5 a6
    exact ⟨a0, a4, a5, a6⟩
  have HB : Hid (Below w.heap.size w W1) := hb1
  clear hb1 h1 h9 hne hw h7 hPP hx hf hs hpp
  go_enter Tryz.func25, Tryz.ntmps25
  go_upto_region 1 with fail
  rw [← hW1]
  clear hW1
  go_cut [33] (fun s33 wx => s33 = .bool true ∧ Hid (Below W1.heap.size W1 wx))
  case first =>
    refine wp_region_class (C := fun W => Below W1.heap.size W1 W) (by kernel_rfl) (by kernel_rfl) ((Below.refl _ _).drew) ?_
    iterate 24 (first
      | go_big_quiet_skip
      | (refine quiet_value (v := ?_) (by rfl) ?_ ?_; rotate_left; (focus (intro W hW; obtain ⟨d0, d4, d5, d6⟩ := HK.out W hW; have lw : w.heap.size < W.heap.size := World.block_lt_of_cell? _ _ d0; first | (go_simp; done) | (go_simp; with_reducible rfl))); simp only [Act.put, List.setIfInBounds_toArray, List.set_cons_zero, List.set_cons_succ])
      | (refine quiet_enter (.int .i64 PP) 45 #[.int .i64 x.k] (by rfl) ?_ (fun W hW => HP.out W hW) ?_; (focus (intro W _; go_simp; done)); simp only [Act.put, List.setIfInBounds_toArray, List.set_cons_zero, List.set_cons_succ])
      | (refine quiet_enter (.agg #[.int .i64 0, .slice none 0 0]) 46 #[] (by rfl) ?_ (fun W hW => HA.out W hW) ?_; (focus (intro W _; go_simp; done)); simp only [Act.put, List.setIfInBounds_toArray, List.set_cons_zero, List.set_cons_succ])
      | (refine quiet_enter (.bool false) 27 #[.agg #[.int .i64 x.f.k, .slice x.f.a x.f.l.length x.f.c], .agg #[.int .i64 0, .slice none 0 0]] (by rfl) ?_ (fun W hW => HS.out W hW) ?_; (focus (intro W _; go_simp; done)); simp only [Act.put, List.setIfInBounds_toArray, List.set_cons_zero, List.set_cons_succ]))
    refine wpQuiet_nil ?_
    intro wq hq
    have HQ : Hid (Below W1.heap.size W1 wq) := hq
    clear hq
    go_wp2_with fail
    go_meet
    case rel => exact ⟨rfl, HQ⟩
  case rest =>
    obtain ⟨h33, HQ⟩ := hcut
    subst h33
    have HN : Hid (Below w.heap.size w wc) := HB.out.trans (HQ.out.mono HB.out.size)
    go_wp2_with fail
    go_ret
    exact ⟨rfl, HN.out⟩
end Go.Proofs.YtnddkmccagiclaaGreatDoor
