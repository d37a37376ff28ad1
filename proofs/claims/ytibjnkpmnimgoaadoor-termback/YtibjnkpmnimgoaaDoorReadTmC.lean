/-
  What the call of (*reader).readTermInBrackets does: where the word is none of the words, and while the parts are read.
-/
import Derived.Test.YtibjnkpmnimgoaaDoorReadTmB
import Derived.Test.YtibjnkpmnimgoaaDoorGoodTm
namespace Go.Proofs.YtibjnkpmnimgoaaDoor
open Go.RowKit

theorem behind_suf {x : ByteArray} {ws r : List ByteArray} (h : behind x ws = some r) : r <:+ ws := by
  cases ws with
  | nil => cases h
  | cons y s =>
    simp only [behind] at h
    split at h
    · cases h; exact List.suffix_cons _ _
    · cases h

theorem readTy_suf : ∀ (n : Nat) (ws : List ByteArray) (p : Ty × List ByteArray), readTy n ws = some p → p.2 <:+ ws
  | 0, _, _, h => by simp [readTy] at h
  | n + 1, [], _, h => by simp [readTy] at h
  | n + 1, x :: r, p, h => by
    simp only [readTy] at h
    split at h
    · simp only [Option.bind_eq_some_iff, Option.map_eq_some_iff] at h
      obtain ⟨r1, h1, q1, h2, q2, h3, r4, h4, rfl⟩ := h
      exact (behind_suf h4).trans ((readTy_suf n _ _ h3).trans ((readTy_suf n _ _ h2).trans ((behind_suf h1).trans (List.suffix_cons _ _))))
    · simp only [Option.map_eq_some_iff] at h
      obtain ⟨k, _, rfl⟩ := h
      exact List.suffix_cons _ _

theorem readT_suf {n k : Nat} {ws : List ByteArray} {p : Ty × List ByteArray} (h : readT n k ws = some p) : p.2 <:+ ws := by
  unfold readT at h
  split at h
  · exact readTy_suf n _ _ h
  · cases h; exact List.suffix_rfl

theorem readN_suf (f : List ByteArray → Option (Tm × List ByteArray)) (hf : ∀ ws p, f ws = some p → p.2 <:+ ws) : ∀ (m : Nat) (ws : List ByteArray) (q : List Tm × List ByteArray), readN f m ws = some q → q.2 <:+ ws
  | 0, ws, q, h => by simp [readN] at h; rw [← h]; exact List.suffix_rfl
  | m + 1, ws, q, h => by
    simp only [readN, Option.bind_eq_some_iff, Option.map_eq_some_iff] at h
    obtain ⟨p, hp, q', hq, rfl⟩ := h
    exact (readN_suf f hf m _ _ hq).trans (hf ws p hp)

theorem readTm_suf : ∀ (n : Nat) (ws : List ByteArray) (p : Tm × List ByteArray), readTm n ws = some p → p.2 <:+ ws
  | 0, _, _, h => by simp [readTm] at h
  | n + 1, [], _, h => by simp [readTm] at h
  | n + 1, x :: r, p, h => by
    by_cases hx : x = opB
    · subst hx
      rw [readTm_open] at h
      cases r with
      | nil => cases h
      | cons y r1 =>
        simp only [inTm, Option.bind_eq_some_iff, Option.map_eq_some_iff] at h
        obtain ⟨k, _, p1, h1, q, h2, r4, h3, rfl⟩ := h
        have a2 := readN_suf (readTm n) (fun ws p hp => readTm_suf n ws p hp) _ _ _ h2
        exact (behind_suf h3).trans (a2.trans ((readT_suf h1).trans ((List.suffix_cons _ _).trans (List.suffix_cons _ _))))
    · rw [readTm_word n x r hx] at h
      rw [readWord_len h]
      exact List.suffix_cons _ _

/-- No word is long. -/
def SmW (ws : List ByteArray) : Prop := ∀ x, x ∈ ws → x.size ≤ 1000000

theorem SmW.suf {a b : List ByteArray} (h : SmW b) (hs : a <:+ b) : SmW a := fun x hx => h x (hs.subset hx)

theorem SmW.step {o : Option (List ByteArray)} {b b' : Bool} {ws ws' : List ByteArray} (h : SmW ws) (hs : StepR o b ws' b') (ho : ∀ r, o = some r → r <:+ ws) : SmW ws' := by
  rcases hs with ⟨e, _⟩ | ⟨_, rfl, _⟩
  · exact h.suf (ho _ e)
  · intro x hx; cases hx

/-! ### What stays where other blocks are written -/

theorem RS.agree {R : Nat} {ws : List ByteArray} {b : Bool} {w w' : World} (h : RS R ws b w) (e : ∀ k, k ≤ R → w'.heap[k]? = w.heap[k]?) : RS R ws b w' := by
  obtain ⟨⟨a, c, hc, hn, hw⟩, h1, h2, h3, hz⟩ := h
  refine ⟨⟨a, c, (World.cell?_of_block (a := ⟨R, 0, none⟩) (e R (Nat.le_refl _))).trans hc, hn, fun hne => ?_⟩, (World.cell?_of_block (a := ⟨R, 1, none⟩) (e R (Nat.le_refl _))).trans h1, (World.frozen?_of_block (a := ⟨R, 0, none⟩) (e R (Nat.le_refl _))).trans h2, (World.frozen?_of_block (a := ⟨R, 1, none⟩) (e R (Nat.le_refl _))).trans h3, hz⟩
  obtain ⟨A, o, ha, hA, hx⟩ := hw hne
  exact ⟨A, o, ha, hA, fun i x hi => (World.cell?_of_block (a := ⟨A, o + i, none⟩) (e A (Nat.le_of_lt hA))).trans (hx i x hi)⟩

theorem Box7.agree {J : Nat} {w w' : World} {x : TT} (h : Box7 w J x) (e : w'.heap[J]? = w.heap[J]?) : Box7 w' J x :=
  ⟨h.at7.of fun i => World.cell?_of_block (a := ⟨J, i, none⟩) e, fun i hi => (World.frozen?_of_block (a := ⟨J, i, none⟩) e).trans (h.fz i hi)⟩

theorem Kept.agree {R : Nat} {w w2 w3 : World} (h : Kept R none w w2) (h1 : w3.os = w2.os) (h2 : w3.tape = w2.tape) (h3 : w3.output = w2.output) (h4 : w2.heap.size ≤ w3.heap.size) (e : ∀ k, k < w.heap.size → w3.heap[k]? = w2.heap[k]?) : Kept R none w w3 :=
  ⟨h1.trans h.os, h2.trans h.tape, h3.trans h.output, Nat.le_trans h.size h4, fun k hk a b => (e k hk).trans (h.block k hk a b)⟩

theorem Tr.In.agree {w w' : World} {t : Tr} {P : Nat → Prop} (h : t.In w) (hb : t.Bl P) (e : ∀ k, P k → w'.heap[k]? = w.heap[k]?) : t.In w' :=
  h.congr (P := P) (fun b hb o => World.cell?_of_block (a := ⟨b, o, none⟩) (e b hb)) hb

theorem Tryd.info27 : (Tryd.prog.info? 27).map (fun i => (i.zero, i.size, i.bytes)) = some (some (.agg #[.int .i64 0, .int .i64 0, .int .i64 0, .slice none 0 0, .int .i64 0, .slice none 0 0, .slice none 0 0]), 7, 104) := by kernel_rfl

set_option maxRecDepth 20000 in
set_option maxHeartbeats 2000000 in
/-- The word is none of the words. -/
theorem brack_bad (R : Nat) (y : ByteArray) (hy : kindAt y = none) (r : List ByteArray) (b b1 : Bool) (w : World) (hg : Gl w) (hR : 10 ≤ R) (hRl : R < w.heap.size)
    (HN : Hid (Calls Tryd.prog 57 #[.pointer (some ⟨R, 0, none⟩)] (w7 w) fun e w' => e = .returned (.string y) ∧ RS R r b1 w' ∧ Kept R none (w7 w) w')) :
    Calls Tryd.prog 58 #[.pointer (some ⟨R, 0, none⟩)] w (TmPost R b none w) := by
  have HG : Hid (Gl (w7 w)) := hg.below (w7_below w)
  clear hg
  go_enter Tryd.func58, Tryd.ntmps58
  go_wp2_with fail
  refine HN.out.mono ?_
  rintro e w1 ⟨rfl, hr, hk⟩
  have hne : w.heap.size ≠ R := by omega
  have HT : Hid (Calls Tryd.prog 84 #[.string y] w1 fun e w' => e = .returned (.tuple #[.int .i64 0, .bool false]) ∧ w' = w1) := by
    have := kindOf_any y w1 (HG.out.kept hR hk)
    rw [hy] at this
    exact this
  have HF : Hid (Calls Tryd.prog 83 #[.pointer (some ⟨R, 0, none⟩)] w1 fun e w' => e = .returned (.tuple #[]) ∧ RS R [] true w' ∧ Kept R none w1 w') := fail_any R r b1 w1 hr
  have HD : Hid (Kept R none w w1 ∧ Box7 w1 w.heap.size (tleaf 0 0)) := ⟨(Kept.of_below (w7_below w)).trans hk, (box7_alloc w).kept hk hne⟩
  clear hr hk HN HG hy
  go_wp2_with fail
  refine HT.out.mono ?_
  rintro e w2 ⟨rfl, rfl⟩
  go_wp2_with fail
  refine HF.out.mono ?_
  rintro e w4 ⟨rfl, hr4, hk4⟩
  have HB : Hid (Box7 w4 w.heap.size (tleaf 0 0) ∧ RS R [] true w4 ∧ Kept R none w w4) := ⟨HD.out.2.kept hk4 hne, hr4, HD.out.1.trans hk4⟩
  have h7 := HB.out.1.at7
  have c0 := h7.c0
  have c1 := h7.c1
  have c2 := h7.c2
  have c3 := h7.c3
  have c4 := h7.c4
  have c5 := h7.c5
  have c6 := h7.c6
  simp only [Nat.zero_add, tleaf] at c0 c1 c2 c3 c4 c5 c6
  have f0 := HB.out.1.fz 0 (by omega)
  have f1 := HB.out.1.fz 1 (by omega)
  have f2 := HB.out.1.fz 2 (by omega)
  have f3 := HB.out.1.fz 3 (by omega)
  have f4 := HB.out.1.fz 4 (by omega)
  have f5 := HB.out.1.fz 5 (by omega)
  have f6 := HB.out.1.fz 6 (by omega)
  clear h7 hr4 hk4 HF HT
  go_wp2_with fail
  have hE := tm_end (x := tleaf 0 0) (w := w) (o := none) (b := b) HB.out.1 (Nat.le_refl _) hRl (tleaf_in _ _ _) (tleaf_bl _ _ _) HB.out.2.2 HB.out.2.1 (.inr ⟨rfl, rfl, rfl⟩) (fun p hp => by cases hp)
  refine bodyPost_ret (v := .agg #[.int .i64 0, .int .i64 0, .int .i64 0, .slice none 0 0, .int .i64 0, .slice none 0 0, .slice none 0 0]) ?_ rfl hE.1
  obtain ⟨d0, d1, d2, d3, d4, d5, d6⟩ := put7_gets (x := tleaf 0 0) HB.out.1
  simp only [tleaf, List.length_nil] at d0 d1 d2 d3 d4 d5 d6
  simp [results, Tryd.results58, go_sem, d0, d1, d2, d3, d4, d5, d6]

set_option maxRecDepth 20000 in
set_option maxHeartbeats 1000000 in
/-- (*reader).readTerm at an open bracket. -/
theorem readTerm_open (R n : Nat) (r : List ByteArray) (b : Bool) (w : World) (hR : 10 ≤ R) (hg : Gl w) (h : RS R (opB :: r) b w)
    (ih : Hid (∀ (w : World), Gl w → RS R r b w → Calls Tryd.prog 58 #[.pointer (some ⟨R, 0, none⟩)] w (TmPost R b (inTm n r) w))) :
    Calls Tryd.prog 35 #[.pointer (some ⟨R, 0, none⟩)] w (TmPost R b (inTm n r) w) := by
  have HN : Hid (Calls Tryd.prog 57 #[.pointer (some ⟨R, 0, none⟩)] (w7 w) fun e w' => e = .returned (.string ⟨#[40]⟩) ∧ RS R r b w' ∧ Kept R none (w7 w) w') := next_cons R opB r b _ (h.below (w7_below w))
  have hRl := h.lt
  have HG : Hid (Gl (w7 w)) := hg.below (w7_below w)
  clear h hg
  go_enter Tryd.func35, Tryd.ntmps35
  go_wp2_with fail
  refine HN.out.mono ?_
  rintro e w1 ⟨rfl, hr, hk⟩
  have hne : w.heap.size ≠ R := by omega
  have hbx1 : Box7 w1 w.heap.size (tleaf 0 0) := (box7_alloc w).kept hk hne
  have hs1 : w.heap.size < w1.heap.size := hbx1.lt
  have HT : Hid (Calls Tryd.prog 58 #[.pointer (some ⟨R, 0, none⟩)] w1 (TmPost R b (inTm n r) w1)) := ih.out w1 (HG.out.kept hR hk) hr
  have HD : Hid (Kept R none w w1 ∧ Box7 w1 w.heap.size (tleaf 0 0)) := ⟨(Kept.of_below (w7_below w)).trans hk, hbx1⟩
  clear hk hr HN HG hbx1
  go_wp2_with fail
  refine HT.out.mono ?_
  rintro e w2 ⟨x, rfl, hi, hbl, hk2, hA, he⟩
  obtain ⟨ws', b', hr2, hs2⟩ := hA.letters
  have hbx := HD.out.2.kept hk2 hne
  have HE : Hid (TmPost R b (inTm n r) w (.returned (.agg #[.int .i64 x.k, .int .i64 x.n, .int .i64 x.t.k, .slice x.t.a x.t.l.length x.t.c, .int .i64 x.f.k, .slice x.f.a x.f.l.length x.f.c, .slice x.a x.l.length x.c])) (put7 w2 w.heap.size x)) :=
    (tm_end hbx (Nat.le_refl _) hRl hi (hbl.mono fun b hb => by omega) (HD.out.1.trans hk2) hr2 hs2 he).1
  have HGT : Hid _ := put7_gets (x := x) hbx
  have h7 := hbx.at7
  have c0 := h7.c0
  have c1 := h7.c1
  have c2 := h7.c2
  have c3 := h7.c3
  have c4 := h7.c4
  have c5 := h7.c5
  have c6 := h7.c6
  simp only [Nat.zero_add, tleaf] at c0 c1 c2 c3 c4 c5 c6
  have f0 := hbx.fz 0 (by omega)
  have f1 := hbx.fz 1 (by omega)
  have f2 := hbx.fz 2 (by omega)
  have f3 := hbx.fz 3 (by omega)
  have f4 := hbx.fz 4 (by omega)
  have f5 := hbx.fz 5 (by omega)
  have f6 := hbx.fz 6 (by omega)
  clear h7 hi hbl hk2 hA he hr2 hs2 hbx HT HD
  go_wp2_with fail
  refine bodyPost_ret (v := .agg #[.int .i64 x.k, .int .i64 x.n, .int .i64 x.t.k, .slice x.t.a x.t.l.length x.t.c, .int .i64 x.f.k, .slice x.f.a x.f.l.length x.f.c, .slice x.a x.l.length x.c]) ?_ rfl HE.out
  obtain ⟨d0, d1, d2, d3, d4, d5, d6⟩ := HGT.out
  simp [results, Tryd.results35, go_sem, d0, d1, d2, d3, d4, d5, d6]

/-- While the parts are read. -/
structure LB (R H J B k n : Nat) (ws1 : List ByteArray) (b1 : Bool) (t : Tr) (w : World) (j : Nat) (v : Value) (cs : List TT) (ws' : List ByteArray) (b' : Bool) (wr : World) : Prop where
  row : Row B v cs wr
  len : cs.length = j
  box : ∃ a c, v = .slice a cs.length c ∧ Box7 wr J ⟨(k : Int), 0, t, leaf 0, a, c, cs⟩
  res : Box7 wr H (tleaf 0 0)
  rs : RS R ws' b' wr
  kept : Kept R none w wr
  inv : InvN (readTm n) (partsOf (k : Int)) ws1 b1 j ws' b' (cs.map TT.tm)
  tin : t.In wr
  tbl : t.Bl (fun b => J < b ∧ b < B)
  gl : Gl wr
  sm : SmW ws'
  small : ws'.length < n
  size : B ≤ wr.heap.size

theorem LB.step {R H J B k n : Nat} {ws1 : List ByteArray} {b1 : Bool} {t : Tr} {w : World} {j : Nat} {v : Value} {cs : List TT} {ws' ws'' : List ByteArray} {b' b'' : Bool} {wr w2 w3 : World} {x : TT} {gg cap1 : Nat} {X : Obj}
    (h : LB R H J B k n ws1 b1 t w j v cs ws' b' wr) (hRH : R < H) (hHJ : H < J) (hJB : J < B) (hw : w.heap.size ≤ H) (hR : 10 ≤ R) (hj : j < partsOf (k : Int))
    (hin : x.In w2) (hbl : x.Bl (wr.heap.size ≤ ·)) (hk : Kept R none wr w2) (hr : RS R ws'' b'' w2) (hs : StepR ((readTm n ws').map (·.2)) b' ws'' b'') (he : ∀ p, readTm n ws' = some p → x.tm = p.1)
    (hown : w3.ownsRow B 27 7 (.slice (some ⟨gg, 0, none⟩) (cs.length + 1) cap1) (cs.length + 1) (cells7 cs ++ cells7 [x])) (hgrow : (w2.alloc X).grownBy w3 v.ownBlock) (hat : v.ownBlock = some gg ∨ gg = w2.heap.size + 1) :
    LB R H J B k n ws1 b1 t w (j + 1) (.slice (some ⟨gg, 0, none⟩) (cs.length + 1) cap1) (cs ++ [x]) ws'' b'' (w3.setCell ⟨J, 6, none⟩ (.slice (some ⟨gg, 0, none⟩) (cs.length + 1) cap1)) := by
  have hsz := h.size
  have hks := hk.size
  have hov : ∀ q, v.ownBlock = some q → B ≤ q ∧ q < wr.heap.size := h.row.lt
  have hrow2 : Row B v cs w2 := h.row.kept hk (by omega)
  obtain ⟨hrow3, hblk⟩ := hrow2.step hin (hbl.mono fun b hb => ⟨by omega, fun e => by have := (hov b e.symm).2; omega⟩) hown hgrow hat
  have hlow : ∀ q, q < B → w3.heap[q]? = w2.heap[q]? := fun q hq => hblk q (by omega) (fun e => by have := (hov q e.symm).1; omega)
  have hs3 : w2.heap.size ≤ w3.heap.size := by have := hgrow.size; simp at this; omega
  have hk23 : ∀ {u : World}, Kept R none u w2 → u.heap.size ≤ B → Kept R none u w3 := fun hu hB => hu.agree (hgrow.os.trans rfl) (hgrow.tape.trans rfl) (hgrow.output.trans rfl) hs3 (fun q hq => hlow q (by omega))
  have hkJ : Kept J none w3 (w3.setCell ⟨J, 6, none⟩ (.slice (some ⟨gg, 0, none⟩) (cs.length + 1) cap1)) := setR_kept
  obtain ⟨a, c, hv, hbox⟩ := h.box
  have hbox3 : Box7 w3 J ⟨(k : Int), 0, t, leaf 0, a, c, cs⟩ := (hbox.kept hk (by omega)).agree (hlow J hJB)
  have hw2 : Kept R none w w2 := h.kept.trans hk
  have hinv := h.inv.step (readTm_nil n) hj hs he
  refine ⟨hrow3.kept hkJ (by omega), by rw [List.length_append, h.len]; rfl, ⟨some ⟨gg, 0, none⟩, cap1, ?_, ?_⟩, ?_, ?_, ?_, ?_, ?_, h.tbl, ?_, ?_, ?_, ?_⟩
  · rw [List.length_append, List.length_singleton]
  · have := hbox3.set6 (a' := some ⟨gg, 0, none⟩) (c' := cap1) (l' := cs ++ [x])
    rw [List.length_append, List.length_singleton] at this
    exact this
  · exact ((h.res.kept hk (by omega)).agree (hlow H (by omega))).kept hkJ (by omega)
  · exact (hr.agree fun q hq => hlow q (by omega)).new hkJ (by omega)
  · exact (hk23 hw2 (by omega)).new hkJ (by omega)
  · rw [List.map_append]
    exact hinv
  · exact ((h.tin.keptR hk (h.tbl.mono fun b hb => by omega)).agree h.tbl (fun q hq => hlow q hq.2)).keptR hkJ (h.tbl.mono fun b hb => by omega)
  · exact ((h.gl.kept hR hk).of fun g hg => hlow g (by omega)).kept (by omega) hkJ
  · exact h.sm.step hs (fun r hr => by obtain ⟨p, hp, rfl⟩ := Option.map_eq_some_iff.1 hr; exact readTm_suf n _ _ hp)
  · have := h.small
    refine Nat.lt_of_le_of_lt (hs.len (N := ws'.length) fun r hr => ?_) this
    obtain ⟨p, hp, rfl⟩ := Option.map_eq_some_iff.1 hr
    exact Nat.le_of_lt (readTm_len n _ _ hp)
  · have := hkJ.size
    omega
end Go.Proofs.YtibjnkpmnimgoaaDoor
