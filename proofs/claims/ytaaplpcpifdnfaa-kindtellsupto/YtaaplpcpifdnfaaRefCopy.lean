/-
  What the call of chaperoneref.CopyType answers at a tree that lies in memory.
-/
import Derived.Test.YtaaplpcpifdnfaaRefJoinTwo
import Derived.Test.YtaaplpcpifdnfaaSame
namespace Go.Proofs.Ytaaplpcpifdnfaa
open Go.RowKit

theorem cellsOf_at : ∀ (l : List Tr) (j : Nat) (h : j < l.length), (cellsOf l)[j * 2]? = some (.int .i64 l[j].k) ∧ (cellsOf l)[j * 2 + 1]? = some l[j].sl
  | [], j, h => by simp at h
  | t :: r, 0, _ => by simp [cellsOf, Tr.sl]
  | t :: r, j + 1, h => by
    have ih := cellsOf_at r j (by simpa using h)
    have e : (j + 1) * 2 = j * 2 + 1 + 1 := by omega
    rw [e]
    simpa [cellsOf] using ih

/-- A row of trees that the call owns is a tree's list. -/
theorem row_in {w : World} {base : Nat} {v : Value} {cs : List Tr} (h : w.ownsRow base 24 2 v cs.length (cellsOf cs)) (hc : ∀ c, c ∈ cs → c.In w ∧ c.Bl (base ≤ ·)) : ∃ a c, v = .slice a cs.length c ∧ ∀ k, (Tr.mk k a c cs).In w ∧ (Tr.mk k a c cs).Bl (base ≤ ·) := by
  rcases h.2 with ⟨rfl, h0⟩ | ⟨g, cap, cur, rfl, hg, _⟩
  · have : cs = [] := List.length_eq_zero_iff.1 h0
    subst this
    exact ⟨none, 0, rfl, fun k => ⟨Tr.In_nil _ _ _ _, Tr.Bl_nil _ _ _ _⟩⟩
  · refine ⟨_, _, rfl, fun k => ⟨Tr.In_mk.2 ⟨fun j hj => ⟨g, 0, rfl, ?_, ?_⟩, fun t ht => (hc t ht).1⟩, Tr.Bl_mk.2 ⟨fun _ x hx => by cases hx; exact hg, fun t ht => (hc t ht).2⟩⟩⟩
    · rw [Nat.zero_add, h.cellAt (j * 2) (by omega), (cellsOf_at cs j hj).1]
    · rw [Nat.zero_add, h.cellAt (j * 2 + 1) (by omega), (cellsOf_at cs j hj).2]

/-- While the parts are copied: the box, the row of copies, the copies, the place of the answer. -/
structure CP (x : Tr) (j : Nat) (v : Value) (cs : List Tr) (w wr : World) : Prop where
  own : wr.ownsRow (w.heap.size + 1 + 1) 24 2 v cs.length (cellsOf cs)
  ins : ∀ c, c ∈ cs → c.In wr ∧ c.Bl (fun b => w.heap.size + 1 + 1 ≤ b ∧ some b ≠ v.ownBlock)
  ty : cs.map Tr.ty = (x.l.take j).map Tr.ty
  low : Below w.heap.size w wr
  b0 : wr.cell? ⟨w.heap.size, 0, none⟩ = some (.int .i64 x.k)
  b1 : wr.cell? ⟨w.heap.size, 1, none⟩ = some v
  bf : wr.frozen? ⟨w.heap.size, 1, none⟩ = false
  r0 : wr.cell? ⟨w.heap.size + 1, 0, none⟩ = some (.int .i64 0)
  r1 : wr.cell? ⟨w.heap.size + 1, 1, none⟩ = some (.slice none 0 0)
  f0 : wr.frozen? ⟨w.heap.size + 1, 0, none⟩ = false
  f1 : wr.frozen? ⟨w.heap.size + 1, 1, none⟩ = false

theorem CP.len {x : Tr} {j : Nat} {v : Value} {cs : List Tr} {w wr : World} (h : CP x j v cs w wr) (hj : j ≤ x.l.length) : cs.length = j := by
  have := congrArg List.length h.ty
  simpa [Nat.min_eq_left hj] using this

/-- One more copy. -/
theorem CP.step {x : Tr} {j : Nat} {v : Value} {cs : List Tr} {w wr w1 w2 w3 : World} {c : Tr} {gg cap1 : Nat} {X : Obj} (h : CP x j v cs w wr) (hj : j < x.l.length) (hb1 : Below wr.heap.size wr w1) (ht : c.ty = x.l[j].ty) (hin : c.In w2) (hbl : c.Bl (w1.heap.size ≤ ·)) (hb2 : Below w1.heap.size w1 w2)
    (hown : w3.ownsRow (w.heap.size + 1 + 1) 24 2 (.slice (some ⟨gg, 0, none⟩) (cs.length + 1) cap1) (cs.length + 1) (cellsOf cs ++ [.int .i64 c.k, .slice c.a c.l.length c.c])) (hgrow : (w2.alloc X).grownBy w3 v.ownBlock) (hat : v.ownBlock = some gg ∨ gg = w2.heap.size + 1) :
    CP x (j + 1) (.slice (some ⟨gg, 0, none⟩) (cs.length + 1) cap1) (cs ++ [c]) w (w3.setCell ⟨w.heap.size, 1, none⟩ (.slice (some ⟨gg, 0, none⟩) (cs.length + 1) cap1)) := by
  have s0 := h.low.size
  have s1 := hb1.size
  have s2 := hb2.size
  have s3 : w2.heap.size + 1 ≤ w3.heap.size := by have := hgrow.size; simpa using this
  have hlr : w.heap.size + 1 < wr.heap.size := World.block_lt_of_cell? _ _ h.r0
  have hba : Below w2.heap.size w2 (w2.alloc X) := (Below.refl _ _).alloc (Nat.le_refl _) _
  have hbr2 : Below wr.heap.size wr (w2.alloc X) := (hb1.trans (hb2.mono s1)).trans (hba.mono (by omega))
  have hov : ∀ k, v.ownBlock = some k → w.heap.size + 1 + 1 ≤ k ∧ k < wr.heap.size := h.own.lt
  have hno : ∀ k, k ≤ w.heap.size + 1 → some k ≠ v.ownBlock := fun k hk e => by have := (hov k e.symm).1; omega
  have hgg : w.heap.size + 1 + 1 ≤ gg := by
    rcases hat with e | e
    · exact (hov gg e).1
    · omega
  -- the blocks that are not the row's are as they were
  have hblk : ∀ k, k < w2.heap.size + 1 → some k ≠ v.ownBlock → w3.heap[k]? = (w2.alloc X).heap[k]? := fun k hk hn => hgrow.block k (by simpa using hk) hn
  have hset : ∀ k i, k ≠ w.heap.size → (w3.setCell ⟨w.heap.size, 1, none⟩ (.slice (some ⟨gg, 0, none⟩) (cs.length + 1) cap1)).cell? ⟨k, i, none⟩ = w3.cell? ⟨k, i, none⟩ := by
    intro k i hk
    rw [World.cell?_setCell_other]
    intro e; simp only [Addr.mk.injEq] at e; omega
  have hold : ∀ k i, k < wr.heap.size → some k ≠ v.ownBlock → w3.cell? ⟨k, i, none⟩ = wr.cell? ⟨k, i, none⟩ ∧ w3.frozen? ⟨k, i, none⟩ = wr.frozen? ⟨k, i, none⟩ := by
    intro k i hk hn
    have e : w3.heap[k]? = wr.heap[k]? := (hblk k (by omega) hn).trans (hbr2.block k hk)
    exact ⟨World.cell?_of_block (a := ⟨k, i, none⟩) e, World.frozen?_of_block (a := ⟨k, i, none⟩) e⟩
  refine ⟨?_, ?_, ?_, ?_, ?_, ?_, ?_, ?_, ?_, ?_, ?_⟩
  · rw [cellsOf_append, List.length_append, List.length_singleton]
    exact ownsRow_setCell_below hown (show w.heap.size < _ by omega) _
  · intro d hd
    rcases List.mem_append.1 hd with hd | hd
    · obtain ⟨i1, i2⟩ := h.ins d hd
      have i3 := i1.bl.and i2
      refine ⟨i1.congr (P := fun b => b < wr.heap.size ∧ w.heap.size + 1 + 1 ≤ b ∧ some b ≠ v.ownBlock) (fun b hb i => ?_) i3, i3.mono fun b hb => ⟨hb.2.1, ?_⟩⟩
      · rw [hset b i (by omega)]
        exact (hold b i hb.1 hb.2.2).1
      · show some b ≠ some gg
        rcases hat with e | e
        · rw [← e]; exact hb.2.2
        · simp only [ne_eq, Option.some.injEq]; omega
    · rcases List.mem_singleton.1 hd with rfl
      have i3 := hin.bl.and hbl
      refine ⟨hin.congr (P := fun b => b < w2.heap.size ∧ w1.heap.size ≤ b) (fun b hb i => ?_) i3, i3.mono fun b hb => ⟨by omega, ?_⟩⟩
      · rw [hset b i (by omega), World.cell?_of_block (a := ⟨b, i, none⟩) (hblk b (by omega) (fun e => by have := (hov b e.symm).2; omega))]
        exact hba.cell (p := ⟨b, i, none⟩) hb.1
      · show some b ≠ some gg
        rcases hat with e | e
        · have := (hov gg e).2
          simp only [ne_eq, Option.some.injEq]; omega
        · simp only [ne_eq, Option.some.injEq]; omega
  · rw [List.take_succ_eq_append_getElem hj, List.map_append, List.map_append, h.ty]
    simp [ht]
  · have hb3 : Below w.heap.size (w2.alloc X) w3 := ⟨hgrow.os, hgrow.tape, hgrow.output, hgrow.size, fun k hk => hblk k (by omega) (hno k (by omega))⟩
    exact ((h.low.trans (hbr2.mono s0)).trans hb3).setCell (by simp) _
  · rw [World.cell?_setCell_other]
    · exact (hold _ 0 (by omega) (hno _ (by omega))).1.trans h.b0
    · intro e; simp only [Addr.mk.injEq] at e; omega
  · exact World.cell?_setCell_same _ _ _ ((hold _ 1 (by omega) (hno _ (by omega))).1.trans h.b1)
  · rw [World.frozen?_setCell]
    exact (hold _ 1 (by omega) (hno _ (by omega))).2.trans h.bf
  · rw [hset _ _ (by omega)]
    exact (hold _ 0 (by omega) (hno _ (by omega))).1.trans h.r0
  · rw [hset _ _ (by omega)]
    exact (hold _ 1 (by omega) (hno _ (by omega))).1.trans h.r1
  · rw [World.frozen?_setCell]
    exact (hold _ 0 (by omega) (hno _ (by omega))).2.trans h.f0
  · rw [World.frozen?_setCell]
    exact (hold _ 1 (by omega) (hno _ (by omega))).2.trans h.f1

theorem CP.start {x : Tr} {w : World} : CP x 0 (.slice none 0 0) [] w ((w.alloc (.cells #[.int .i64 x.k, .slice none 0 0] 24)).alloc (.cells #[.int .i64 0, .slice none 0 0] 24)) := by
  refine ⟨World.ownsRow_nil _ _ _ _, fun c h => (by cases h), by simp, ?_, by simp [go_sem], by simp [go_sem], by simp [go_sem], by simp [go_sem], by simp [go_sem], by simp [go_sem], by simp [go_sem]⟩
  exact ((Below.refl _ _).alloc (Nat.le_refl _) _).alloc (by simp) _

set_option maxHeartbeats 2000000 in
theorem copy_step (n : Nat) (x : Tr) (A : Option Addr) (HA : Hid (A = x.a)) (w : World) (hx : x.In w) (hh : x.hgt ≤ n + 1) (hs : x.sz ≤ 100000000)
    (ih : Hid (∀ (x : Tr) (w : World), x.In w → x.hgt ≤ n → x.sz ≤ 100000000 → Calls Try.prog 8 #[.agg #[.int .i64 x.k, .slice x.a x.l.length x.c]] w (Made x.ty w))) :
    Calls Try.prog 8 #[.agg #[.int .i64 x.k, .slice A x.l.length x.c]] w (Made x.ty w) := by
  have hlen : x.l.length ≤ 100000000 := by have := len_sz x.l; have := x.sz_eq; omega
  obtain ⟨i0, hi0, hz0, hz1, hz2⟩ := info_parts Try.info24s
  go_enter Try.func8, Try.ntmps8
  go_wp2_with fail
  go_loopg [11] x.l.length (fun g i wr => ∃ (j : Nat) (v : Value) (cs : List Tr), j ≤ x.l.length ∧ g = x.l.length - j ∧ i = .int .i64 (j : Int) ∧ Hid (CP x j v cs w wr))
  case atStart => exact ⟨0, _, _, Nat.zero_le _, rfl, rfl, CP.start⟩
  case round =>
    obtain ⟨j, v, cs, hj, hg, rfl, HC⟩ := hrel
    have HG : Hid (gk = x.l.length - j) := hg
    clear hg
    have hsw : w.heap.size + 1 < wr.heap.size := World.block_lt_of_cell? _ _ HC.out.r0
    by_cases hlt : j < x.l.length
    · obtain ⟨b, o, ea, x0, x1, hxj⟩ := hx.part j hlt
      have eA : A = some ⟨b, o, none⟩ := HA.out.trans ea
      subst eA
      clear ea HA
      have hbwr := HC.out.low
      replace x0 := cell_later hbwr x0
      replace x1 := cell_later hbwr x1
      have i1 : (j : Int) < (x.l.length : Int) := by omega
      have i2 : (0 : Int) ≤ (j : Int) := by omega
      have lb : b < wr.heap.size := World.block_lt_of_cell? _ _ x0
      have hcb : cs.length ≤ 100000000 := by have := HC.out.len hj; omega
      have hb1 : Below wr.heap.size wr (wr.alloc (.cells #[.int .i64 x.l[j].k, .slice x.l[j].a x.l[j].l.length x.l[j].c] 24)).drew := ((Below.refl _ _).alloc (Nat.le_refl _) _).drew
      have HI : Hid (Calls Try.prog 8 #[.agg #[.int .i64 x.l[j].k, .slice x.l[j].a x.l[j].l.length x.l[j].c]] (wr.alloc (.cells #[.int .i64 x.l[j].k, .slice x.l[j].a x.l[j].l.length x.l[j].c] 24)).drew (Made x.l[j].ty (wr.alloc (.cells #[.int .i64 x.l[j].k, .slice x.l[j].a x.l[j].l.length x.l[j].c] 24)).drew)) := by
        refine ih.out x.l[j] _ ((hxj.below hbwr).below hb1) (Tr.hgt_part hh j hlt) ?_
        have h2 := sz_take x.l j hlt
        have h3 := sz_take_le x.l (j + 1)
        have h4 := x.sz_eq
        omega
      have q1 := HC.out.b1
      have qf := HC.out.bf
      have hnv : v.ownBlock ≠ some w.heap.size := fun e => by have := (HC.out.own.lt _ e).1; omega
      have hown := HC.out.own
      clear ih hx
      go_wp2_with fail
      have u1 : (wr.alloc (.cells #[.int .i64 x.l[j].k, .slice x.l[j].a x.l[j].l.length x.l[j].c] 24)).drew.cell? ⟨w.heap.size, 1, none⟩ = some v := cell_later hb1 q1
      have uf : (wr.alloc (.cells #[.int .i64 x.l[j].k, .slice x.l[j].a x.l[j].l.length x.l[j].c] 24)).drew.frozen? ⟨w.heap.size, 1, none⟩ = false := (hb1.frozen (p := ⟨w.heap.size, 1, none⟩) (show w.heap.size < wr.heap.size by omega)).trans qf
      have uo : (wr.alloc (.cells #[.int .i64 x.l[j].k, .slice x.l[j].a x.l[j].l.length x.l[j].c] 24)).drew.ownsRow (w.heap.size + 1 + 1) 24 2 v cs.length (cellsOf cs) := ownsRow_below hown hb1
      have us : w.heap.size < (wr.alloc (.cells #[.int .i64 x.l[j].k, .slice x.l[j].a x.l[j].l.length x.l[j].c] 24)).drew.heap.size := World.block_lt_of_cell? _ _ u1
      clear q1 qf hown
      go_region_law
        (first
          | (go_simp; go_at_call 8; refine HI.out.mono ?_; rintro e w2 ⟨c, rfl, ht, hin, hbl, hb2⟩; replace u1 := cell_later hb2 u1; replace uf := (hb2.frozen (p := ⟨w.heap.size, 1, none⟩) us).trans uf; replace uo := ownsRow_below uo hb2; replace us : w.heap.size < w2.heap.size := World.block_lt_of_cell? _ _ u1; have hnew := heap_alloc_new w2 (.cells #[.int .i64 c.k, .slice c.a c.l.length c.c] 24); have un : w.heap.size ≠ w2.heap.size := Nat.ne_of_lt us; go_wp2_with fail)
          | (refine step_append_lies _ (by rfl) _ _ _ (by rfl) (w.heap.size + 1 + 1) 24 i0 _ 2 32 Try.underlying22 hi0 hz0 hz1 hz2 rfl (by omega) v cs.length (cellsOf cs) (by rfl) (uo.alloc _)
                ⟨w2.heap.size, 0, none⟩ 1 1 [.int .i64 c.k, .slice c.a c.l.length c.c] (by rfl) (by rfl) (World.news_of_block (cs := #[.int .i64 c.k, .slice c.a c.l.length c.c]) (t := 24) (fr := (0, 0)) hnew) (by simp [Value.oneCell'])
                (by omega) (by unfold maxLen; omega) (by omega) (by have := hb2.size; simp at this ⊢; omega) (w2.heap.size + 1) (by simp) ?_; intro gg cap1 w3 hown1 hgrow hat hlt3; have hcr : w3.cell? ⟨w.heap.size, 1, none⟩ = some v := (by rw [hgrow.cell_far _ (by simp; omega) (Ne.symm hnv)]; exact cell_later ((Below.refl _ _).alloc (Nat.le_refl _) _) u1); have hfr : w3.frozen? ⟨w.heap.size, 1, none⟩ = false := (by rw [hgrow.frozen_far _ (by simp; omega) (Ne.symm hnv)]; exact (((Below.refl _ _).alloc (Nat.le_refl _) _).frozen (p := ⟨w.heap.size, 1, none⟩) us).trans uf)))
      all_goals
        have HN : Hid (CP x (j + 1) (.slice (some ⟨gg, 0, none⟩) (cs.length + 1) cap1) (cs ++ [c]) w (w3.setCell ⟨w.heap.size, 1, none⟩ (.slice (some ⟨gg, 0, none⟩) (cs.length + 1) cap1))) := HC.out.step hlt hb1 ht hin hbl hb2 hown1 hgrow hat
        clear hown1 hgrow hat hcr hfr ht hin hbl hb2 uo uf u1 HI HC
        go_wp2_with fail
        go_roundg (x.l.length - (j + 1))
        case measure => rw [HG.out]; omega
        case rel => exact ⟨j + 1, _, _, by omega, rfl, by go_num, HN⟩
    · have hcl := HC.out.len hj
      have hjl : j = x.l.length := by omega
      obtain ⟨a, c, rfl, hrow⟩ := row_in HC.out.own (fun c hc => ⟨(HC.out.ins c hc).1, (HC.out.ins c hc).2.mono fun b hb => hb.1⟩)
      have HT : Hid ((Tr.mk x.k a c cs).ty = x.ty) := by
        show _ = _
        obtain ⟨k, a', c', l⟩ := x
        have h := HC.out.ty
        dsimp only at h hjl ⊢
        rw [hjl, List.take_length] at h
        rw [Tr.ty_mk, Tr.ty_mk, h]
      have HB : Hid (Below w.heap.size w wr) := HC.out.low
      have b0 := HC.out.b0
      have b1 := HC.out.b1
      have r0 := HC.out.r0
      have r1 := HC.out.r1
      have f0 := HC.out.f0
      have f1 := HC.out.f1
      have HR := hrow x.k
      clear HC hrow hcl hjl
      go_wp2_with fail
      refine bodyPost_ret (v := .agg #[.int .i64 x.k, .slice a cs.length c]) ?_ rfl ⟨.mk x.k a c cs, rfl, HT.out, set_keeps HR.1 (HR.2.mono fun b hb => by omega), HR.2.mono fun b hb => by omega, (HB.out.setCell (by simp) _).setCell (by simp) _⟩
      have hc := set_cells (u := .int .i64 x.k) (v := .slice a cs.length c) r0 r1
      simp only [Nat.zero_add] at hc
      simp [results, Try.results8, go_sem, hc.1, hc.2]

/-- chaperoneref.CopyType. -/
theorem copy_any (n : Nat) : ∀ (x : Tr) (w : World), x.In w → x.hgt ≤ n → x.sz ≤ 100000000 → Calls Try.prog 8 #[.agg #[.int .i64 x.k, .slice x.a x.l.length x.c]] w (Made x.ty w) := by
  induction n with
  | zero =>
    intro x w _ h
    have := x.hgt_pos
    omega
  | succ n ih =>
    intro x w hx h hs
    exact copy_step n x x.a rfl w hx h hs (fun x w hx h hs => ih x w hx h hs)
end Go.Proofs.Ytaaplpcpifdnfaa
