/-
  What the call of chaperoneref.CopyType answers at a tree that lies in memory.
-/
import Derived.Test.YtnddkmccagiclaaDoorLote5d78291b2
import Derived.Test.YtnddkmccagiclaaDoorLot7570b2d23b
import Derived.Test.YtnddkmccagiclaaDoorLot0072f1a7a7
import Derived.Test.YtnddkmccagiclaaDoorLote54be471a2
import Derived.Deep.AppendLies
import Derived.Test.YtnddkmccagiclaaDoorLote74bb2c053
import Derived.Deep.LoopGhost
namespace Go.Proofs.YtnddkmccagiclaaDoor
open Go.RowKit
theorem Tr.sz_eq (t : Tr) : t.sz = (t.l.map Tr.sz).sum + 1 := by cases t; rw [Tr.sz_mk]
theorem sz_take (l : List Tr) (j : Nat) (h : j < l.length) : ((l.take (j + 1)).map Tr.sz).sum = ((l.take j).map Tr.sz).sum + l[j].sz := by
  rw [List.take_succ_eq_append_getElem h, List.map_append, List.sum_append]
  simp only [List.map_cons, List.map_nil, List.sum_cons, List.sum_nil, Nat.add_zero]
theorem sz_take_le : ∀ (l : List Tr) (j : Nat), ((l.take j).map Tr.sz).sum ≤ (l.map Tr.sz).sum
  | [], j => by simp
  | t :: r, 0 => by simp
  | t :: r, j + 1 => by
    have := sz_take_le r j
    simp only [List.take_succ_cons, List.map_cons, List.sum_cons]; omega
theorem len_sz : ∀ (l : List Tr), l.length ≤ (l.map Tr.sz).sum
  | [] => Nat.zero_le _
  | t :: r => by
    have h1 := len_sz r
    have h2 := t.sz_pos
    simp only [List.map_cons, List.sum_cons, List.length_cons]; omega
theorem ownsRow_below {w w' : World} {base : Nat} {e : TypeId} {size : Nat} {v : Value} {n : Nat} {xs : List Value} (h : w.ownsRow base e size v n xs) (hb : Below w.heap.size w w') : w'.ownsRow base e size v n xs := by
  refine ⟨h.1, ?_⟩
  rcases h.2 with hn | ⟨g, cap, cur, rfl, h1, hgg, rest⟩
  · exact .inl hn
  · exact .inr ⟨g, cap, cur, rfl, h1, by rw [hb.block g (Array.getElem?_eq_some_iff.1 hgg).1]; exact hgg, rest⟩
theorem cellsOf_at2 : ∀ (l : List Tr) (j : Nat) (h : j < l.length), (cellsOf l)[j * 2]? = some (.int .i64 l[j].k) ∧ (cellsOf l)[j * 2 + 1]? = some l[j].sl
  | [], j, h => by simp at h
  | t :: r, 0, _ => by simp [cellsOf, Tr.sl]
  | t :: r, j + 1, h => by
    have ih := cellsOf_at2 r j (by simpa using h)
    have e : (j + 1) * 2 = j * 2 + 1 + 1 := by omega
    rw [e]
    simpa [cellsOf] using ih
/-- A row of trees that the call owns is a tree's list. -/
theorem row_in {w : World} {base : Nat} {v : Value} {cs : List Tr} (h : w.ownsRow base 24 2 v cs.length (cellsOf cs)) (hc : ∀ c, c ∈ cs → c.In w ∧ c.Bl (base ≤ ·)) : ∃ a c, v = .slice a cs.length c ∧ ∀ k, (Tr.mk k a c cs).In w ∧ (Tr.mk k a c cs).Bl (base ≤ ·) := by
  rcases h.2 with ⟨rfl, h0⟩ | ⟨g, cap, cur, rfl, hg, _⟩
  · have : cs = [] := List.length_eq_zero_iff.1 h0
    subst this
    exact ⟨none, 0, rfl, fun k => ⟨Tr.In_nil _ _ _ _, Tr.Bl_nil _ _ _ _⟩⟩
  · refine ⟨_, _, rfl, fun k => ⟨Tr.In_mk.2 ⟨fun j hj => ⟨g, 0, rfl, ?_, ?_⟩, fun t ht => (hc t ht).1⟩, Tr.Bl_mk.2 ⟨fun _ x hx => by cases hx; exact hg, fun t ht => (hc t ht).2⟩⟩⟩
    · rw [Nat.zero_add, h.cellAt (j * 2) (by omega), (cellsOf_at2 cs j hj).1]
    · rw [Nat.zero_add, h.cellAt (j * 2 + 1) (by omega), (cellsOf_at2 cs j hj).2]
/-- While the parts are copied: the box, the row of copies, the copies, the place of the answer. -/
structure CP (x : Tr) (j : Nat) (v : Value) (cs : List Tr) (w wr : World) : Prop where
  own : wr.ownsRow (w.heap.size + 1 + 1) 24 2 v cs.length (cellsOf cs)
  ins : ∀ c, c ∈ cs → c.In wr ∧ c.Bl (fun b => w.heap.size + 1 + 1 ≤ b ∧ some b ≠ v.ownBlock)
  ty : cs.map Tr.ty = (x.l.take j).map Tr.ty
  low : Below w.heap.size w wr
  b0 : wr.cell? ⟨w.heap.size, 0, none⟩ = some (.int .i64 x.k)
  b1 : wr.cell? ⟨w.heap.size, 1, none⟩ = some v
  bf : wr.frozen? ⟨w.heap.size, 1, none⟩ = false
  r0 : wr.cell? ⟨w.heap.size + 1, 0, none⟩ = some (.int .i64 0)
  r1 : wr.cell? ⟨w.heap.size + 1, 1, none⟩ = some (.slice none 0 0)
  f0 : wr.frozen? ⟨w.heap.size + 1, 0, none⟩ = false
  f1 : wr.frozen? ⟨w.heap.size + 1, 1, none⟩ = false
theorem CP.len {x : Tr} {j : Nat} {v : Value} {cs : List Tr} {w wr : World} (h : CP x j v cs w wr) (hj : j ≤ x.l.length) : cs.length = j := by
  have := congrArg List.length h.ty
  simpa [Nat.min_eq_left hj] using this
/-- One more copy. -/
theorem CP.step {x : Tr} {j : Nat} {v : Value} {cs : List Tr} {w wr w1 w2 w3 : World} {c : Tr} {gg cap1 : Nat} {X : Obj} (h : CP x j v cs w wr) (hj : j < x.l.length) (hb1 : Below wr.heap.size wr w1) (ht : c.ty = x.l[j].ty) (hin : c.In w2) (hbl : c.Bl (w1.heap.size ≤ ·)) (hb2 : Below w1.heap.size w1 w2)
    (hown : w3.ownsRow (w.heap.size + 1 + 1) 24 2 (.slice (some ⟨gg, 0, none⟩) (cs.length + 1) cap1) (cs.length + 1) (cellsOf cs ++ [.int .i64 c.k, .slice c.a c.l.length c.c])) (hgrow : (w2.alloc X).grownBy w3 v.ownBlock) (hat : v.ownBlock = some gg ∨ gg = w2.heap.size + 1) :
    CP x (j + 1) (.slice (some ⟨gg, 0, none⟩) (cs.length + 1) cap1) (cs ++ [c]) w (w3.setCell ⟨w.heap.size, 1, none⟩ (.slice (some ⟨gg, 0, none⟩) (cs.length + 1) cap1)) := by
  have s0 := h.low.size
  have s1 := hb1.size
  have s2 := hb2.size
  have s3 : w2.heap.size + 1 ≤ w3.heap.size := by have := hgrow.size; simpa using this
  have hlr : w.heap.size + 1 < wr.heap.size := World.block_lt_of_cell? _ _ h.r0
  have hba : Below w2.heap.size w2 (w2.alloc X) := (Below.refl _ _).alloc (Nat.le_refl _) _
  have hbr2 : Below wr.heap.size wr (w2.alloc X) := (hb1.trans (hb2.mono s1)).trans (hba.mono (by omega))
  have hov : ∀ k, v.ownBlock = some k → w.heap.size + 1 + 1 ≤ k ∧ k < wr.heap.size := h.own.lt
  have hno : ∀ k, k ≤ w.heap.size + 1 → some k ≠ v.ownBlock := fun k hk e => by have := (hov k e.symm).1; omega
  have hgg : w.heap.size + 1 + 1 ≤ gg := by
    rcases hat with e | e
    · exact (hov gg e).1
    · omega
  -- the blocks that are not the row's are as they were
  have hblk : ∀ k, k < w2.heap.size + 1 → some k ≠ v.ownBlock → w3.heap[k]? = (w2.alloc X).heap[k]? := fun k hk hn => hgrow.block k (by simpa using hk) hn
  have hset : ∀ k i, k ≠ w.heap.size → (w3.setCell ⟨w.heap.size, 1, none⟩ (.slice (some ⟨gg, 0, none⟩) (cs.length + 1) cap1)).cell? ⟨k, i, none⟩ = w3.cell? ⟨k, i, none⟩ := by
    intro k i hk
    rw [World.cell?_setCell_other]
    intro e; simp only [Addr.mk.injEq] at e; omega
  have hold : ∀ k i, k < wr.heap.size → some k ≠ v.ownBlock → w3.cell? ⟨k, i, none⟩ = wr.cell? ⟨k, i, none⟩ ∧ w3.frozen? ⟨k, i, none⟩ = wr.frozen? ⟨k, i, none⟩ := by
    intro k i hk hn
    have e : w3.heap[k]? = wr.heap[k]? := (hblk k (by omega) hn).trans (hbr2.block k hk)
    exact ⟨World.cell?_of_block (a := ⟨k, i, none⟩) e, World.frozen?_of_block (a := ⟨k, i, none⟩) e⟩
  refine ⟨?_, ?_, ?_, ?_, ?_, ?_, ?_, ?_, ?_, ?_, ?_⟩
  · rw [cellsOf_append, List.length_append, List.length_singleton]
    exact ownsRow_setCell_below hown (show w.heap.size < _ by omega) _
  · intro d hd
    rcases List.mem_append.1 hd with hd | hd
    · obtain ⟨i1, i2⟩ := h.ins d hd
      have i3 := i1.bl.and i2
      refine ⟨i1.congr (P := fun b => b < wr.heap.size ∧ w.heap.size + 1 + 1 ≤ b ∧ some b ≠ v.ownBlock) (fun b hb i => ?_) i3, i3.mono fun b hb => ⟨hb.2.1, ?_⟩⟩
      · rw [hset b i (by omega)]
        exact (hold b i hb.1 hb.2.2).1
      · show some b ≠ some gg
        rcases hat with e | e
        · rw [← e]; exact hb.2.2
        · simp only [ne_eq, Option.some.injEq]; omega
    · rcases List.mem_singleton.1 hd with rfl
      have i3 := hin.bl.and hbl
      refine ⟨hin.congr (P := fun b => b < w2.heap.size ∧ w1.heap.size ≤ b) (fun b hb i => ?_) i3, i3.mono fun b hb => ⟨by omega, ?_⟩⟩
      · rw [hset b i (by omega), World.cell?_of_block (a := ⟨b, i, none⟩) (hblk b (by omega) (fun e => by have := (hov b e.symm).2; omega))]
        exact hba.cell (p := ⟨b, i, none⟩) hb.1
      · show some b ≠ some gg
        rcases hat with e | e
        · have := (hov gg e).2
          simp only [ne_eq, Option.some.injEq]; omega
        · simp only [ne_eq, Option.some.injEq]; omega
  · rw [List.take_succ_eq_append_getElem hj, List.map_append, List.map_append, h.ty]
    simp [ht]
  · have hb3 : Below w.heap.size (w2.alloc X) w3 := ⟨hgrow.os, hgrow.tape, hgrow.output, hgrow.size, fun k hk => hblk k (by omega) (hno k (by omega))⟩
    exact ((h.low.trans (hbr2.mono s0)).trans hb3).setCell (by simp) _
  · rw [World.cell?_setCell_other]
    · exact (hold _ 0 (by omega) (hno _ (by omega))).1.trans h.b0
    · intro e; simp only [Addr.mk.injEq] at e; omega
  · exact World.cell?_setCell_same _ _ _ ((hold _ 1 (by omega) (hno _ (by omega))).1.trans h.b1)
  · rw [World.frozen?_setCell]
    exact (hold _ 1 (by omega) (hno _ (by omega))).2.trans h.bf
  · rw [hset _ _ (by omega)]
    exact (hold _ 0 (by omega) (hno _ (by omega))).1.trans h.r0
  · rw [hset _ _ (by omega)]
    exact (hold _ 1 (by omega) (hno _ (by omega))).1.trans h.r1
  · rw [World.frozen?_setCell]
    exact (hold _ 0 (by omega) (hno _ (by omega))).2.trans h.f0
  · rw [World.frozen?_setCell]
    exact (hold _ 1 (by omega) (hno _ (by omega))).2.trans h.f1
theorem CP.start {x : Tr} {w : World} : CP x 0 (.slice none 0 0) [] w ((w.alloc (.cells #[.int .i64 x.k, .slice none 0 0] 24)).alloc (.cells #[.int .i64 0, .slice none 0 0] 24)) := by
  refine ⟨World.ownsRow_nil _ _ _ _, fun c h => (by cases h), by simp, ?_, by simp [go_sem], by simp [go_sem], by simp [go_sem], by simp [go_sem], by simp [go_sem], by simp [go_sem], by simp [go_sem]⟩
  exact ((Below.refl _ _).alloc (Nat.le_refl _) _).alloc (by simp) _
set_option maxHeartbeats 2000000 in
theorem copy_step (n : Nat) (x : Tr) (A : Option Addr) (HA : Hid (A = x.a)) (w : World) (hx : x.In w) (hh : x.hgt ≤ n + 1) (hs : x.sz ≤ 100000000)
    (ih : Hid (∀ (x : Tr) (w : World), x.In w → x.hgt ≤ n → x.sz ≤ 100000000 → Calls Tryd.prog 37 #[.agg #[.int .i64 x.k, .slice x.a x.l.length x.c]] w (Made x.ty w))) :
    Calls Tryd.prog 37 #[.agg #[.int .i64 x.k, .slice A x.l.length x.c]] w (Made x.ty w) := by
  have hlen : x.l.length ≤ 100000000 := by have := len_sz x.l; have := x.sz_eq; omega
  obtain ⟨i0, hi0, hz0, hz1, hz2⟩ := info_parts Tryd.info24s
  go_enter Tryd.func37, Tryd.ntmps37
  go_wp2_with fail
  go_loopg [11] x.l.length (fun g i wr => ∃ (j : Nat) (v : Value) (cs : List Tr), j ≤ x.l.length ∧ g = x.l.length - j ∧ i = .int .i64 (j : Int) ∧ Hid (CP x j v cs w wr))
  case atStart => exact ⟨0, _, _, Nat.zero_le _, rfl, rfl, CP.start⟩
  case round =>
    obtain ⟨j, v, cs, hj, hg, rfl, HC⟩ := hrel
    have HG : Hid (gk = x.l.length - j) := hg
    clear hg
    have hsw : w.heap.size + 1 < wr.heap.size := World.block_lt_of_cell? _ _ HC.out.r0
    by_cases hlt : j < x.l.length
    · obtain ⟨b, o, ea, x0, x1, hxj⟩ := hx.part j hlt
      have eA : A = some ⟨b, o, none⟩ := HA.out.trans ea
      subst eA
      clear ea HA
      have hbwr := HC.out.low
      replace x0 := cell_later hbwr x0
      replace x1 := cell_later hbwr x1
      have i1 : (j : Int) < (x.l.length : Int) := by omega
      have i2 : (0 : Int) ≤ (j : Int) := by omega
      have lb : b < wr.heap.size := World.block_lt_of_cell? _ _ x0
      have hcb : cs.length ≤ 100000000 := by have := HC.out.len hj; omega
      have hb1 : Below wr.heap.size wr (wr.alloc (.cells #[.int .i64 x.l[j].k, .slice x.l[j].a x.l[j].l.length x.l[j].c] 24)).drew := ((Below.refl _ _).alloc (Nat.le_refl _) _).drew
      have HI : Hid (Calls Tryd.prog 37 #[.agg #[.int .i64 x.l[j].k, .slice x.l[j].a x.l[j].l.length x.l[j].c]] (wr.alloc (.cells #[.int .i64 x.l[j].k, .slice x.l[j].a x.l[j].l.length x.l[j].c] 24)).drew (Made x.l[j].ty (wr.alloc (.cells #[.int .i64 x.l[j].k, .slice x.l[j].a x.l[j].l.length x.l[j].c] 24)).drew)) := by
        refine ih.out x.l[j] _ ((hxj.below hbwr).below hb1) (Tr.hgt_part hh j hlt) ?_
        have h2 := sz_take x.l j hlt
        have h3 := sz_take_le x.l (j + 1)
        have h4 := x.sz_eq
        omega
      have q1 := HC.out.b1
      have qf := HC.out.bf
      have hnv : v.ownBlock ≠ some w.heap.size := fun e => by have := (HC.out.own.lt _ e).1; omega
      have hown := HC.out.own
      clear ih hx
      go_wp2_with fail
      have u1 : (wr.alloc (.cells #[.int .i64 x.l[j].k, .slice x.l[j].a x.l[j].l.length x.l[j].c] 24)).drew.cell? ⟨w.heap.size, 1, none⟩ = some v := cell_later hb1 q1
      have uf : (wr.alloc (.cells #[.int .i64 x.l[j].k, .slice x.l[j].a x.l[j].l.length x.l[j].c] 24)).drew.frozen? ⟨w.heap.size, 1, none⟩ = false := (hb1.frozen (p := ⟨w.heap.size, 1, none⟩) (show w.heap.size < wr.heap.size by omega)).trans qf
      have uo : (wr.alloc (.cells #[.int .i64 x.l[j].k, .slice x.l[j].a x.l[j].l.length x.l[j].c] 24)).drew.ownsRow (w.heap.size + 1 + 1) 24 2 v cs.length (cellsOf cs) := ownsRow_below hown hb1
      have us : w.heap.size < (wr.alloc (.cells #[.int .i64 x.l[j].k, .slice x.l[j].a x.l[j].l.length x.l[j].c] 24)).drew.heap.size := World.block_lt_of_cell? _ _ u1
      clear q1 qf hown
      go_region_law
        (first
          | (go_simp; go_at_call 37; refine HI.out.mono ?_; rintro e w2 ⟨c, rfl, ht, hin, hbl, hb2⟩; replace u1 := cell_later hb2 u1; replace uf := (hb2.frozen (p := ⟨w.heap.size, 1, none⟩) us).trans uf; replace uo := ownsRow_below uo hb2; replace us : w.heap.size < w2.heap.size := World.block_lt_of_cell? _ _ u1; have hnew := heap_alloc_new w2 (.cells #[.int .i64 c.k, .slice c.a c.l.length c.c] 24); have un : w.heap.size ≠ w2.heap.size := Nat.ne_of_lt us; go_wp2_with fail)
          | (refine step_append_lies _ (by rfl) _ _ _ (by rfl) (w.heap.size + 1 + 1) 24 i0 _ 2 32 Tryd.underlying22 hi0 hz0 hz1 hz2 rfl (by omega) v cs.length (cellsOf cs) (by rfl) (uo.alloc _)
                ⟨w2.heap.size, 0, none⟩ 1 1 [.int .i64 c.k, .slice c.a c.l.length c.c] (by rfl) (by rfl) (World.news_of_block (cs := #[.int .i64 c.k, .slice c.a c.l.length c.c]) (t := 24) (fr := (0, 0)) hnew) (by simp [Value.oneCell'])
                (by omega) (by unfold maxLen; omega) (by omega) (by have := hb2.size; simp at this ⊢; omega) (w2.heap.size + 1) (by simp) ?_; intro gg cap1 w3 hown1 hgrow hat hlt3; have hcr : w3.cell? ⟨w.heap.size, 1, none⟩ = some v := (by rw [hgrow.cell_far _ (by simp; omega) (Ne.symm hnv)]; exact cell_later ((Below.refl _ _).alloc (Nat.le_refl _) _) u1); have hfr : w3.frozen? ⟨w.heap.size, 1, none⟩ = false := (by rw [hgrow.frozen_far _ (by simp; omega) (Ne.symm hnv)]; exact (((Below.refl _ _).alloc (Nat.le_refl _) _).frozen (p := ⟨w.heap.size, 1, none⟩) us).trans uf)))
      all_goals
        have HN : Hid (CP x (j + 1) (.slice (some ⟨gg, 0, none⟩) (cs.length + 1) cap1) (cs ++ [c]) w (w3.setCell ⟨w.heap.size, 1, none⟩ (.slice (some ⟨gg, 0, none⟩) (cs.length + 1) cap1))) := HC.out.step hlt hb1 ht hin hbl hb2 hown1 hgrow hat
        clear hown1 hgrow hat hcr hfr ht hin hbl hb2 uo uf u1 HI HC
        go_wp2_with fail
        go_roundg (x.l.length - (j + 1))
        case measure => rw [HG.out]; omega
        case rel => exact ⟨j + 1, _, _, by omega, rfl, by go_num, HN⟩
    · have hcl := HC.out.len hj
      have hjl : j = x.l.length := by omega
      obtain ⟨a, c, rfl, hrow⟩ := row_in HC.out.own (fun c hc => ⟨(HC.out.ins c hc).1, (HC.out.ins c hc).2.mono fun b hb => hb.1⟩)
      have HT : Hid ((Tr.mk x.k a c cs).ty = x.ty) := by
        show _ = _
        obtain ⟨k, a', c', l⟩ := x
        have h := HC.out.ty
        dsimp only at h hjl ⊢
        rw [hjl, List.take_length] at h
        rw [Tr.ty_mk, Tr.ty_mk, h]
      have HB : Hid (Below w.heap.size w wr) := HC.out.low
      have b0 := HC.out.b0
      have b1 := HC.out.b1
      have r0 := HC.out.r0
      have r1 := HC.out.r1
      have f0 := HC.out.f0
      have f1 := HC.out.f1
      have HR := hrow x.k
      clear HC hrow hcl hjl
      go_wp2_with fail
      refine bodyPost_ret (v := .agg #[.int .i64 x.k, .slice a cs.length c]) ?_ rfl ⟨.mk x.k a c cs, rfl, HT.out, set_keeps HR.1 (HR.2.mono fun b hb => by omega), HR.2.mono fun b hb => by omega, (HB.out.setCell (by simp) _).setCell (by simp) _⟩
      have hc := set_cells (u := .int .i64 x.k) (v := .slice a cs.length c) r0 r1
      simp only [Nat.zero_add] at hc
      simp [results, Tryd.results37, go_sem, hc.1, hc.2]
/-- chaperoneref.CopyType. -/
theorem copy_any (n : Nat) : ∀ (x : Tr) (w : World), x.In w → x.hgt ≤ n → x.sz ≤ 100000000 → Calls Tryd.prog 37 #[.agg #[.int .i64 x.k, .slice x.a x.l.length x.c]] w (Made x.ty w) := by
  induction n with
  | zero =>
    intro x w _ h
    have := x.hgt_pos
    omega
  | succ n ih =>
    intro x w hx h hs
    exact copy_step n x x.a rfl w hx h hs (fun x w hx h hs => ih x w hx h hs)
end Go.Proofs.YtnddkmccagiclaaDoor

/-
  What the call of check's typesOf answers: the types of a row of readings, in a row of their own.
-/
namespace Go.Proofs.YtnddkmccagiclaaDoor
open Go.RowKit
theorem makeN (n : Nat) (hn : n ≤ 1000) (w : World) : (Instr.makeSlice 22 (.int .i64 (n : Int)) (.int .i64 (n : Int))).run Tryd.prog w = .ok (.slice (some ⟨w.heap.size, 0, none⟩) n n) (w.alloc (.cells (madeCells #[.int .i64 0, .slice none 0 0] (n * 2)) 24)) := by
  obtain ⟨i0, hi0, hz0, hz1, hz2⟩ := info_parts Tryd.info24
  have h := run_make (P := Tryd.prog) w 22 24 i0 _ Tryd.underlying22 hi0 hz0 .i64 .i64 (n : Int) (n : Int) (by omega) (by omega) (by rw [hz2]; omega) (by omega)
  rw [h, hz1]
  rfl
/-- The row while it is filled: the first j types stand, all cells are there. -/
structure TyRow (w : World) (g : Nat) (rs : List Rd) (j : Nat) (wr : World) : Prop where
  bel : Below w.heap.size w wr
  is : ∀ q (h : q < rs.length), q < j → wr.cell? ⟨g, q * 2, none⟩ = some (.int .i64 rs[q].i.k) ∧ wr.cell? ⟨g, q * 2 + 1, none⟩ = some (.slice rs[q].i.a rs[q].i.l.length rs[q].i.c)
  any : ∀ i, i < rs.length * 2 → ∃ v, wr.cell? ⟨g, i, none⟩ = some v
  fz : ∀ i, wr.frozen? ⟨g, i, none⟩ = false
theorem TyRow.start (w : World) (rs : List Rd) : TyRow w w.heap.size rs 0 (w.alloc (.cells (madeCells #[.int .i64 0, .slice none 0 0] (rs.length * 2)) 24)) := by
  refine ⟨(Below.refl _ _).alloc (Nat.le_refl _) _, fun q _ h => absurd h (by omega), fun i hi => ?_, fun i => by simp [go_sem]⟩
  have hs : i < (madeCells #[.int .i64 0, .slice none 0 0] (rs.length * 2)).size := by rw [size_madeCells]; exact hi
  refine ⟨(madeCells #[.int .i64 0, .slice none 0 0] (rs.length * 2))[i], ?_⟩
  simp [go_sem, hs]
theorem TyRow.step {w wr : World} {g j : Nat} {rs : List Rd} (h : TyRow w g rs j wr) (hg : w.heap.size ≤ g) (hgl : g < wr.heap.size) (hj : j < rs.length) (X : Obj) :
    TyRow w g rs (j + 1) (((wr.alloc X).setCell ⟨g, j * 2, none⟩ (.int .i64 rs[j].i.k)).setCell ⟨g, j * 2 + 1, none⟩ (.slice rs[j].i.a rs[j].i.l.length rs[j].i.c)) := by
  have hb : Below wr.heap.size wr (wr.alloc X) := (Below.refl _ _).alloc (Nat.le_refl _) _
  refine ⟨((h.bel.trans (hb.mono h.bel.size)).setCell hg _).setCell hg _, fun q hq hlt => ?_, fun i hi => ?_, fun i => ?_⟩
  · by_cases e : q = j
    · subst e
      obtain ⟨v0, hv0⟩ := h.any (q * 2) (by omega)
      obtain ⟨v1, hv1⟩ := h.any (q * 2 + 1) (by omega)
      constructor
      · simpa using set_get (j := q * 2 + 1) (v := .slice rs[q].i.a rs[q].i.l.length rs[q].i.c) (set_get (j := q * 2) (v := .int .i64 rs[q].i.k) (cell_later hb hv0))
      · simpa using set_get (j := q * 2 + 1) (v := .slice rs[q].i.a rs[q].i.l.length rs[q].i.c) (set_get (j := q * 2) (v := .int .i64 rs[q].i.k) (cell_later hb hv1))
    · obtain ⟨c0, c1⟩ := h.is q hq (by omega)
      have n1 : q * 2 ≠ j * 2 := by omega
      have n2 : q * 2 ≠ j * 2 + 1 := by omega
      have n3 : q * 2 + 1 ≠ j * 2 := by omega
      have n4 : q * 2 + 1 ≠ j * 2 + 1 := by omega
      constructor
      · have := set_get (j := j * 2 + 1) (v := .slice rs[j].i.a rs[j].i.l.length rs[j].i.c) (set_get (j := j * 2) (v := .int .i64 rs[j].i.k) (cell_later hb c0))
        rw [if_neg n2, if_neg n1] at this
        exact this
      · have := set_get (j := j * 2 + 1) (v := .slice rs[j].i.a rs[j].i.l.length rs[j].i.c) (set_get (j := j * 2) (v := .int .i64 rs[j].i.k) (cell_later hb c1))
        rw [if_neg n4, if_neg n3] at this
        exact this
  · obtain ⟨v, hv⟩ := h.any i hi
    exact ⟨_, set_get (j := j * 2 + 1) (v := .slice rs[j].i.a rs[j].i.l.length rs[j].i.c) (set_get (j := j * 2) (v := .int .i64 rs[j].i.k) (cell_later hb hv))⟩
  · have := (hb.frozen (p := ⟨g, i, none⟩) hgl).trans (h.fz i)
    simpa using this
set_option maxRecDepth 20000 in
set_option maxHeartbeats 1000000 in
/-- typesOf. -/
theorem typesOf_any (rs : List Rd) (a : Option Addr) (c : Nat) (w : World) (hr : RL w a rs) (h3 : rs.length ≤ 1000) :
    Calls Tryd.prog 66 #[.slice a rs.length c] w fun e w' => ∃ T : Tr, e = .returned (.slice T.a T.l.length T.c) ∧ T.l = rs.map (fun r => r.i) ∧ T.In w' ∧ (∀ y, T.a = some y → w.heap.size ≤ y.block) ∧ Below w.heap.size w w' := by
  have hmk := makeN rs.length h3
  have HR : Hid (RL w a rs) := hr
  have HT : Hid (TyRow w w.heap.size rs 0 (w.alloc (.cells (madeCells #[.int .i64 0, .slice none 0 0] (rs.length * 2)) 24))) := TyRow.start w rs
  clear hr
  go_enter Tryd.func66, Tryd.ntmps66
  go_wp2_with fail
  go_loopg [11] rs.length (fun g i wr => ∃ (j : Nat), g + j = rs.length ∧ i = .int .i64 (j : Int) ∧ Hid (TyRow w w.heap.size rs j wr ∧ w.heap.size < wr.heap.size))
  case atStart => exact ⟨0, by omega, rfl, HT.out, by simp⟩
  case round =>
    obtain ⟨j, hj, rfl, HQ⟩ := hrel
    by_cases hlt : j < rs.length
    · obtain ⟨b, o, ea, h10, hy, hi⟩ := HR.out j hlt
      have hb := HQ.out.1.bel
      have h11 := h10.below hb
      obtain ⟨d0, ⟨d1, d2, d3, d4, d5, d6, d7⟩, d8, d9⟩ := h11
      have i1 : (j : Int) < (rs.length : Int) := by omega
      have i0 : (0 : Int) ≤ (j : Int) := by omega
      have HEA : Hid (a = some ⟨b, o, none⟩) := ea
      rw [ea]
      have hbA : ∀ X, Below wr.heap.size wr (wr.alloc X) := fun X => (Below.refl _ _).alloc (Nat.le_refl _) _
      obtain ⟨x0, hx0⟩ := HQ.out.1.any (j * 2) (by omega)
      obtain ⟨x1, hx1⟩ := HQ.out.1.any (j * 2 + 1) (by omega)
      have v0 := fun X => cell_later (hbA X) hx0
      have v1 := fun X => cell_later (hbA X) hx1
      have vf : ∀ X i, (wr.alloc X).frozen? ⟨w.heap.size, i, none⟩ = false := fun X i => ((hbA X).frozen (p := ⟨w.heap.size, i, none⟩) HQ.out.2).trans (HQ.out.1.fz i)
      have nw : wr.heap.size ≠ w.heap.size := by have := HQ.out.2; omega
      have HN : Hid (TyRow w w.heap.size rs (j + 1) (((wr.alloc (.cells #[.int .i64 rs[j].n, .int .i64 rs[j].y.k, .int .i64 rs[j].y.n, .int .i64 rs[j].y.t.k, .slice rs[j].y.t.a rs[j].y.t.l.length rs[j].y.t.c, .int .i64 rs[j].y.f.k, .slice rs[j].y.f.a rs[j].y.f.l.length rs[j].y.f.c, .slice rs[j].y.a rs[j].y.l.length rs[j].y.c, .int .i64 rs[j].i.k, .slice rs[j].i.a rs[j].i.l.length rs[j].i.c] 63)).setCell ⟨w.heap.size, j * 2, none⟩ (.int .i64 rs[j].i.k)).setCell ⟨w.heap.size, j * 2 + 1, none⟩ (.slice rs[j].i.a rs[j].i.l.length rs[j].i.c)) ∧ w.heap.size < (((wr.alloc (.cells #[.int .i64 rs[j].n, .int .i64 rs[j].y.k, .int .i64 rs[j].y.n, .int .i64 rs[j].y.t.k, .slice rs[j].y.t.a rs[j].y.t.l.length rs[j].y.t.c, .int .i64 rs[j].y.f.k, .slice rs[j].y.f.a rs[j].y.f.l.length rs[j].y.f.c, .slice rs[j].y.a rs[j].y.l.length rs[j].y.c, .int .i64 rs[j].i.k, .slice rs[j].i.a rs[j].i.l.length rs[j].i.c] 63)).setCell ⟨w.heap.size, j * 2, none⟩ (.int .i64 rs[j].i.k)).setCell ⟨w.heap.size, j * 2 + 1, none⟩ (.slice rs[j].i.a rs[j].i.l.length rs[j].i.c)).heap.size) :=
        ⟨HQ.out.1.step (Nat.le_refl _) HQ.out.2 hlt _, by have := HQ.out.2; simp [World.setCell]; omega⟩
      clear ea hbA hb h10 hy hi HQ HT
      go_wp2_with fail
      rw [← HEA.out]
      go_roundg (rs.length - (j + 1))
      case measure => omega
      case rel => exact ⟨j + 1, by omega, by go_num, HN⟩
    · have HE : Hid (TyRow w w.heap.size rs j wr) := HQ.out.1
      have HJ : Hid (rs.length ≤ j) := by exact Nat.le_of_not_lt hlt
      clear HQ
      go_wp2_with fail
      go_ret
      refine ⟨⟨0, some ⟨w.heap.size, 0, none⟩, rs.length, rs.map fun r => r.i⟩, by simp, rfl, ?_, fun y hy => by cases hy; exact Nat.le_refl _, HE.out.bel⟩
      refine Tr.In_mk.2 ⟨fun q hq => ?_, fun t ht => ?_⟩
      · have hq' : q < rs.length := by simpa using hq
        obtain ⟨c0, c1⟩ := HE.out.is q hq' (by have := HJ.out; omega)
        exact ⟨w.heap.size, 0, rfl, by simpa using c0, by simpa [Tr.sl] using c1⟩
      · obtain ⟨r, hr, rfl⟩ := List.mem_map.1 ht
        obtain ⟨q, hq, rfl⟩ := List.getElem_of_mem hr
        obtain ⟨_, _, _, _, _, hi⟩ := HR.out q hq
        exact hi.below HE.out.bel
end Go.Proofs.YtnddkmccagiclaaDoor

/-
  What the call of check's ahead answers: a new row, a type ahead of others.
-/
namespace Go.Proofs.YtnddkmccagiclaaDoor
open Go.RowKit
/-- append of nothing, where there is room for nothing. -/
theorem wpList_append_void {P : Program} {ops : Array Oper} {rest : List Oper} {o : Oper} {a : Act} {w : World} {Q : Exit → Act → World → Prop}
    (hg : o.guard = none) (s x : Operand) (t : TypeId) (hop : o.op = Op.call { callee := Callee.builtin Builtin.append, args := #[s, x], argTypes := #[t, t] })
    (e : TypeId) (i : TypeInfo) (h1 : P.underlying t = some (.slice e)) (h2 : P.info? e = some i)
    (b n cap : Nat) (hs : a.eval s = .slice (some ⟨b, 0, none⟩) n cap) (xa : Option Addr) (c : Nat) (hx : a.eval x = .slice xa 0 c) (hroom : n ≤ cap)
    (h : wpList P ops Q rest (a.put o.dst (.slice (some ⟨b, 0, none⟩) n cap)) w) : wpList P ops Q (o :: rest) a w := by
  refine wpList_plain hg fun K hK => ?_
  have hsrc : Src P i.size t (.slice xa 0 c) 0 [] w := by
    cases xa with
    | none => exact Src.ofNil w h1 c
    | some ad => exact Src.ofSlice w h1 ad 0 c [] (by simp) (fun j u h => by simp at h) (fun u h => by cases h)
  have hrun := run_append_room_src (P := P) w t t o.type e i h1 h2 b 0 n cap (.slice xa 0 c) 0 [] hsrc (by omega) (fun j h => by simp at h) (fun j h => by simp at h)
  unfold Oper.wp
  simp only [execOp, hop, resolve, invoke, builtin, Sem.run_bind, Sem.run_pure, Result.andThen_ok, List.map_toArray, List.map_cons, List.map_nil, hs, hx, hrun]
  exact hK _ _ h
theorem cellsOf_at : ∀ (l : List Tr) (q : Nat) (h : q < l.length), (cellsOf l)[q * 2]? = some (.int .i64 l[q].k) ∧ (cellsOf l)[q * 2 + 1]? = some (.slice l[q].a l[q].l.length l[q].c)
  | [], q, h => by simp at h
  | x :: r, 0, _ => by simp [cellsOf]
  | x :: r, q + 1, h => by
    have := cellsOf_at r q (by simpa using h)
    have e : (q + 1) * 2 = q * 2 + 1 + 1 := by omega
    rw [e]
    simpa [cellsOf] using this
theorem cellsOf_one : ∀ (l : List Tr) (u : Value), u ∈ cellsOf l → u.oneCell' = true
  | [], u, h => by simp [cellsOf] at h
  | x :: r, u, h => by
    simp only [cellsOf, List.mem_cons] at h
    rcases h with rfl | rfl | h
    · simp [Value.oneCell']
    · simp [Value.oneCell']
    · exact cellsOf_one r u h
theorem cellsOf_news {w : World} {T : Tr} {b o : Nat} (h : T.In w) (ha : T.a = some ⟨b, o, none⟩) (j : Nat) (u : Value) (hj : (cellsOf T.l)[j]? = some u) : w.cell? ((⟨b, o, none⟩ : Addr).add j) = some u := by
  have hlt : j < T.l.length * 2 := by
    have := (List.getElem?_eq_some_iff.1 hj).1
    rwa [cellsOf_length] at this
  obtain ⟨b', o', e, c0, c1, _⟩ := h.part (j / 2) (by omega)
  rw [ha] at e
  cases e
  obtain ⟨d0, d1⟩ := cellsOf_at T.l (j / 2) (by omega)
  have hadd : (⟨b, o, none⟩ : Addr).add j = ⟨b, o + j, none⟩ := by
    unfold Addr.add
    split
    · rename_i h; simp_all
    · rfl
  rcases Nat.mod_two_eq_zero_or_one j with hm | hm
  · have e : j / 2 * 2 = j := by omega
    rw [e] at d0 c0
    rw [hj] at d0
    rw [Option.some.inj d0]
    rw [hadd]
    exact c0
  · have e : j / 2 * 2 + 1 = j := by omega
    have e' : o + j / 2 * 2 + 1 = o + j := by omega
    rw [e] at d1
    rw [e'] at c1
    rw [hj] at d1
    rw [Option.some.inj d1]
    rw [hadd]
    exact c1
/-- A row of types that is owned is a tree's list. -/
theorem tr_of_row {w : World} {base g cap n : Nat} {l : List Tr} (h : w.ownsRow base 24 2 (.slice (some ⟨g, 0, none⟩) n cap) n (cellsOf l)) (hn : n = l.length) (hin : ∀ t, t ∈ l → t.In w) (k : Int) : (Tr.mk k (some ⟨g, 0, none⟩) cap l).In w := by
  refine Tr.In_mk.2 ⟨fun j hj => ⟨g, 0, rfl, ?_, ?_⟩, hin⟩
  · rw [h.cellAt _ (by omega)]
    simpa using (cellsOf_at l j hj).1
  · rw [h.cellAt _ (by omega)]
    simpa [Tr.sl] using (cellsOf_at l j hj).2
set_option maxRecDepth 20000 in
set_option maxHeartbeats 1000000 in
theorem ahead_any (x T : Tr) (w : World) (hx : x.In w) (hT : T.In w) (hl : T.l.length ≤ 1000) :
    Calls Tryd.prog 63 #[.agg #[.int .i64 x.k, .slice x.a x.l.length x.c], .slice T.a T.l.length T.c] w fun e w' => ∃ N : Tr, e = .returned (.slice N.a N.l.length N.c) ∧ N.l = x :: T.l ∧ N.In w' ∧ (∀ y, N.a = some y → w.heap.size ≤ y.block) ∧ Below w.heap.size w w' := by
  obtain ⟨i0, hi0, hz0, hz1, hz2⟩ := info_parts Tryd.info24
  have hb0 : Below w.heap.size w ((w.alloc (.cells #[.int .i64 x.k, .slice x.a x.l.length x.c] 24)).alloc (.cells #[.int .i64 x.k, .slice x.a x.l.length x.c] 24)) := ((Below.refl _ _).alloc (Nat.le_refl _) _).alloc (by simp) _
  have hown : ((w.alloc (.cells #[.int .i64 x.k, .slice x.a x.l.length x.c] 24)).alloc (.cells #[.int .i64 x.k, .slice x.a x.l.length x.c] 24)).ownsRow (w.heap.size + 1) 24 2 (.slice (some ⟨w.heap.size + 1, 0, none⟩) 1 1) 1 (cellsOf [x]) := by
    have := World.ownsRow_lit (base := w.heap.size + 1) (e := 24) (size := 2) (w.alloc (.cells #[.int .i64 x.k, .slice x.a x.l.length x.c] 24)) #[.int .i64 x.k, .slice x.a x.l.length x.c] 1 (by simp) (by unfold maxLen; omega) (by simp)
    simpa [cellsOf] using this
  by_cases h0 : T.l.length = 0
  · have hT0 : T.l = [] := List.eq_nil_of_length_eq_zero h0
    have HE : Hid ((Tr.mk 0 (some ⟨w.heap.size + 1, 0, none⟩) 1 [x]).In ((w.alloc (.cells #[.int .i64 x.k, .slice x.a x.l.length x.c] 24)).alloc (.cells #[.int .i64 x.k, .slice x.a x.l.length x.c] 24)) ∧ Below w.heap.size w ((w.alloc (.cells #[.int .i64 x.k, .slice x.a x.l.length x.c] 24)).alloc (.cells #[.int .i64 x.k, .slice x.a x.l.length x.c] 24))) :=
      ⟨tr_of_row hown rfl (fun t ht => by have : t = x := (by simpa using ht); subst this; exact hx.below hb0) 0, hb0⟩
    rw [h0]
    clear hown hb0 hx hT hl
    go_enter Tryd.func63, Tryd.ntmps63
    go_wp2_with (at_builtin; refine wpList_append_void rfl _ _ _ rfl 24 i0 Tryd.underlying22 hi0 (w.heap.size + 1) 1 1 rfl T.a T.c rfl (by omega) ?_)
    go_ret
    exact ⟨_, rfl, by rw [hT0], HE.out.1, fun y hy => by cases hy; show w.heap.size ≤ w.heap.size + 1; omega, HE.out.2⟩
  · obtain ⟨b, o, ea, _⟩ := hT.part 0 (by omega)
    have hT1 := hT.below hb0
    have hnews := fun j u h => cellsOf_news hT1 ea j u h
    have HIN : Hid (∀ t, t ∈ x :: T.l → t.In ((w.alloc (.cells #[.int .i64 x.k, .slice x.a x.l.length x.c] 24)).alloc (.cells #[.int .i64 x.k, .slice x.a x.l.length x.c] 24)) ∧ t.Bl (· < w.heap.size)) := by
      intro t ht
      rcases List.mem_cons.1 ht with rfl | ht
      · exact ⟨hx.below hb0, hx.bl⟩
      · obtain ⟨q, hq, rfl⟩ := List.getElem_of_mem ht
        obtain ⟨_, _, _, _, _, hi⟩ := hT.part q hq
        exact ⟨hi.below hb0, hi.bl⟩
    have hm : 0 < T.l.length := by omega
    have HB : Hid (Below w.heap.size w ((w.alloc (.cells #[.int .i64 x.k, .slice x.a x.l.length x.c] 24)).alloc (.cells #[.int .i64 x.k, .slice x.a x.l.length x.c] 24))) := hb0
    rw [ea]
    clear hx hT hT1 ea hb0
    go_enter Tryd.func63, Tryd.ntmps63
    go_wp2_with (at_builtin; refine wpList_append_lies _ rfl _ _ _ rfl (w.heap.size + 1) 24 i0 _ 2 32 Tryd.underlying22 hi0 hz0 hz1 hz2 rfl (by omega) (.slice (some ⟨w.heap.size + 1, 0, none⟩) 1 1) 1 (cellsOf [x]) rfl hown ⟨b, o, none⟩ T.l.length T.c (cellsOf T.l) rfl (cellsOf_length _) hnews (cellsOf_one _) hm (by unfold maxLen; omega) (by omega) (by simp) (w.heap.size + 1 + 1) (by simp) ?_; intro gg cap1 w3 hown1 hgrow hat hlt3)
    have hg : w.heap.size + 1 ≤ gg := by rcases hat with h | h
                                         · simp [Value.ownBlock] at h; omega
                                         · omega
    have hsz := hgrow.size
    have hlow : Below (w.heap.size + 1) ((w.alloc (.cells #[.int .i64 x.k, .slice x.a x.l.length x.c] 24)).alloc (.cells #[.int .i64 x.k, .slice x.a x.l.length x.c] 24)) w3 :=
      ⟨hgrow.os, hgrow.tape, hgrow.output, hgrow.size, fun q hq => hgrow.block q (by simp; omega) (by simp [Value.ownBlock]; omega)⟩
    have HE : Hid ((Tr.mk 0 (some ⟨gg, 0, none⟩) cap1 (x :: T.l)).In w3 ∧ Below w.heap.size w w3) := by
      refine ⟨tr_of_row (n := 1 + T.l.length) (l := x :: T.l) (by simpa [cellsOf] using hown1) (by simp; omega) (fun t ht => ?_) 0, HB.out.trans (hlow.mono (by omega))⟩
      obtain ⟨h1, h2⟩ := HIN.out t ht
      exact Tr.In.congr (P := fun q => q < w.heap.size) (fun q hq o => hlow.cell (p := ⟨q, o, none⟩) (by show q < _; omega)) h2 h1
    clear hown1 hgrow hat hlt3 hlow hown hnews HIN HB
    go_wp2_with fail
    go_ret
    exact ⟨⟨0, some ⟨gg, 0, none⟩, cap1, x :: T.l⟩, by simp [Nat.add_comm], rfl, HE.out.1, fun y hy => by cases hy; show w.heap.size ≤ gg; omega, HE.out.2⟩
end Go.Proofs.YtnddkmccagiclaaDoor

/-
  What check's read and readAll are to answer; rows of readings that a call makes longer; no program's run in it.
-/
namespace Go.Proofs.YtnddkmccagiclaaDoor
open Go.RowKit
/-- The counter. -/
structure CS (R c : Nat) (w : World) : Prop where
  c : w.cell? ⟨R, 0, none⟩ = some (.int .i64 (c : Int))
  f : w.frozen? ⟨R, 0, none⟩ = false
theorem CS.lt {R c : Nat} {w : World} (h : CS R c w) : R < w.heap.size := World.block_lt_of_cell? _ _ h.c
theorem CS.below {R c : Nat} {w w' : World} (h : CS R c w) (hb : Below w.heap.size w w') : CS R c w' :=
  ⟨cell_later hb h.c, (hb.frozen (p := ⟨R, 0, none⟩) h.lt).trans h.f⟩
/-- What read answers. -/
def RdPost (Q : Nat → Prop) (R : Nat) (x : TT) (c : Nat) (takes : List Ty) (w : World) (e : Ending) (w' : World) : Prop :=
  Kept R none w w' ∧ ((readS x.tm takes c = none ∧ e = .returned (.tuple #[.agg #[.int .i64 0, .int .i64 0, .int .i64 0, .int .i64 0, .slice none 0 0, .int .i64 0, .slice none 0 0, .slice none 0 0, .int .i64 0, .slice none 0 0], .bool false])) ∨
    ∃ r : Rd, readS x.tm takes c = some (r.y.tm, r.i.ty) ∧ e = .returned (.tuple #[.agg #[.int .i64 r.n, .int .i64 r.y.k, .int .i64 r.y.n, .int .i64 r.y.t.k, .slice r.y.t.a r.y.t.l.length r.y.t.c, .int .i64 r.y.f.k, .slice r.y.f.a r.y.f.l.length r.y.f.c, .slice r.y.a r.y.l.length r.y.c, .int .i64 r.i.k, .slice r.i.a r.i.l.length r.i.c], .bool true]) ∧
      r.n = (c : Int) ∧ r.y.In w' ∧ r.i.In w' ∧ r.y.Bl Q ∧ r.i.Bl Q ∧ CS R (c + x.sz) w')
/-- What it asks. -/
structure RdPre (Q : Nat → Prop) (R : Nat) (x : TT) (c : Nat) (T : Tr) (w : World) : Prop where
  ok : okTm x.tm T.l.length
  tk : ∀ t, t ∈ T.l → goodT 4 t = true
  rm : c + x.sz ≤ 900 ∧ T.l.length + x.sz ≤ 900
  xi : x.In w
  ti : T.In w
  cs : CS R c w
  xb : x.Bl Q
  tb : T.Bl Q
  nw : ∀ b, w.heap.size ≤ b → Q b
  ne : ∀ b, Q b → b ≠ R
def tri (r : Rd) : Nat × Tm × Ty := (r.n.toNat, r.y.tm, r.i.ty)
theorem readL_append (takes : List Ty) : ∀ (l m : List Tm) (c : Nat), readL (l ++ m) takes c = (readL l takes c).bind fun ps => (readL m takes (c + (l.map Tm.sz).sum)).bind fun qs => some (ps ++ qs)
  | [], m, c => by
    simp only [List.nil_append, readL, Option.bind_some, List.map_nil, List.sum_nil, Nat.add_zero]
    cases readL m takes c <;> rfl
  | x :: r, m, c => by
    simp only [List.cons_append, readL, readL_append takes r m, List.map_cons, List.sum_cons, Nat.add_assoc]
    cases readS x takes c with
    | none => rfl
    | some p =>
      simp only [Option.bind_some]
      cases readL r takes (c + x.sz) with
      | none => rfl
      | some q =>
        simp only [Option.bind_some]
        cases readL m takes (c + (x.sz + (r.map Tm.sz).sum)) <;> rfl
theorem readL_snoc {takes : List Ty} {l : List Tm} {c : Nat} {ps : List (Nat × Tm × Ty)} {x y : Tm} {i : Ty} (h : readL l takes c = some ps) (hx : readS x takes (c + (l.map Tm.sz).sum) = some (y, i)) : readL (l ++ [x]) takes c = some (ps ++ [(c + (l.map Tm.sz).sum, y, i)]) := by
  rw [readL_append, h]
  simp [readL, hx]
theorem readL_stop {takes : List Ty} {l : List Tm} {c : Nat} {x : Tm} {m : List Tm} (hx : readS x takes (c + (l.map Tm.sz).sum) = none) : readL (l ++ x :: m) takes c = none := by
  rw [readL_append]
  cases readL l takes c with
  | none => rfl
  | some ps => simp [readL, hx]
/-! ### Rows of readings -/
def cell10 (r : Rd) : List Value := [.int .i64 r.n, .int .i64 r.y.k, .int .i64 r.y.n, .int .i64 r.y.t.k, .slice r.y.t.a r.y.t.l.length r.y.t.c, .int .i64 r.y.f.k, .slice r.y.f.a r.y.f.l.length r.y.f.c, .slice r.y.a r.y.l.length r.y.c, .int .i64 r.i.k, .slice r.i.a r.i.l.length r.i.c]
def cells10 (rs : List Rd) : List Value := rs.flatMap cell10
theorem cells10_append (a b : List Rd) : cells10 (a ++ b) = cells10 a ++ cells10 b := by simp [cells10]
theorem cells10_one (r : Rd) : cells10 [r] = cell10 r := by simp [cells10]
theorem cells10_at : ∀ (l : List Rd) (j : Nat) (h : j < l.length) (i : Nat), i < 10 → (cells10 l)[j * 10 + i]? = (cell10 l[j])[i]?
  | [], j, h, _, _ => by simp at h
  | x :: r, 0, _, i, hi => by
    have : cells10 (x :: r) = cell10 x ++ cells10 r := by simp [cells10]
    rw [this, List.getElem?_append_left (by simp [cell10]; omega)]
    simp
  | x :: r, j + 1, h, i, hi => by
    have ih := cells10_at r j (by simpa using h) i hi
    have e : cells10 (x :: r) = cell10 x ++ cells10 r := by simp [cells10]
    rw [e, List.getElem?_append_right (by simp [cell10]; omega)]
    have : (j + 1) * 10 + i - (cell10 x).length = j * 10 + i := by simp [cell10]; omega
    rw [this]
    simpa using ih
structure RowR (Q : Nat → Prop) (base : Nat) (v : Value) (rs : List Rd) (w : World) : Prop where
  own : w.ownsRow base 63 10 v rs.length (cells10 rs)
  ins : ∀ r, r ∈ rs → r.y.In w ∧ r.i.In w ∧ r.y.Bl (fun b => Q b ∧ some b ≠ v.ownBlock) ∧ r.i.Bl (fun b => Q b ∧ some b ≠ v.ownBlock)
theorem RowR.nil (Q : Nat → Prop) (base : Nat) (w : World) : RowR Q base (.slice none 0 0) [] w := ⟨World.ownsRow_nil _ _ _ _, fun c h => by cases h⟩
theorem RowR.kept {Q : Nat → Prop} {base R : Nat} {v : Value} {rs : List Rd} {w w' : World} (h : RowR Q base v rs w) (hk : Kept R none w w') (hR : R < base) (hQ : ∀ b, Q b → b ≠ R) : RowR Q base v rs w' := by
  refine ⟨⟨h.own.1, ?_⟩, fun c hc => ?_⟩
  · rcases h.own.2 with hn | ⟨g, cap, cur, hv, hb, hg, rest⟩
    · exact .inl hn
    · exact .inr ⟨g, cap, cur, hv, hb, (hk.block g (Array.getElem?_eq_some_iff.1 hg).1 (by omega) (by simp)).trans hg, rest⟩
  · obtain ⟨h1, h2, h3, h4⟩ := h.ins c hc
    exact ⟨h1.keptR hk (h3.mono fun b hb => hQ b hb.1), h2.keptR hk (h4.mono fun b hb => hQ b hb.1), h3, h4⟩
theorem RowR.below {Q : Nat → Prop} {base : Nat} {v : Value} {rs : List Rd} {w w' : World} (h : RowR Q base v rs w) (hb : Below w.heap.size w w') : RowR Q base v rs w' := by
  refine ⟨⟨h.own.1, ?_⟩, fun c hc => ⟨(h.ins c hc).1.below hb, (h.ins c hc).2.1.below hb, (h.ins c hc).2.2⟩⟩
  rcases h.own.2 with hn | ⟨g, cap, cur, hv, hb', hg, rest⟩
  · exact .inl hn
  · exact .inr ⟨g, cap, cur, hv, hb', (hb.block g (Array.getElem?_eq_some_iff.1 hg).1).trans hg, rest⟩
theorem RowR.lt {Q : Nat → Prop} {base : Nat} {v : Value} {rs : List Rd} {w : World} (h : RowR Q base v rs w) (k : Nat) (hk : v.ownBlock = some k) : base ≤ k ∧ k < w.heap.size := h.own.lt k hk
/-- One more. -/
theorem RowR.step {Q : Nat → Prop} {base : Nat} {v : Value} {rs : List Rd} {w2 w3 : World} {r : Rd} {gg cap1 : Nat} {X : Obj} (h : RowR Q base v rs w2) (yi : r.y.In w2) (ii : r.i.In w2) (yb : r.y.Bl (fun b => Q b ∧ some b ≠ v.ownBlock)) (ib : r.i.Bl (fun b => Q b ∧ some b ≠ v.ownBlock))
    (hown : w3.ownsRow base 63 10 (.slice (some ⟨gg, 0, none⟩) (rs.length + 1) cap1) (rs.length + 1) (cells10 rs ++ cells10 [r])) (hgrow : (w2.alloc X).grownBy w3 v.ownBlock) (hat : v.ownBlock = some gg ∨ gg = w2.heap.size + 1) :
    RowR Q base (.slice (some ⟨gg, 0, none⟩) (rs.length + 1) cap1) (rs ++ [r]) w3 ∧ ∀ k, k < w2.heap.size → some k ≠ v.ownBlock → w3.heap[k]? = w2.heap[k]? := by
  have hblk : ∀ k, k < w2.heap.size → some k ≠ v.ownBlock → w3.heap[k]? = w2.heap[k]? := fun k hk hn => by
    rw [hgrow.block k (by simp; omega) hn]
    exact ((Below.refl _ w2).alloc (Nat.le_refl _) X).block k hk
  refine ⟨⟨by rw [cells10_append, List.length_append, List.length_singleton]; exact hown, fun d hd => ?_⟩, hblk⟩
  have key : d.y.In w2 ∧ d.i.In w2 ∧ d.y.Bl (fun b => Q b ∧ some b ≠ v.ownBlock) ∧ d.i.Bl (fun b => Q b ∧ some b ≠ v.ownBlock) := by
    rcases List.mem_append.1 hd with hd | hd
    · exact h.ins d hd
    · rcases List.mem_singleton.1 hd with rfl
      exact ⟨yi, ii, yb, ib⟩
  have hne : ∀ b, b < w2.heap.size ∧ (Q b ∧ some b ≠ v.ownBlock) → Q b ∧ some b ≠ (Value.slice (some ⟨gg, 0, none⟩) (rs.length + 1) cap1).ownBlock := by
    intro b hb
    refine ⟨hb.2.1, ?_⟩
    show some b ≠ some gg
    rcases hat with e | e
    · rw [← e]; exact hb.2.2
    · simp only [ne_eq, Option.some.injEq]; omega
  have hsame : ∀ b, b < w2.heap.size ∧ (Q b ∧ some b ≠ v.ownBlock) → ∀ i, w3.cell? ⟨b, i, none⟩ = w2.cell? ⟨b, i, none⟩ := fun b hb i =>
    World.cell?_of_block (a := ⟨b, i, none⟩) (hblk b hb.1 hb.2.2)
  have y3 := key.1.bl.and key.2.2.1
  have i3 := key.2.1.bl.and key.2.2.2
  exact ⟨key.1.congr (P := fun b => b < w2.heap.size ∧ (Q b ∧ some b ≠ v.ownBlock)) hsame y3, key.2.1.congr (P := fun b => b < w2.heap.size ∧ (Q b ∧ some b ≠ v.ownBlock)) hsame i3, y3.mono hne, i3.mono hne⟩
/-- A row that the call owns is a row of readings. -/
theorem RowR.list {Q : Nat → Prop} {base : Nat} {v : Value} {rs : List Rd} {w : World} (h : RowR Q base v rs w) : ∃ a c, v = .slice a rs.length c ∧ RL w a rs := by
  rcases h.own.2 with ⟨rfl, h0⟩ | ⟨g, cap, cur, rfl, hg, _⟩
  · have : rs = [] := List.length_eq_zero_iff.1 h0
    subst this
    exact ⟨none, 0, rfl, fun j hj => absurd hj (by simp)⟩
  · refine ⟨_, _, rfl, fun j hj => ⟨g, 0, rfl, ?_, (h.ins _ (List.getElem_mem hj)).1, (h.ins _ (List.getElem_mem hj)).2.1⟩⟩
    have hc : ∀ i, i < 10 → w.cell? ⟨g, 0 + j * 10 + i, none⟩ = _ := fun i hi => by rw [Nat.zero_add, h.own.cellAt (j * 10 + i) (by omega), cells10_at rs j hj i hi]
    exact ⟨hc 0 (by omega), ⟨hc 1 (by omega), hc 2 (by omega), hc 3 (by omega), hc 4 (by omega), hc 5 (by omega), hc 6 (by omega), hc 7 (by omega)⟩, hc 8 (by omega), hc 9 (by omega)⟩
/-- What readAll answers. -/
def RaPost (Q : Nat → Prop) (R : Nat) (l : List TT) (c : Nat) (takes : List Ty) (w : World) (e : Ending) (w' : World) : Prop :=
  Kept R none w w' ∧ ((readL (l.map TT.tm) takes c = none ∧ e = .returned (.tuple #[.slice none 0 0, .bool false])) ∨
    ∃ (rs : List Rd) (a : Option Addr) (cap : Nat), readL (l.map TT.tm) takes c = some (rs.map tri) ∧ e = .returned (.tuple #[.slice a rs.length cap, .bool true]) ∧ (∀ r, r ∈ rs → 0 ≤ r.n) ∧ RL w' a rs ∧ (∀ r, r ∈ rs → r.y.Bl Q ∧ r.i.Bl Q) ∧ CS R (c + (l.map TT.sz).sum) w')
end Go.Proofs.YtnddkmccagiclaaDoor

/-
  What the call of check's readAll answers, if read answers as it should at each part.
-/
namespace Go.Proofs.YtnddkmccagiclaaDoor
open Go.RowKit
theorem Tryd.info63 : (Tryd.prog.info? 63).map (fun i => (i.zero, i.size, i.bytes)) = some (some (.agg #[.int .i64 0, .int .i64 0, .int .i64 0, .int .i64 0, .slice none 0 0, .int .i64 0, .slice none 0 0, .slice none 0 0, .int .i64 0, .slice none 0 0]), 10, 144) := by kernel_rfl
/-- While the parts are read. -/
structure RaInv (Q : Nat → Prop) (R : Nat) (x : TT) (c : Nat) (T : Tr) (w : World) (j : Nat) (v : Value) (rs : List Rd) (wr : World) : Prop where
  kp : Kept R none w wr
  row : RowR Q w.heap.size v rs wr
  len : rs.length = j
  nn : ∀ r, r ∈ rs → 0 ≤ r.n
  rd : readL ((x.l.take j).map TT.tm) (T.l.map Tr.ty) c = some (rs.map tri)
  cs : CS R (c + ((x.l.take j).map TT.sz).sum) wr
theorem sz_map (l : List TT) : (l.map TT.tm).map Tm.sz = l.map TT.sz := by
  rw [List.map_map]
  exact List.map_congr_left fun x _ => x.sz_tm.symm
theorem take_snoc {α : Type} (l : List α) (j : Nat) (h : j < l.length) : l.take (j + 1) = l.take j ++ [l[j]] := by
  rw [List.take_add_one, List.getElem?_eq_getElem h]
  rfl
set_option maxRecDepth 20000 in
set_option maxHeartbeats 8000000 in
theorem readAll_any (Q : Nat → Prop) (R : Nat) (x : TT) (c : Nat) (T : Tr) (w : World)
    (HRD : ∀ y, y ∈ x.l → ∀ (Q' : Nat → Prop) (c' : Nat) (W : World), RdPre Q' R y c' T W → Calls Tryd.prog 38 #[.pointer (some ⟨R, 0, none⟩), .agg #[.int .i64 y.k, .int .i64 y.n, .int .i64 y.t.k, .slice y.t.a y.t.l.length y.t.c, .int .i64 y.f.k, .slice y.f.a y.f.l.length y.f.c, .slice y.a y.l.length y.c], .slice T.a T.l.length T.c] W (RdPost Q' R y c' (T.l.map Tr.ty) W))
    (hok : ∀ y, y ∈ x.l → okTm y.tm T.l.length) (htk : ∀ t, t ∈ T.l → goodT 4 t = true) (hrm : c + (x.l.map TT.sz).sum ≤ 900 ∧ T.l.length + (x.l.map TT.sz).sum ≤ 900) (xi : x.In w) (ti : T.In w) (hcs : CS R c w) (xb : x.Bl Q) (tb : T.Bl Q) (nw : ∀ b, w.heap.size ≤ b → Q b) (ne : ∀ b, Q b → b ≠ R) :
    Calls Tryd.prog 64 #[.pointer (some ⟨R, 0, none⟩), .slice x.a x.l.length x.c, .slice T.a T.l.length T.c] w (RaPost Q R x.l c (T.l.map Tr.ty) w) := by
  obtain ⟨i0, hi0, hz0, hz1, hz2⟩ := info_parts Tryd.info63
  have hxl : x.l.length ≤ 1000 := by
    have : x.l.length ≤ (x.l.map TT.sz).sum := by
      have : ∀ l : List TT, l.length ≤ (l.map TT.sz).sum := fun l => by
        induction l with
        | nil => simp
        | cons u r ih => have := u.sz_pos; simp only [List.length_cons, List.map_cons, List.sum_cons]; omega
      exact this _
    omega
  have hRl : R < w.heap.size := hcs.lt
  have HP : Hid ((∀ y, y ∈ x.l → okTm y.tm T.l.length) ∧ (∀ t, t ∈ T.l → goodT 4 t = true) ∧ (c + (x.l.map TT.sz).sum ≤ 900 ∧ T.l.length + (x.l.map TT.sz).sum ≤ 900) ∧ x.Bl Q ∧ T.Bl Q ∧ (∀ b, w.heap.size ≤ b → Q b) ∧ (∀ b, Q b → b ≠ R)) := ⟨hok, htk, hrm, xb, tb, nw, ne⟩
  have HX : Hid (x.In w ∧ T.In w) := ⟨xi, ti⟩
  have HRD' : Hid (∀ y, y ∈ x.l → ∀ (Q' : Nat → Prop) (c' : Nat) (W : World), RdPre Q' R y c' T W → Calls Tryd.prog 38 #[.pointer (some ⟨R, 0, none⟩), .agg #[.int .i64 y.k, .int .i64 y.n, .int .i64 y.t.k, .slice y.t.a y.t.l.length y.t.c, .int .i64 y.f.k, .slice y.f.a y.f.l.length y.f.c, .slice y.a y.l.length y.c], .slice T.a T.l.length T.c] W (RdPost Q' R y c' (T.l.map Tr.ty) W)) := HRD
  have HL0 : Hid (RaInv Q R x c T w 0 (.slice none 0 0) [] w) := ⟨Kept.refl, RowR.nil _ _ _, rfl, fun r h => (by cases h), by simp [readL], by simpa using hcs⟩
  clear hok htk hrm xi ti hcs xb tb nw ne HRD
  go_enter Tryd.func64, Tryd.ntmps64
  go_wp2_with fail
  go_loopg [8, 15] x.l.length (fun g v i wr => ∃ (j : Nat) (u : Value) (rs : List Rd), g + j = x.l.length ∧ i = .int .i64 (j : Int) ∧ u = v ∧ Hid (RaInv Q R x c T w j u rs wr))
  case atStart => exact ⟨0, _, [], by omega, rfl, rfl, HL0⟩
  case round =>
    obtain ⟨j, v, rs, hj, rfl, hv, HQ⟩ := hrel
    subst hv
    clear HL0
    by_cases hlt : j < x.l.length
    · obtain ⟨b, o, ea, h7, hyi0⟩ := HX.out.1.part j hlt
      have hk := HQ.out.kp
      have hbR : b ≠ R := HP.out.2.2.2.2.2.2 b (HP.out.2.2.2.1.own (fun e => by rw [e] at hlt; simp at hlt) _ ea)
      have h7' := h7.keptR hk hbR
      have hym : x.l[j] ∈ x.l := List.getElem_mem hlt
      obtain ⟨y, hye⟩ : ∃ y, x.l[j] = y := ⟨_, rfl⟩
      have hyb := HP.out.2.2.2.1.mem hym
      have hyi : y.In wr := by rw [← hye]; exact hyi0.keptR hk (hyb.mono HP.out.2.2.2.2.2.2)
      have hTi : T.In wr := HX.out.2.keptR hk (HP.out.2.2.2.2.1.mono HP.out.2.2.2.2.2.2)
      have hyl : y.Bl (· < w.heap.size) := by rw [← hye]; exact hyi0.bl
      have hTl : T.Bl (· < w.heap.size) := HX.out.2.bl
      rw [hye] at h7' hym hyb
      obtain ⟨d0, d1, d2, d3, d4, d5, d6⟩ := h7'
      have i1 : (j : Int) < (x.l.length : Int) := by omega
      have i0' : (0 : Int) ≤ (j : Int) := by omega
      have HEA : Hid (x.a = some ⟨b, o, none⟩) := ea
      rw [ea]
      obtain ⟨OX, hOX⟩ : ∃ O, O = Obj.cells #[.int .i64 y.k, .int .i64 y.n, .int .i64 y.t.k, .slice y.t.a y.t.l.length y.t.c, .int .i64 y.f.k, .slice y.f.a y.f.l.length y.f.c, .slice y.a y.l.length y.c] 27 := ⟨_, rfl⟩
      have hbA : Below wr.heap.size wr (wr.alloc OX) := (Below.refl _ _).alloc (Nat.le_refl _) _
      have hsz : ((x.l.take (j + 1)).map TT.sz).sum = ((x.l.take j).map TT.sz).sum + y.sz := by
        rw [take_snoc _ _ hlt, hye]
        simp
      have hszl : ((x.l.take (j + 1)).map TT.sz).sum ≤ (x.l.map TT.sz).sum := sum_take_le TT.sz x.l (j + 1)
      have hws : w.heap.size ≤ wr.heap.size := hk.size
      have hrow := HQ.out.row
      have HC : Hid (Calls Tryd.prog 38 #[.pointer (some ⟨R, 0, none⟩), .agg #[.int .i64 y.k, .int .i64 y.n, .int .i64 y.t.k, .slice y.t.a y.t.l.length y.t.c, .int .i64 y.f.k, .slice y.f.a y.f.l.length y.f.c, .slice y.a y.l.length y.c], .slice T.a T.l.length T.c] (wr.alloc OX) (RdPost (fun b => Q b ∧ some b ≠ v.ownBlock) R y (c + ((x.l.take j).map TT.sz).sum) (T.l.map Tr.ty) (wr.alloc OX))) := by
        refine HRD'.out y hym _ _ _ ⟨HP.out.1 y hym, HP.out.2.1, ⟨by have := HP.out.2.2.1; omega, by have := HP.out.2.2.1; omega⟩, hyi.below hbA, hTi.below hbA, HQ.out.cs.below hbA, ?_, ?_, ?_, fun b hb => HP.out.2.2.2.2.2.2 b hb.1⟩
        · exact (hyb.and hyl).mono fun b hb => ⟨hb.1, fun e => by have := (hrow.lt b e.symm).1; omega⟩
        · exact (HP.out.2.2.2.2.1.and hTl).mono fun b hb => ⟨hb.1, fun e => by have := (hrow.lt b e.symm).1; omega⟩
        · intro b hb
          simp only [World.size_alloc] at hb
          exact ⟨HP.out.2.2.2.2.2.1 b (by omega), fun e => by have := (hrow.lt b e.symm).2; omega⟩
      have HQA : Hid (Kept R none w (wr.alloc OX) ∧ RowR Q w.heap.size v rs (wr.alloc OX) ∧ rs.length = j ∧ (∀ r, r ∈ rs → 0 ≤ r.n) ∧ readL ((x.l.take j).map TT.tm) (T.l.map Tr.ty) c = some (rs.map tri)) := ⟨hk.trans (Kept.of_below hbA), hrow.below hbA, HQ.out.len, HQ.out.nn, HQ.out.rd⟩
      have HY : Hid (x.l[j] = y ∧ ((x.l.take (j + 1)).map TT.sz).sum = ((x.l.take j).map TT.sz).sum + y.sz) := ⟨hye, hsz⟩
      have hvs : rs.length ≤ 1000 := by have := HQ.out.len; omega
      clear h7 hyi0 hk hbR hym hyb hyi hTi hyl hTl hbA hsz hszl hws hrow HQ ea hye
      subst hOX
      go_wp2_with fail
      clear d0 d1 d2 d3 d4 d5 d6
      refine HC.out.mono ?_
      rintro e w2 ⟨hk2, ⟨hno, rfl⟩ | ⟨r, hyes, rfl, hn, hyi, hii, hyb, hib, hcs⟩⟩
      · have HN : Hid (RaPost Q R x.l c (T.l.map Tr.ty) w (.returned (.tuple #[.slice none 0 0, .bool false])) (w2.alloc (.cells #[.int .i64 0, .int .i64 0, .int .i64 0, .int .i64 0, .slice none 0 0, .int .i64 0, .slice none 0 0, .slice none 0 0, .int .i64 0, .slice none 0 0] 63))) := by
          refine ⟨(HQA.out.1.trans hk2).trans (Kept.of_below ((Below.refl _ _).alloc (Nat.le_refl _) _)), .inl ⟨?_, rfl⟩⟩
          have hsplit : x.l.map TT.tm = (x.l.take j).map TT.tm ++ y.tm :: (x.l.drop (j + 1)).map TT.tm := by
            conv => lhs; rw [← List.take_append_drop j x.l]
            rw [List.map_append, List.drop_eq_getElem_cons hlt, List.map_cons, HY.out.1]
          rw [hsplit]
          refine readL_stop ?_
          rw [sz_map]
          exact hno
        clear hno hk2 HC HQA
        go_wp2_with fail
        exact bodyPost_ret (v := .tuple #[.slice none 0 0, .bool false]) (by simp [results, Tryd.results64, go_sem]) rfl HN.out
      · obtain ⟨OR, hOR⟩ : ∃ O, O = Obj.cells #[.int .i64 r.n, .int .i64 r.y.k, .int .i64 r.y.n, .int .i64 r.y.t.k, .slice r.y.t.a r.y.t.l.length r.y.t.c, .int .i64 r.y.f.k, .slice r.y.f.a r.y.f.l.length r.y.f.c, .slice r.y.a r.y.l.length r.y.c, .int .i64 r.i.k, .slice r.i.a r.i.l.length r.i.c] 63 := ⟨_, rfl⟩
        have hbR : Below w2.heap.size w2 (w2.alloc OR) := (Below.refl _ _).alloc (Nat.le_refl _) _
        have hrow2 : RowR Q w.heap.size v rs (w2.alloc OR) := (HQA.out.2.1.kept hk2 hRl HP.out.2.2.2.2.2.2).below hbR
        obtain ⟨N, hN⟩ : ∃ N, rs.length = N := ⟨_, rfl⟩
        obtain ⟨xs, hxs⟩ : ∃ xs, cells10 rs = xs := ⟨_, rfl⟩
        have uo : (w2.alloc OR).ownsRow w.heap.size 63 10 v N xs := by rw [← hN, ← hxs]; exact hrow2.own
        have hnew := heap_alloc_new (w2.alloc OR) OR
        simp only [World.size_alloc] at hnew
        have HW : Hid (Kept R none w (w2.alloc OR) ∧ RowR Q w.heap.size v rs (w2.alloc OR) ∧ r.y.In (w2.alloc OR) ∧ r.i.In (w2.alloc OR) ∧ CS R (c + ((x.l.take j).map TT.sz).sum + y.sz) (w2.alloc OR)) := ⟨(HQA.out.1.trans hk2).trans (Kept.of_below hbR), hrow2, hyi.below hbR, hii.below hbR, hcs.below hbR⟩
        have HB : Hid (r.y.Bl (fun b => Q b ∧ some b ≠ v.ownBlock) ∧ r.i.Bl (fun b => Q b ∧ some b ≠ v.ownBlock) ∧ r.n = ((c + ((x.l.take j).map TT.sz).sum : Nat) : Int) ∧ readS y.tm (T.l.map Tr.ty) (c + ((x.l.take j).map TT.sz).sum) = some (r.y.tm, r.i.ty)) := ⟨hyb, hib, hn, hyes⟩
        have HNX : Hid (rs.length = N ∧ cells10 rs = xs) := ⟨hN, hxs⟩
        have hNb : N ≤ 1000 := by omega
        have hw2 : w.heap.size ≤ w2.heap.size := by have h1 := HQA.out.1.size; have h2 := hk2.size; omega
        clear hyes hn hyi hii hyb hib hcs hk2 HC hbR hrow2 hN hxs
        subst hOR
        go_wp2_with (at_builtin; refine wpList_append_lies _ rfl _ _ _ rfl w.heap.size 63 i0 _ 10 144 Tryd.underlying99 hi0 hz0 hz1 hz2 rfl (by omega) v N xs rfl (uo.alloc _) ⟨w2.heap.size + 1, 0, none⟩ 1 1 [.int .i64 r.n, .int .i64 r.y.k, .int .i64 r.y.n, .int .i64 r.y.t.k, .slice r.y.t.a r.y.t.l.length r.y.t.c, .int .i64 r.y.f.k, .slice r.y.f.a r.y.f.l.length r.y.f.c, .slice r.y.a r.y.l.length r.y.c, .int .i64 r.i.k, .slice r.i.a r.i.l.length r.i.c] rfl rfl (World.news_of_block (cs := #[.int .i64 r.n, .int .i64 r.y.k, .int .i64 r.y.n, .int .i64 r.y.t.k, .slice r.y.t.a r.y.t.l.length r.y.t.c, .int .i64 r.y.f.k, .slice r.y.f.a r.y.f.l.length r.y.f.c, .slice r.y.a r.y.l.length r.y.c, .int .i64 r.i.k, .slice r.i.a r.i.l.length r.i.c]) (t := 63) (fr := (0, 0)) hnew) (by simp [Value.oneCell']) (by omega) (by unfold maxLen; omega) (by omega) (by simp; omega) (w2.heap.size + 1 + 1) (by simp) ?_; intro gg cap1 w3 hown1 hgrow hat hlt3)
        have hov : ∀ q, v.ownBlock = some q → w.heap.size ≤ q := fun q hq => (uo.lt q hq).1
        obtain ⟨OR, hOR⟩ : ∃ O, O = Obj.cells #[.int .i64 r.n, .int .i64 r.y.k, .int .i64 r.y.n, .int .i64 r.y.t.k, .slice r.y.t.a r.y.t.l.length r.y.t.c, .int .i64 r.y.f.k, .slice r.y.f.a r.y.f.l.length r.y.f.c, .slice r.y.a r.y.l.length r.y.c, .int .i64 r.i.k, .slice r.i.a r.i.l.length r.i.c] 63 := ⟨_, rfl⟩
        rw [← hOR] at hgrow HW
        have HN : Hid (RaInv Q R x c T w (j + 1) (.slice (some ⟨gg, 0, none⟩) (N + 1) cap1) (rs ++ [r]) w3) := by
          obtain ⟨hkw, hrw, hyw, hiw, hcw⟩ := HW.out
          obtain ⟨eN, exs⟩ := HNX.out
          have hst := hrw.step (gg := gg) (cap1 := cap1) (w3 := w3) (X := OR) hyw hiw HB.out.1 HB.out.2.1 (by rw [eN, exs, cells10_one]; exact hown1) hgrow (by simpa using hat)
          have hR2 : R < (w2.alloc OR).heap.size := hcw.lt
          have hRv : some R ≠ v.ownBlock := fun e => by have := hov R e.symm; omega
          have hs := hgrow.size
          simp only [World.size_alloc] at hs hR2
          have hk3 : Kept R none w w3 := by
            refine ⟨(hgrow.os.trans rfl).trans hkw.os, (hgrow.tape.trans rfl).trans hkw.tape, (hgrow.output.trans rfl).trans hkw.output, by omega, fun q hq hqR hq2 => ?_⟩
            exact (hst.2 q (by simp; omega) (fun e => by have := hov q e.symm; omega)).trans (hkw.block q hq hqR hq2)
          have hc3 : CS R (c + ((x.l.take j).map TT.sz).sum + y.sz) w3 :=
            ⟨(World.cell?_of_block (a := ⟨R, 0, none⟩) (hst.2 R (by simp; omega) hRv)).trans hcw.c, (World.frozen?_of_block (a := ⟨R, 0, none⟩) (hst.2 R (by simp; omega) hRv)).trans hcw.f⟩
          have hst1 := hst.1
          rw [eN] at hst1
          refine ⟨hk3, hst1, by rw [List.length_append, HQA.out.2.2.1]; rfl, fun q hq => ?_, ?_, ?_⟩
          · rcases List.mem_append.1 hq with hq | hq
            · exact HQA.out.2.2.2.1 q hq
            · rcases List.mem_singleton.1 hq with rfl
              rw [HB.out.2.2.1]; omega
          · rw [take_snoc _ _ hlt, HY.out.1, List.map_append, List.map_append]
            have := readL_snoc HQA.out.2.2.2.2 (by rw [sz_map]; exact HB.out.2.2.2)
            rw [sz_map] at this
            have e : tri r = (c + ((x.l.take j).map TT.sz).sum, r.y.tm, r.i.ty) := by
              unfold tri
              rw [HB.out.2.2.1]
              rfl
            simpa [e] using this
          · rw [HY.out.2, ← Nat.add_assoc]
            exact hc3
        clear hown1 hgrow hat hlt3 hov HW uo hnew hOR HB HQA HNX
        go_wp2_with fail
        rw [← HEA.out]
        go_roundg (x.l.length - (j + 1))
        case measure => omega
        case rel => exact ⟨j + 1, _, rs ++ [r], by omega, by go_num, rfl, HN⟩
    · have hje : j = x.l.length := by omega
      have HN : Hid (∃ a cap, v = .slice a rs.length cap ∧ RaPost Q R x.l c (T.l.map Tr.ty) w (.returned (.tuple #[v, .bool true])) wr) := by
        obtain ⟨a, cap, hv, hrl⟩ := HQ.out.row.list
        refine ⟨a, cap, hv, HQ.out.kp, .inr ⟨rs, a, cap, ?_, by rw [hv], HQ.out.nn, hrl, fun r hr => ⟨(HQ.out.row.ins r hr).2.2.1.mono fun b hb => hb.1, (HQ.out.row.ins r hr).2.2.2.mono fun b hb => hb.1⟩, ?_⟩⟩
        · have := HQ.out.rd
          rwa [List.take_of_length_le (by omega)] at this
        · have := HQ.out.cs
          rwa [List.take_of_length_le (by omega)] at this
      obtain ⟨a, cap, rfl, hpost⟩ := HN.out
      have HF : Hid (RaPost Q R x.l c (T.l.map Tr.ty) w (.returned (.tuple #[.slice a rs.length cap, .bool true])) wr) := hpost
      clear HQ HN hpost
      go_wp2_with fail
      exact bodyPost_ret (v := .tuple #[.slice a rs.length cap, .bool true]) (by simp [results, Tryd.results64, go_sem]) rfl HF.out
end Go.Proofs.YtnddkmccagiclaaDoor
