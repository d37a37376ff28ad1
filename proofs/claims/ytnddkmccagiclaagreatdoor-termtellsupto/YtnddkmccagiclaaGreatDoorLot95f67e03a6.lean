/-
  What the call of chaperoneref.CopyType answers at a tree that lies in memory.
-/
import Derived.Test.YtnddkmccagiclaaGreatDoorLot165290add2
import Derived.Test.YtnddkmccagiclaaGreatDoorLotce5b4f1487
import Derived.Test.YtnddkmccagiclaaGreatDoorLotae048bf8fb
import Derived.Test.YtnddkmccagiclaaGreatDoorLot248afb2e9e
import Derived.Test.YtnddkmccagiclaaGreatDoorLotdfd9329f6e
import Derived.OpenShut
import Derived.Test.YtnddkmccagiclaaGreatDoorLot24e9133cd1
namespace Go.Proofs.YtnddkmccagiclaaGreatDoor
open Go.RowKit

theorem Tr.sz_eq (t : Tr) : t.sz = (t.l.map Tr.sz).sum + 1 := by cases t; rw [Tr.sz_mk]

theorem sz_take (l : List Tr) (j : Nat) (h : j < l.length) : ((l.take (j + 1)).map Tr.sz).sum = ((l.take j).map Tr.sz).sum + l[j].sz := by
  rw [List.take_succ_eq_append_getElem h, List.map_append, List.sum_append]
  simp only [List.map_cons, List.map_nil, List.sum_cons, List.sum_nil, Nat.add_zero]

theorem sz_take_le : ∀ (l : List Tr) (j : Nat), ((l.take j).map Tr.sz).sum ≤ (l.map Tr.sz).sum
  | [], j => by simp
  | t :: r, 0 => by simp
  | t :: r, j + 1 => by
    have := sz_take_le r j
    simp only [List.take_succ_cons, List.map_cons, List.sum_cons]; omega

theorem len_sz : ∀ (l : List Tr), l.length ≤ (l.map Tr.sz).sum
  | [] => Nat.zero_le _
  | t :: r => by
    have h1 := len_sz r
    have h2 := t.sz_pos
    simp only [List.map_cons, List.sum_cons, List.length_cons]; omega

theorem ownsRow_below {w w' : World} {base : Nat} {e : TypeId} {size : Nat} {v : Value} {n : Nat} {xs : List Value} (h : w.ownsRow base e size v n xs) (hb : Below w.heap.size w w') : w'.ownsRow base e size v n xs := by
  refine ⟨h.1, ?_⟩
  rcases h.2 with hn | ⟨g, cap, cur, rfl, h1, hgg, rest⟩
  · exact .inl hn
  · exact .inr ⟨g, cap, cur, rfl, h1, by rw [hb.block g (Array.getElem?_eq_some_iff.1 hgg).1]; exact hgg, rest⟩

theorem cellsOf_at2 : ∀ (l : List Tr) (j : Nat) (h : j < l.length), (cellsOf l)[j * 2]? = some (.int .i64 l[j].k) ∧ (cellsOf l)[j * 2 + 1]? = some l[j].sl
  | [], j, h => by simp at h
  | t :: r, 0, _ => by simp [cellsOf, Tr.sl]
  | t :: r, j + 1, h => by
    have ih := cellsOf_at2 r j (by simpa using h)
    have e : (j + 1) * 2 = j * 2 + 1 + 1 := by omega
    rw [e]
    simpa [cellsOf] using ih

/-- A row of trees that the call owns is a tree's list. -/
theorem row_in {w : World} {base : Nat} {v : Value} {cs : List Tr} (h : w.ownsRow base 24 2 v cs.length (cellsOf cs)) (hc : ∀ c, c ∈ cs → c.In w ∧ c.Bl (base ≤ ·)) : ∃ a c, v = .slice a cs.length c ∧ ∀ k, (Tr.mk k a c cs).In w ∧ (Tr.mk k a c cs).Bl (base ≤ ·) := by
  rcases h.2 with ⟨rfl, h0⟩ | ⟨g, cap, cur, rfl, hg, _⟩
  · have : cs = [] := List.length_eq_zero_iff.1 h0
    subst this
    exact ⟨none, 0, rfl, fun k => ⟨Tr.In_nil _ _ _ _, Tr.Bl_nil _ _ _ _⟩⟩
  · refine ⟨_, _, rfl, fun k => ⟨Tr.In_mk.2 ⟨fun j hj => ⟨g, 0, rfl, ?_, ?_⟩, fun t ht => (hc t ht).1⟩, Tr.Bl_mk.2 ⟨fun _ x hx => by cases hx; exact hg, fun t ht => (hc t ht).2⟩⟩⟩
    · rw [Nat.zero_add, h.cellAt (j * 2) (by omega), (cellsOf_at2 cs j hj).1]
    · rw [Nat.zero_add, h.cellAt (j * 2 + 1) (by omega), (cellsOf_at2 cs j hj).2]

/-- While the parts are copied: the box, the row of copies, the copies, the place of the answer. -/
structure CP (x : Tr) (j : Nat) (v : Value) (cs : List Tr) (w wr : World) : Prop where
  own : wr.ownsRow (w.heap.size + 1 + 1) 24 2 v cs.length (cellsOf cs)
  ins : ∀ c, c ∈ cs → c.In wr ∧ c.Bl (fun b => w.heap.size + 1 + 1 ≤ b ∧ some b ≠ v.ownBlock)
  ty : cs.map Tr.ty = (x.l.take j).map Tr.ty
  low : Below w.heap.size w wr
  b0 : wr.cell? ⟨w.heap.size, 0, none⟩ = some (.int .i64 x.k)
  b1 : wr.cell? ⟨w.heap.size, 1, none⟩ = some v
  bf : wr.frozen? ⟨w.heap.size, 1, none⟩ = false
  r0 : wr.cell? ⟨w.heap.size + 1, 0, none⟩ = some (.int .i64 0)
  r1 : wr.cell? ⟨w.heap.size + 1, 1, none⟩ = some (.slice none 0 0)
  f0 : wr.frozen? ⟨w.heap.size + 1, 0, none⟩ = false
  f1 : wr.frozen? ⟨w.heap.size + 1, 1, none⟩ = false

theorem CP.len {x : Tr} {j : Nat} {v : Value} {cs : List Tr} {w wr : World} (h : CP x j v cs w wr) (hj : j ≤ x.l.length) : cs.length = j := by
  have := congrArg List.length h.ty
  simpa [Nat.min_eq_left hj] using this

/-- One more copy. -/
theorem CP.step {x : Tr} {j : Nat} {v : Value} {cs : List Tr} {w wr w1 w2 w3 : World} {c : Tr} {gg cap1 : Nat} {X : Obj} (h : CP x j v cs w wr) (hj : j < x.l.length) (hb1 : Below wr.heap.size wr w1) (ht : c.ty = x.l[j].ty) (hin : c.In w2) (hbl : c.Bl (w1.heap.size ≤ ·)) (hb2 : Below w1.heap.size w1 w2)
    (hown : w3.ownsRow (w.heap.size + 1 + 1) 24 2 (.slice (some ⟨gg, 0, none⟩) (cs.length + 1) cap1) (cs.length + 1) (cellsOf cs ++ [.int .i64 c.k, .slice c.a c.l.length c.c])) (hgrow : (w2.alloc X).grownBy w3 v.ownBlock) (hat : v.ownBlock = some gg ∨ gg = w2.heap.size + 1) :
    CP x (j + 1) (.slice (some ⟨gg, 0, none⟩) (cs.length + 1) cap1) (cs ++ [c]) w (w3.setCell ⟨w.heap.size, 1, none⟩ (.slice (some ⟨gg, 0, none⟩) (cs.length + 1) cap1)) := by
  have s0 := h.low.size
  have s1 := hb1.size
  have s2 := hb2.size
  have s3 : w2.heap.size + 1 ≤ w3.heap.size := by have := hgrow.size; simpa using this
  have hlr : w.heap.size + 1 < wr.heap.size := World.block_lt_of_cell? _ _ h.r0
  have hba : Below w2.heap.size w2 (w2.alloc X) := (Below.refl _ _).alloc (Nat.le_refl _) _
  have hbr2 : Below wr.heap.size wr (w2.alloc X) := (hb1.trans (hb2.mono s1)).trans (hba.mono (by omega))
  have hov : ∀ k, v.ownBlock = some k → w.heap.size + 1 + 1 ≤ k ∧ k < wr.heap.size := h.own.lt
  have hno : ∀ k, k ≤ w.heap.size + 1 → some k ≠ v.ownBlock := fun k hk e => by have := (hov k e.symm).1; omega
  have hgg : w.heap.size + 1 + 1 ≤ gg := by
    rcases hat with e | e
    · exact (hov gg e).1
    · omega
  -- the blocks that are not the row's are as they were
  have hblk : ∀ k, k < w2.heap.size + 1 → some k ≠ v.ownBlock → w3.heap[k]? = (w2.alloc X).heap[k]? := fun k hk hn => hgrow.block k (by simpa using hk) hn
  have hset : ∀ k i, k ≠ w.heap.size → (w3.setCell ⟨w.heap.size, 1, none⟩ (.slice (some ⟨gg, 0, none⟩) (cs.length + 1) cap1)).cell? ⟨k, i, none⟩ = w3.cell? ⟨k, i, none⟩ := by
    intro k i hk
    rw [World.cell?_setCell_other]
    intro e; simp only [Addr.mk.injEq] at e; omega
  have hold : ∀ k i, k < wr.heap.size → some k ≠ v.ownBlock → w3.cell? ⟨k, i, none⟩ = wr.cell? ⟨k, i, none⟩ ∧ w3.frozen? ⟨k, i, none⟩ = wr.frozen? ⟨k, i, none⟩ := by
    intro k i hk hn
    have e : w3.heap[k]? = wr.heap[k]? := (hblk k (by omega) hn).trans (hbr2.block k hk)
    exact ⟨World.cell?_of_block (a := ⟨k, i, none⟩) e, World.frozen?_of_block (a := ⟨k, i, none⟩) e⟩
  refine ⟨?_, ?_, ?_, ?_, ?_, ?_, ?_, ?_, ?_, ?_, ?_⟩
  · rw [cellsOf_append, List.length_append, List.length_singleton]
    exact ownsRow_setCell_below hown (show w.heap.size < _ by omega) _
  · intro d hd
    rcases List.mem_append.1 hd with hd | hd
    · obtain ⟨i1, i2⟩ := h.ins d hd
      have i3 := i1.bl.and i2
      refine ⟨i1.congr (P := fun b => b < wr.heap.size ∧ w.heap.size + 1 + 1 ≤ b ∧ some b ≠ v.ownBlock) (fun b hb i => ?_) i3, i3.mono fun b hb => ⟨hb.2.1, ?_⟩⟩
      · rw [hset b i (by omega)]
        exact (hold b i hb.1 hb.2.2).1
      · show some b ≠ some gg
        rcases hat with e | e
        · rw [← e]; exact hb.2.2
        · simp only [ne_eq, Option.some.injEq]; omega
    · rcases List.mem_singleton.1 hd with rfl
      have i3 := hin.bl.and hbl
      refine ⟨hin.congr (P := fun b => b < w2.heap.size ∧ w1.heap.size ≤ b) (fun b hb i => ?_) i3, i3.mono fun b hb => ⟨by omega, ?_⟩⟩
      · rw [hset b i (by omega), World.cell?_of_block (a := ⟨b, i, none⟩) (hblk b (by omega) (fun e => by have := (hov b e.symm).2; omega))]
        exact hba.cell (p := ⟨b, i, none⟩) hb.1
      · show some b ≠ some gg
        rcases hat with e | e
        · have := (hov gg e).2
          simp only [ne_eq, Option.some.injEq]; omega
        · simp only [ne_eq, Option.some.injEq]; omega
  · rw [List.take_succ_eq_append_getElem hj, List.map_append, List.map_append, h.ty]
    simp [ht]
  · have hb3 : Below w.heap.size (w2.alloc X) w3 := ⟨hgrow.os, hgrow.tape, hgrow.output, hgrow.size, fun k hk => hblk k (by omega) (hno k (by omega))⟩
    exact ((h.low.trans (hbr2.mono s0)).trans hb3).setCell (by simp) _
  · rw [World.cell?_setCell_other]
    · exact (hold _ 0 (by omega) (hno _ (by omega))).1.trans h.b0
    · intro e; simp only [Addr.mk.injEq] at e; omega
  · exact World.cell?_setCell_same _ _ _ ((hold _ 1 (by omega) (hno _ (by omega))).1.trans h.b1)
  · rw [World.frozen?_setCell]
    exact (hold _ 1 (by omega) (hno _ (by omega))).2.trans h.bf
  · rw [hset _ _ (by omega)]
    exact (hold _ 0 (by omega) (hno _ (by omega))).1.trans h.r0
  · rw [hset _ _ (by omega)]
    exact (hold _ 1 (by omega) (hno _ (by omega))).1.trans h.r1
  · rw [World.frozen?_setCell]
    exact (hold _ 0 (by omega) (hno _ (by omega))).2.trans h.f0
  · rw [World.frozen?_setCell]
    exact (hold _ 1 (by omega) (hno _ (by omega))).2.trans h.f1

theorem CP.start {x : Tr} {w : World} : CP x 0 (.slice none 0 0) [] w ((w.alloc (.cells #[.int .i64 x.k, .slice none 0 0] 24)).alloc (.cells #[.int .i64 0, .slice none 0 0] 24)) := by
  refine ⟨World.ownsRow_nil _ _ _ _, fun c h => (by cases h), by simp, ?_, by simp [go_sem], by simp [go_sem], by simp [go_sem], by simp [go_sem], by simp [go_sem], by simp [go_sem], by simp [go_sem]⟩
  exact ((Below.refl _ _).alloc (Nat.le_refl _) _).alloc (by simp) _

set_option maxHeartbeats 2000000 in
theorem copy_step (n : Nat) (x : Tr) (A : Option Addr) (HA : Hid (A = x.a)) (w : World) (hx : x.In w) (hh : x.hgt ≤ n + 1) (hs : x.sz ≤ 100000000)
    (ih : Hid (∀ (x : Tr) (w : World), x.In w → x.hgt ≤ n → x.sz ≤ 100000000 → Calls Tryz.prog 21 #[.agg #[.int .i64 x.k, .slice x.a x.l.length x.c]] w (Made x.ty w))) :
    Calls Tryz.prog 21 #[.agg #[.int .i64 x.k, .slice A x.l.length x.c]] w (Made x.ty w) := by
  have hlen : x.l.length ≤ 100000000 := by have := len_sz x.l; have := x.sz_eq; omega
  obtain ⟨i0, hi0, hz0, hz1, hz2⟩ := info_parts Tryz.info24s
  go_enter Tryz.func21, Tryz.ntmps21
  go_wp2_with fail
  go_loopg [11] x.l.length (fun g i wr => ∃ (j : Nat) (v : Value) (cs : List Tr), j ≤ x.l.length ∧ g = x.l.length - j ∧ i = .int .i64 (j : Int) ∧ Hid (CP x j v cs w wr))
  case atStart => exact ⟨0, _, _, Nat.zero_le _, rfl, rfl, CP.start⟩
  case round =>
    obtain ⟨j, v, cs, hj, hg, rfl, HC⟩ := hrel
    have HG : Hid (gk = x.l.length - j) := hg
    clear hg
    have hsw : w.heap.size + 1 < wr.heap.size := World.block_lt_of_cell? _ _ HC.out.r0
    by_cases hlt : j < x.l.length
    · obtain ⟨b, o, ea, x0, x1, hxj⟩ := hx.part j hlt
      have eA : A = some ⟨b, o, none⟩ := HA.out.trans ea
      subst eA
      clear ea HA
      have hbwr := HC.out.low
      replace x0 := cell_later hbwr x0
      replace x1 := cell_later hbwr x1
      have i1 : (j : Int) < (x.l.length : Int) := by omega
      have i2 : (0 : Int) ≤ (j : Int) := by omega
      have lb : b < wr.heap.size := World.block_lt_of_cell? _ _ x0
      have hcb : cs.length ≤ 100000000 := by have := HC.out.len hj; omega
      have hb1 : Below wr.heap.size wr (wr.alloc (.cells #[.int .i64 x.l[j].k, .slice x.l[j].a x.l[j].l.length x.l[j].c] 24)).drew := ((Below.refl _ _).alloc (Nat.le_refl _) _).drew
      have HI : Hid (Calls Tryz.prog 21 #[.agg #[.int .i64 x.l[j].k, .slice x.l[j].a x.l[j].l.length x.l[j].c]] (wr.alloc (.cells #[.int .i64 x.l[j].k, .slice x.l[j].a x.l[j].l.length x.l[j].c] 24)).drew (Made x.l[j].ty (wr.alloc (.cells #[.int .i64 x.l[j].k, .slice x.l[j].a x.l[j].l.length x.l[j].c] 24)).drew)) := by
        refine ih.out x.l[j] _ ((hxj.below hbwr).below hb1) (Tr.hgt_part hh j hlt) ?_
        have h2 := sz_take x.l j hlt
        have h3 := sz_take_le x.l (j + 1)
        have h4 := x.sz_eq
        omega
      have q1 := HC.out.b1
      have qf := HC.out.bf
      have hnv : v.ownBlock ≠ some w.heap.size := fun e => by have := (HC.out.own.lt _ e).1; omega
      have hown := HC.out.own
      clear ih hx
      go_wp2_with fail
      have u1 : (wr.alloc (.cells #[.int .i64 x.l[j].k, .slice x.l[j].a x.l[j].l.length x.l[j].c] 24)).drew.cell? ⟨w.heap.size, 1, none⟩ = some v := cell_later hb1 q1
      have uf : (wr.alloc (.cells #[.int .i64 x.l[j].k, .slice x.l[j].a x.l[j].l.length x.l[j].c] 24)).drew.frozen? ⟨w.heap.size, 1, none⟩ = false := (hb1.frozen (p := ⟨w.heap.size, 1, none⟩) (show w.heap.size < wr.heap.size by omega)).trans qf
      have uo : (wr.alloc (.cells #[.int .i64 x.l[j].k, .slice x.l[j].a x.l[j].l.length x.l[j].c] 24)).drew.ownsRow (w.heap.size + 1 + 1) 24 2 v cs.length (cellsOf cs) := ownsRow_below hown hb1
      have us : w.heap.size < (wr.alloc (.cells #[.int .i64 x.l[j].k, .slice x.l[j].a x.l[j].l.length x.l[j].c] 24)).drew.heap.size := World.block_lt_of_cell? _ _ u1
      clear q1 qf hown
      go_region_law
        (first
          | (go_simp; go_at_call 21; refine HI.out.mono ?_; rintro e w2 ⟨c, rfl, ht, hin, hbl, hb2⟩; replace u1 := cell_later hb2 u1; replace uf := (hb2.frozen (p := ⟨w.heap.size, 1, none⟩) us).trans uf; replace uo := ownsRow_below uo hb2; replace us : w.heap.size < w2.heap.size := World.block_lt_of_cell? _ _ u1; have hnew := heap_alloc_new w2 (.cells #[.int .i64 c.k, .slice c.a c.l.length c.c] 24); have un : w.heap.size ≠ w2.heap.size := Nat.ne_of_lt us; go_wp2_with fail)
          | (refine step_append_lies _ (by rfl) _ _ _ (by rfl) (w.heap.size + 1 + 1) 24 i0 _ 2 32 Tryz.underlying22 hi0 hz0 hz1 hz2 rfl (by omega) v cs.length (cellsOf cs) (by rfl) (uo.alloc _)
                ⟨w2.heap.size, 0, none⟩ 1 1 [.int .i64 c.k, .slice c.a c.l.length c.c] (by rfl) (by rfl) (World.news_of_block (cs := #[.int .i64 c.k, .slice c.a c.l.length c.c]) (t := 24) (fr := (0, 0)) hnew) (by simp [Value.oneCell'])
                (by omega) (by unfold maxLen; omega) (by omega) (by have := hb2.size; simp at this ⊢; omega) (w2.heap.size + 1) (by simp) ?_; intro gg cap1 w3 hown1 hgrow hat hlt3; have hcr : w3.cell? ⟨w.heap.size, 1, none⟩ = some v := (by rw [hgrow.cell_far _ (by simp; omega) (Ne.symm hnv)]; exact cell_later ((Below.refl _ _).alloc (Nat.le_refl _) _) u1); have hfr : w3.frozen? ⟨w.heap.size, 1, none⟩ = false := (by rw [hgrow.frozen_far _ (by simp; omega) (Ne.symm hnv)]; exact (((Below.refl _ _).alloc (Nat.le_refl _) _).frozen (p := ⟨w.heap.size, 1, none⟩) us).trans uf)))
      all_goals
        have HN : Hid (CP x (j + 1) (.slice (some ⟨gg, 0, none⟩) (cs.length + 1) cap1) (cs ++ [c]) w (w3.setCell ⟨w.heap.size, 1, none⟩ (.slice (some ⟨gg, 0, none⟩) (cs.length + 1) cap1))) := HC.out.step hlt hb1 ht hin hbl hb2 hown1 hgrow hat
        clear hown1 hgrow hat hcr hfr ht hin hbl hb2 uo uf u1 HI HC
        go_wp2_with fail
        go_roundg (x.l.length - (j + 1))
        case measure => rw [HG.out]; omega
        case rel => exact ⟨j + 1, _, _, by omega, rfl, by go_num, HN⟩
    · have hcl := HC.out.len hj
      have hjl : j = x.l.length := by omega
      obtain ⟨a, c, rfl, hrow⟩ := row_in HC.out.own (fun c hc => ⟨(HC.out.ins c hc).1, (HC.out.ins c hc).2.mono fun b hb => hb.1⟩)
      have HT : Hid ((Tr.mk x.k a c cs).ty = x.ty) := by
        show _ = _
        obtain ⟨k, a', c', l⟩ := x
        have h := HC.out.ty
        dsimp only at h hjl ⊢
        rw [hjl, List.take_length] at h
        rw [Tr.ty_mk, Tr.ty_mk, h]
      have HB : Hid (Below w.heap.size w wr) := HC.out.low
      have b0 := HC.out.b0
      have b1 := HC.out.b1
      have r0 := HC.out.r0
      have r1 := HC.out.r1
      have f0 := HC.out.f0
      have f1 := HC.out.f1
      have HR := hrow x.k
      clear HC hrow hcl hjl
      go_wp2_with fail
      refine bodyPost_ret (v := .agg #[.int .i64 x.k, .slice a cs.length c]) ?_ rfl ⟨.mk x.k a c cs, rfl, HT.out, set_keeps HR.1 (HR.2.mono fun b hb => by omega), HR.2.mono fun b hb => by omega, (HB.out.setCell (by simp) _).setCell (by simp) _⟩
      have hc := set_cells (u := .int .i64 x.k) (v := .slice a cs.length c) r0 r1
      simp only [Nat.zero_add] at hc
      simp [results, Tryz.results21, go_sem, hc.1, hc.2]

/-- chaperoneref.CopyType. -/
theorem copy_any (n : Nat) : ∀ (x : Tr) (w : World), x.In w → x.hgt ≤ n → x.sz ≤ 100000000 → Calls Tryz.prog 21 #[.agg #[.int .i64 x.k, .slice x.a x.l.length x.c]] w (Made x.ty w) := by
  induction n with
  | zero =>
    intro x w _ h
    have := x.hgt_pos
    omega
  | succ n ih =>
    intro x w hx h hs
    exact copy_step n x x.a rfl w hx h hs (fun x w hx h hs => ih x w hx h hs)
end Go.Proofs.YtnddkmccagiclaaGreatDoor

/-
  No list within a term is longer than what memory holds.
-/
namespace Go.Proofs.YtnddkmccagiclaaGreatDoor
open Go.RowKit

/-- No list is longer than what memory holds. -/
def TT.lw : TT → Prop
  | ⟨_, _, _, _, _, _, l⟩ => l.length ≤ 1353245080300 ∧ ∀ y, y ∈ l → y.lw
theorem TT.lw_mk {k n : Int} {t f : Tr} {a : Option Addr} {c : Nat} {l : List TT} : (TT.mk k n t f a c l).lw ↔ l.length ≤ 1353245080300 ∧ ∀ y, y ∈ l → y.lw := by
  rw [TT.lw]
theorem TT.lw.len {x : TT} (h : x.lw) : x.l.length ≤ 1353245080300 := by cases x; exact (TT.lw_mk.1 h).1
theorem TT.lw.mem {x y : TT} (h : x.lw) (hy : y ∈ x.l) : y.lw := by
  obtain ⟨k, n, t, f, a, c, l⟩ := x
  exact (TT.lw_mk.1 h).2 y hy
end Go.Proofs.YtnddkmccagiclaaGreatDoor

/-
  What the call of chaperoneref.SameTerm answers at two terms that lie in memory and are alike.
-/
namespace Go.Proofs.YtnddkmccagiclaaGreatDoor
open Go.RowKit

/-- No list of its types is too long. -/
def TT.tsm : TT → Prop
  | ⟨_, _, t, f, _, _, l⟩ => t.sm ∧ f.sm ∧ ∀ y, y ∈ l → y.tsm
theorem TT.tsm_mk {k n : Int} {t f : Tr} {a : Option Addr} {c : Nat} {l : List TT} : (TT.mk k n t f a c l).tsm ↔ t.sm ∧ f.sm ∧ ∀ y, y ∈ l → y.tsm := by
  rw [TT.tsm]
theorem TT.tsm.t {x : TT} (h : x.tsm) : x.t.sm := by cases x; exact (TT.tsm_mk.1 h).1
theorem TT.tsm.f {x : TT} (h : x.tsm) : x.f.sm := by cases x; exact (TT.tsm_mk.1 h).2.1
theorem TT.tsm.mem {x y : TT} (h : x.tsm) (hy : y ∈ x.l) : y.tsm := by
  obtain ⟨k, n, t, f, a, c, l⟩ := x
  exact (TT.tsm_mk.1 h).2.2 y hy

set_option maxHeartbeats 1000000 in
theorem sameTerm_step (x y : TT) (w : World) (hx : x.In w) (hy : y.In w) (hm : x.tm = y.tm) (hlw : x.lw) (hts : x.tsm)
    (ih : Hid (∀ (j : Nat) (hj : j < x.l.length) (z : TT) (w : World), x.l[j].In w → z.In w → x.l[j].tm = z.tm → Calls Tryz.prog 14 #[.agg #[.int .i64 x.l[j].k, .int .i64 x.l[j].n, .int .i64 x.l[j].t.k, .slice x.l[j].t.a x.l[j].t.l.length x.l[j].t.c, .int .i64 x.l[j].f.k, .slice x.l[j].f.a x.l[j].f.l.length x.l[j].f.c, .slice x.l[j].a x.l[j].l.length x.l[j].c], .agg #[.int .i64 z.k, .int .i64 z.n, .int .i64 z.t.k, .slice z.t.a z.t.l.length z.t.c, .int .i64 z.f.k, .slice z.f.a z.f.l.length z.f.c, .slice z.a z.l.length z.c]] w fun e w' => e = .returned (.bool true) ∧ Below w.heap.size w w')) :
    Calls Tryz.prog 14 #[.agg #[.int .i64 x.k, .int .i64 x.n, .int .i64 x.t.k, .slice x.t.a x.t.l.length x.t.c, .int .i64 x.f.k, .slice x.f.a x.f.l.length x.f.c, .slice x.a x.l.length x.c], .agg #[.int .i64 y.k, .int .i64 y.n, .int .i64 y.t.k, .slice y.t.a y.t.l.length y.t.c, .int .i64 y.f.k, .slice y.f.a y.f.l.length y.f.c, .slice y.a y.l.length y.c]] w fun e w' => e = .returned (.bool true) ∧ Below w.heap.size w w' := by
  have hlen := hlw.len
  obtain ⟨hk, hn, hl, ht, hf, hp⟩ := tm_parts hm
  have HT : Hid (∀ W, x.t.In W → y.t.In W → Calls Tryz.prog 27 #[.agg #[.int .i64 x.t.k, .slice x.t.a x.t.l.length x.t.c], .agg #[.int .i64 y.t.k, .slice y.t.a y.t.l.length y.t.c]] W fun e w' => e = .returned (.bool true) ∧ Below W.heap.size W w') := by
    intro W h1 h2
    have := sameType_any _ x.t y.t W h1 h2 (Nat.le_refl _) hts.t
    rw [ht, relY_refl] at this
    exact this
  have HF : Hid (∀ W, x.f.In W → y.f.In W → Calls Tryz.prog 27 #[.agg #[.int .i64 x.f.k, .slice x.f.a x.f.l.length x.f.c], .agg #[.int .i64 y.f.k, .slice y.f.a y.f.l.length y.f.c]] W fun e w' => e = .returned (.bool true) ∧ Below W.heap.size W w') := by
    intro W h1 h2
    have := sameType_any _ x.f y.f W h1 h2 (Nat.le_refl _) hts.f
    rw [hf, relY_refl] at this
    exact this
  have e1 : (x.k == y.k) = true := by simp [hk]
  have e2 : (x.n == y.n) = true := by simp [hn]
  have e3 : ((x.l.length : Int) == (y.l.length : Int)) = true := by simp [hl]
  have HB : Hid (∀ o o', Below w.heap.size w ((w.alloc o).alloc o')) := fun o o' => ((Below.refl _ _).alloc (Nat.le_refl _) _).alloc (by simp) _
  have HX : Hid (x.In w ∧ y.In w) := ⟨hx, hy⟩
  have HP : Hid (x.l.length = y.l.length ∧ x.l.map TT.tm = y.l.map TT.tm) := ⟨hl, hp⟩
  clear hk hn hl ht hf hp hm hts hlw
  go_enter Tryz.func14, Tryz.ntmps14
  go_wp2_with fail
  refine (HT.out _ (HX.out.1.below (HB.out _ _)).t (HX.out.2.below (HB.out _ _)).t).mono ?_
  rintro e w1 ⟨rfl, hb1⟩
  have hbw : Below w.heap.size w w1 := (HB.out _ _).trans (hb1.mono (by simp; omega))
  have q4 : w1.cell? ⟨w.heap.size, 4, none⟩ = some (.int .i64 x.f.k) := cell_later hb1 (by simp [go_sem])
  have q5 : w1.cell? ⟨w.heap.size, 5, none⟩ = some (.slice x.f.a x.f.l.length x.f.c) := cell_later hb1 (by simp [go_sem])
  have q6 : w1.cell? ⟨w.heap.size, 6, none⟩ = some (.slice x.a x.l.length x.c) := cell_later hb1 (by simp [go_sem])
  have p4 : w1.cell? ⟨w.heap.size + 1, 4, none⟩ = some (.int .i64 y.f.k) := cell_later hb1 (by simp [go_sem])
  have p5 : w1.cell? ⟨w.heap.size + 1, 5, none⟩ = some (.slice y.f.a y.f.l.length y.f.c) := cell_later hb1 (by simp [go_sem])
  have p6 : w1.cell? ⟨w.heap.size + 1, 6, none⟩ = some (.slice y.a y.l.length y.c) := cell_later hb1 (by simp [go_sem])
  clear hb1
  go_wp2_with fail
  refine (HF.out _ (HX.out.1.below hbw).f (HX.out.2.below hbw).f).mono ?_
  rintro e w2 ⟨rfl, hb2⟩
  have hbz := hbw.trans (hb2.mono hbw.size)
  replace q6 := cell_later hb2 q6
  replace p6 := cell_later hb2 p6
  clear hb2 hbw q4 q5 p4 p5 HT HF
  go_wp2_with fail
  go_loopg [5, 6] (x.l.length) (fun g b i wr => ∃ (j : Nat), j ≤ x.l.length ∧ g = x.l.length - j ∧ b = .bool true ∧ i = .int .i64 (j : Int) ∧ Below w.heap.size w wr ∧ wr.cell? ⟨w.heap.size, 6, none⟩ = some (.slice x.a x.l.length x.c) ∧ wr.cell? ⟨w.heap.size + 1, 6, none⟩ = some (.slice y.a y.l.length y.c))
  case atStart => exact ⟨0, Nat.zero_le _, rfl, rfl, rfl, hbz, q6, p6⟩
  case round =>
    obtain ⟨j, hj, hg, rfl, rfl, hbwr, p1, p3⟩ := hrel
    have HG : Hid (gk = x.l.length - j) := hg
    clear hg
    by_cases hlt : j < x.l.length
    · have hlt' : j < y.l.length := HP.out.1 ▸ hlt
      have HM : Hid (x.l[j].tm = y.l[j].tm) := by
        have h := congrArg (fun l => l[j]?) HP.out.2
        simp only [List.getElem?_map, List.getElem?_eq_getElem hlt, List.getElem?_eq_getElem hlt', Option.map_some, Option.some.injEq] at h
        exact h
      obtain ⟨b, o, ea, ⟨x0, x1, x2, x3, x4, x5, x6⟩, hxj⟩ := hx.part j hlt
      obtain ⟨b', o', eb, ⟨y0, y1, y2, y3, y4, y5, y6⟩, hyj⟩ := hy.part j hlt'
      have q1 : wr.cell? ⟨w.heap.size, 6, none⟩ = some (.slice (some ⟨b, o, none⟩) x.l.length x.c) := by rw [← ea]; exact p1
      have q3 : wr.cell? ⟨w.heap.size + 1, 6, none⟩ = some (.slice (some ⟨b', o', none⟩) y.l.length y.c) := by rw [← eb]; exact p3
      have HPP : Hid (wr.cell? ⟨w.heap.size, 6, none⟩ = some (.slice x.a x.l.length x.c) ∧ wr.cell? ⟨w.heap.size + 1, 6, none⟩ = some (.slice y.a y.l.length y.c)) := ⟨p1, p3⟩
      replace x0 := cell_later hbwr x0
      replace x1 := cell_later hbwr x1
      replace x2 := cell_later hbwr x2
      replace x3 := cell_later hbwr x3
      replace x4 := cell_later hbwr x4
      replace x5 := cell_later hbwr x5
      replace x6 := cell_later hbwr x6
      replace y0 := cell_later hbwr y0
      replace y1 := cell_later hbwr y1
      replace y2 := cell_later hbwr y2
      replace y3 := cell_later hbwr y3
      replace y4 := cell_later hbwr y4
      replace y5 := cell_later hbwr y5
      replace y6 := cell_later hbwr y6
      have i1 : (j : Int) < (x.l.length : Int) := by omega
      have i2 : (j : Int) < (y.l.length : Int) := by omega
      have i0 : (0 : Int) ≤ (j : Int) := by omega
      have HC : Hid (∀ (w : World), x.l[j].In w → y.l[j].In w → Calls Tryz.prog 14 #[.agg #[.int .i64 x.l[j].k, .int .i64 x.l[j].n, .int .i64 x.l[j].t.k, .slice x.l[j].t.a x.l[j].t.l.length x.l[j].t.c, .int .i64 x.l[j].f.k, .slice x.l[j].f.a x.l[j].f.l.length x.l[j].f.c, .slice x.l[j].a x.l[j].l.length x.l[j].c], .agg #[.int .i64 y.l[j].k, .int .i64 y.l[j].n, .int .i64 y.l[j].t.k, .slice y.l[j].t.a y.l[j].t.l.length y.l[j].t.c, .int .i64 y.l[j].f.k, .slice y.l[j].f.a y.l[j].f.l.length y.l[j].f.c, .slice y.l[j].a y.l[j].l.length y.l[j].c]] w fun e w' => e = .returned (.bool true) ∧ Below w.heap.size w w') := fun w h1 h2 => ih.out j hlt y.l[j] w h1 h2 HM.out
      clear p1 p3 ea eb hx hy HM HX HB
      go_wp2_with fail
      go_region_held3 (fun w' => w'.cell? ⟨w.heap.size, 6, none⟩ = some (.slice (some ⟨b, o, none⟩) x.l.length x.c) ∧ w'.cell? ⟨w.heap.size + 1, 6, none⟩ = some (.slice (some ⟨b', o', none⟩) y.l.length y.c) ∧ w'.cell? ⟨b, o + j * 7, none⟩ = some (.int .i64 x.l[j].k) ∧ w'.cell? ⟨b, o + j * 7 + 1, none⟩ = some (.int .i64 x.l[j].n) ∧ w'.cell? ⟨b, o + j * 7 + 2, none⟩ = some (.int .i64 x.l[j].t.k) ∧ w'.cell? ⟨b, o + j * 7 + 3, none⟩ = some (.slice x.l[j].t.a x.l[j].t.l.length x.l[j].t.c) ∧ w'.cell? ⟨b, o + j * 7 + 4, none⟩ = some (.int .i64 x.l[j].f.k) ∧ w'.cell? ⟨b, o + j * 7 + 5, none⟩ = some (.slice x.l[j].f.a x.l[j].f.l.length x.l[j].f.c) ∧ w'.cell? ⟨b, o + j * 7 + 6, none⟩ = some (.slice x.l[j].a x.l[j].l.length x.l[j].c) ∧ w'.cell? ⟨b', o' + j * 7, none⟩ = some (.int .i64 y.l[j].k) ∧ w'.cell? ⟨b', o' + j * 7 + 1, none⟩ = some (.int .i64 y.l[j].n) ∧ w'.cell? ⟨b', o' + j * 7 + 2, none⟩ = some (.int .i64 y.l[j].t.k) ∧ w'.cell? ⟨b', o' + j * 7 + 3, none⟩ = some (.slice y.l[j].t.a y.l[j].t.l.length y.l[j].t.c) ∧ w'.cell? ⟨b', o' + j * 7 + 4, none⟩ = some (.int .i64 y.l[j].f.k) ∧ w'.cell? ⟨b', o' + j * 7 + 5, none⟩ = some (.slice y.l[j].f.a y.l[j].f.l.length y.l[j].f.c) ∧ w'.cell? ⟨b', o' + j * 7 + 6, none⟩ = some (.slice y.l[j].a y.l[j].l.length y.l[j].c))
        (first | exact ⟨cell_later hb2 q1, cell_later hb2 q3, cell_later hb2 x0, cell_later hb2 x1, cell_later hb2 x2, cell_later hb2 x3, cell_later hb2 x4, cell_later hb2 x5, cell_later hb2 x6, cell_later hb2 y0, cell_later hb2 y1, cell_later hb2 y2, cell_later hb2 y3, cell_later hb2 y4, cell_later hb2 y5, cell_later hb2 y6⟩ | go_keep)
        (first | (go_at_call 14; refine (HC.out _ (hxj.below hbwr.drew) (hyj.below hbwr.drew)).mono ?_; rintro e w2 ⟨rfl, hb2⟩))
      have hbr2 : Below w.heap.size w w2 := hbwr.drew.trans (hb2.mono hbwr.size)
      have s1 := cell_later hb2 HPP.out.1
      have s3 := cell_later hb2 HPP.out.2
      clear hb2 q1 q3 x0 x1 x2 x3 x4 x5 x6 y0 y1 y2 y3 y4 y5 y6 HC HPP
      go_wp2_with fail
      go_roundg (x.l.length - (j + 1))
      case measure => rw [HG.out]; omega
      case rel => exact ⟨j + 1, by omega, rfl, rfl, by go_num, hbr2, s1, s3⟩
    · go_wp2_with fail
      go_ret
      exact ⟨rfl, hbwr⟩

/-- chaperoneref.SameTerm, of two that are alike. -/
theorem sameTerm_yes : ∀ (x y : TT) (w : World), x.In w → y.In w → x.tm = y.tm → x.lw → x.tsm → Calls Tryz.prog 14 #[.agg #[.int .i64 x.k, .int .i64 x.n, .int .i64 x.t.k, .slice x.t.a x.t.l.length x.t.c, .int .i64 x.f.k, .slice x.f.a x.f.l.length x.f.c, .slice x.a x.l.length x.c], .agg #[.int .i64 y.k, .int .i64 y.n, .int .i64 y.t.k, .slice y.t.a y.t.l.length y.t.c, .int .i64 y.f.k, .slice y.f.a y.f.l.length y.f.c, .slice y.a y.l.length y.c]] w fun e w' => e = .returned (.bool true) ∧ Below w.heap.size w w' := by
  intro x
  induction x using TT.ind with
  | h k n t f a c l ih =>
    intro y w hx hy hm hl ht
    exact sameTerm_step ⟨k, n, t, f, a, c, l⟩ y w hx hy hm hl ht (fun j hj z w h1 h2 h3 => ih _ (List.getElem_mem hj) z w h1 h2 h3 (hl.mem (List.getElem_mem hj)) (ht.mem (List.getElem_mem hj)))
end Go.Proofs.YtnddkmccagiclaaGreatDoor

/-
  What the call of chaperoneref.CopyTerm leaves: the copy's row while it grows; no run of the program in it.
-/
namespace Go.Proofs.YtnddkmccagiclaaGreatDoor
open Go.RowKit

theorem Box7.blk {J : Nat} {w w' : World} {x : TT} (h : Box7 w J x) (e : w'.heap[J]? = w.heap[J]?) : Box7 w' J x :=
  ⟨h.at7.of fun i => World.cell?_of_block (a := ⟨J, i, none⟩) e, fun i hi => (World.frozen?_of_block (a := ⟨J, i, none⟩) e).trans (h.fz i hi)⟩

theorem ZB7.kept {R b : Nat} {w w' : World} (h : ZB7 w b) (hk : Kept R none w w') (hb : b ≠ R) : ZB7 w' b := by
  have hl := h.lt
  obtain ⟨⟨h0, h1, h2, h3, h4, h5, h6⟩, f0, f1, f2, f3, f4, f5, f6⟩ := h
  exact ⟨⟨hk.cell h0 hb, hk.cell h1 hb, hk.cell h2 hb, hk.cell h3 hb, hk.cell h4 hb, hk.cell h5 hb, hk.cell h6 hb⟩, hk.fz f0 hl hb, hk.fz f1 hl hb, hk.fz f2 hl hb, hk.fz f3 hl hb, hk.fz f4 hl hb, hk.fz f5 hl hb, hk.fz f6 hl hb⟩

theorem ZB7.blk {J : Nat} {w w' : World} (h : ZB7 w J) (e : w'.heap[J]? = w.heap[J]?) : ZB7 w' J := by
  have hc : ∀ i, w'.cell? ⟨J, i, none⟩ = w.cell? ⟨J, i, none⟩ := fun i => World.cell?_of_block (a := ⟨J, i, none⟩) e
  have hf : ∀ i, w'.frozen? ⟨J, i, none⟩ = w.frozen? ⟨J, i, none⟩ := fun i => World.frozen?_of_block (a := ⟨J, i, none⟩) e
  obtain ⟨⟨h0, h1, h2, h3, h4, h5, h6⟩, f0, f1, f2, f3, f4, f5, f6⟩ := h
  exact ⟨⟨(hc _).trans h0, (hc _).trans h1, (hc _).trans h2, (hc _).trans h3, (hc _).trans h4, (hc _).trans h5, (hc _).trans h6⟩, (hf _).trans f0, (hf _).trans f1, (hf _).trans f2, (hf _).trans f3, (hf _).trans f4, (hf _).trans f5, (hf _).trans f6⟩

/-- Its types are no larger than copies are proved of. -/
def TT.csz : TT → Prop
  | ⟨_, _, t, f, _, _, l⟩ => t.sz ≤ 100000000 ∧ f.sz ≤ 100000000 ∧ ∀ y, y ∈ l → y.csz
theorem TT.csz_mk {k n : Int} {t f : Tr} {a : Option Addr} {c : Nat} {l : List TT} : (TT.mk k n t f a c l).csz ↔ t.sz ≤ 100000000 ∧ f.sz ≤ 100000000 ∧ ∀ y, y ∈ l → y.csz := by
  rw [TT.csz]
theorem TT.csz.t {x : TT} (h : x.csz) : x.t.sz ≤ 100000000 := by cases x; exact (TT.csz_mk.1 h).1
theorem TT.csz.f {x : TT} (h : x.csz) : x.f.sz ≤ 100000000 := by cases x; exact (TT.csz_mk.1 h).2.1
theorem TT.csz.mem {x y : TT} (h : x.csz) (hy : y ∈ x.l) : y.csz := by
  obtain ⟨k, n, t, f, a, c, l⟩ := x
  exact (TT.csz_mk.1 h).2.2 y hy

/-- While the parts are copied: j of them. -/
structure CT (S : Nat) (x : TT) (t f : Tr) (j : Nat) (v : Value) (cs : List TT) (w wr : World) : Prop where
  row : Row (S + 1 + 1) v cs wr
  tm : cs.map TT.tm = (x.l.take j).map TT.tm
  low : Below S w wr
  box : ∃ a c, v = .slice a cs.length c ∧ Box7 wr S ⟨x.k, x.n, t, f, a, c, cs⟩
  z : ZB7 wr (S + 1)
  tin : t.In wr ∧ t.Bl (fun b => S + 1 + 1 ≤ b ∧ some b ≠ v.ownBlock)
  fin : f.In wr ∧ f.Bl (fun b => S + 1 + 1 ≤ b ∧ some b ≠ v.ownBlock)

theorem CT.len {S : Nat} {x : TT} {t f : Tr} {j : Nat} {v : Value} {cs : List TT} {w wr : World} (h : CT S x t f j v cs w wr) (hj : j ≤ x.l.length) : cs.length = j := by
  have := congrArg List.length h.tm
  simpa [Nat.min_eq_left hj] using this

theorem CT.step {S : Nat} {x c : TT} {t f : Tr} {j gg cap1 : Nat} {v : Value} {cs : List TT} {w wr w1 w2 w3 : World} {X : Obj} (h : CT S x t f j v cs w wr) (hj : j < x.l.length) (hb1 : Below wr.heap.size wr w1) (ht : c.tm = x.l[j].tm) (hin : c.In w2) (hbl : c.Bl (w1.heap.size ≤ ·)) (hb2 : Below w1.heap.size w1 w2)
    (hown : w3.ownsRow (S + 1 + 1) 27 7 (.slice (some ⟨gg, 0, none⟩) (cs.length + 1) cap1) (cs.length + 1) (cells7 cs ++ [.int .i64 c.k, .int .i64 c.n, .int .i64 c.t.k, .slice c.t.a c.t.l.length c.t.c, .int .i64 c.f.k, .slice c.f.a c.f.l.length c.f.c, .slice c.a c.l.length c.c])) (hgrow : (w2.alloc X).grownBy w3 v.ownBlock) (hat : v.ownBlock = some gg ∨ gg = w2.heap.size + 1) :
    CT S x t f (j + 1) (.slice (some ⟨gg, 0, none⟩) (cs.length + 1) cap1) (cs ++ [c]) w (w3.setCell ⟨S, 6, none⟩ (.slice (some ⟨gg, 0, none⟩) (cs.length + 1) cap1)) := by
  have s1 := hb1.size
  have s2 := hb2.size
  have hlr : S + 1 < wr.heap.size := h.z.lt
  have hbr : Below wr.heap.size wr w2 := hb1.trans (hb2.mono s1)
  have hov := h.row.lt
  obtain ⟨hr3, hblk⟩ := (h.row.below hbr).step hin (hbl.mono fun b hb => ⟨by omega, fun e => by have := (hov b e.symm).2; omega⟩) (by simpa [cells7] using hown) hgrow hat
  have hno : ∀ k, k ≤ S + 1 → some k ≠ v.ownBlock := fun k hk e => by have := (hov k e.symm).1; omega
  have hold : ∀ k, k < wr.heap.size → some k ≠ v.ownBlock → w3.heap[k]? = wr.heap[k]? := fun k hk hn => (hblk k (by omega) hn).trans (hbr.block k hk)
  have hset : ∀ k i, k ≠ S → (w3.setCell ⟨S, 6, none⟩ (.slice (some ⟨gg, 0, none⟩) (cs.length + 1) cap1)).cell? ⟨k, i, none⟩ = w3.cell? ⟨k, i, none⟩ := by
    intro k i hk
    rw [World.cell?_setCell_other]
    intro e; simp only [Addr.mk.injEq] at e; omega
  have hty : ∀ q : Tr, (q.In wr ∧ q.Bl (fun b => S + 1 + 1 ≤ b ∧ some b ≠ v.ownBlock)) → (q.In (w3.setCell ⟨S, 6, none⟩ (.slice (some ⟨gg, 0, none⟩) (cs.length + 1) cap1)) ∧ q.Bl (fun b => S + 1 + 1 ≤ b ∧ some b ≠ (Value.slice (some ⟨gg, 0, none⟩) (cs.length + 1) cap1).ownBlock)) := by
    rintro q ⟨i1, i2⟩
    have i3 := i1.bl.and i2
    refine ⟨i1.congr (P := fun b => b < wr.heap.size ∧ S + 1 + 1 ≤ b ∧ some b ≠ v.ownBlock) (fun b hb i => ?_) i3, i3.mono fun b hb => ⟨hb.2.1, ?_⟩⟩
    · rw [hset b i (by omega)]
      exact World.cell?_of_block (a := ⟨b, i, none⟩) (hold b hb.1 hb.2.2)
    · show some b ≠ some gg
      rcases hat with e | e
      · rw [← e]; exact hb.2.2
      · simp only [ne_eq, Option.some.injEq]; omega
  refine ⟨hr3.kept (R := S) setR_kept (by omega), ?_, ?_, ?_, ?_, hty t h.tin, hty f h.fin⟩
  · rw [List.take_succ_eq_append_getElem hj, List.map_append, List.map_append, h.tm]
    simp [ht]
  · have hb3 : Below S (w2.alloc X) w3 := ⟨hgrow.os, hgrow.tape, hgrow.output, hgrow.size, fun k hk => hgrow.block k (by simp; omega) (hno k (by omega))⟩
    have hba : Below S w2 (w2.alloc X) := ((Below.refl _ _).alloc (Nat.le_refl _) _).mono (by omega)
    exact (((h.low.trans (hbr.mono (by omega))).trans hba).trans hb3).setCell (by simp) _
  · obtain ⟨a, c0, hv, hbx⟩ := h.box
    refine ⟨some ⟨gg, 0, none⟩, cap1, ?_, ?_⟩
    · rw [List.length_append, List.length_singleton]
    · have := (hbx.blk (hold S (by omega) (hno S (by omega)))).set6 (a' := some ⟨gg, 0, none⟩) (c' := cap1) (l' := cs ++ [c])
      rw [List.length_append, List.length_singleton] at this
      exact this
  · refine (h.z.blk (hold (S + 1) (by omega) (hno _ (by omega)))).kept (R := S) setR_kept (by omega)

/-- Four cells of a box written anew: the types; and the list emptied. -/
theorem Box7.copied {w : World} {J : Nat} {x : TT} {t f : Tr} (h : Box7 w J x) : Box7 (((((w.setCell ⟨J, 2, none⟩ (.int .i64 t.k)).setCell ⟨J, 3, none⟩ (.slice t.a t.l.length t.c)).setCell ⟨J, 4, none⟩ (.int .i64 f.k)).setCell ⟨J, 5, none⟩ (.slice f.a f.l.length f.c)).setCell ⟨J, 6, none⟩ (.slice none 0 0)) J ⟨x.k, x.n, t, f, none, 0, []⟩ := by
  have key : ∀ i u, w.cell? ⟨J, i, none⟩ = some u → (((((w.setCell ⟨J, 2, none⟩ (.int .i64 t.k)).setCell ⟨J, 3, none⟩ (.slice t.a t.l.length t.c)).setCell ⟨J, 4, none⟩ (.int .i64 f.k)).setCell ⟨J, 5, none⟩ (.slice f.a f.l.length f.c)).setCell ⟨J, 6, none⟩ (.slice none 0 0)).cell? ⟨J, i, none⟩ = some (if i = 6 then .slice none 0 0 else if i = 5 then .slice f.a f.l.length f.c else if i = 4 then .int .i64 f.k else if i = 3 then .slice t.a t.l.length t.c else if i = 2 then .int .i64 t.k else u) := fun i u hu => set_get (set_get (set_get (set_get (set_get hu))))
  obtain ⟨c0, c1, c2, c3, c4, c5, c6⟩ := h.at7
  simp only [Nat.zero_add] at c0 c1 c2 c3 c4 c5 c6
  refine ⟨⟨?_, ?_, ?_, ?_, ?_, ?_, ?_⟩, fun i hi => ?_⟩
  · simpa using key 0 _ c0
  · simpa using key 1 _ c1
  · simpa using key 2 _ c2
  · simpa using key 3 _ c3
  · simpa using key 4 _ c4
  · simpa using key 5 _ c5
  · simpa using key 6 _ c6
  · simp only [World.frozen?_setCell]
    exact h.fz i hi

theorem CT.start {x : TT} {t f : Tr} {w w1 : World} (hb : Below w.heap.size w w1) (hbx : Box7 w1 w.heap.size x) (hz : ZB7 w1 (w.heap.size + 1)) (ht : t.In w1) (hf : f.In w1) (bt : t.Bl (w.heap.size + 1 + 1 ≤ ·)) (bf : f.Bl (w.heap.size + 1 + 1 ≤ ·)) :
    CT w.heap.size x t f 0 (.slice none 0 0) [] w (((((w1.setCell ⟨w.heap.size, 2, none⟩ (.int .i64 t.k)).setCell ⟨w.heap.size, 3, none⟩ (.slice t.a t.l.length t.c)).setCell ⟨w.heap.size, 4, none⟩ (.int .i64 f.k)).setCell ⟨w.heap.size, 5, none⟩ (.slice f.a f.l.length f.c)).setCell ⟨w.heap.size, 6, none⟩ (.slice none 0 0)) := by
  have hk : Kept w.heap.size none w1 (((((w1.setCell ⟨w.heap.size, 2, none⟩ (.int .i64 t.k)).setCell ⟨w.heap.size, 3, none⟩ (.slice t.a t.l.length t.c)).setCell ⟨w.heap.size, 4, none⟩ (.int .i64 f.k)).setCell ⟨w.heap.size, 5, none⟩ (.slice f.a f.l.length f.c)).setCell ⟨w.heap.size, 6, none⟩ (.slice none 0 0)) :=
    setR_kept.trans (setR_kept.trans (setR_kept.trans (setR_kept.trans setR_kept)))
  refine ⟨Row.nil _ _, by simp, ?_, ⟨none, 0, rfl, hbx.copied⟩, hz.kept hk (by omega), ⟨ht.keptR hk (bt.mono fun b h => by omega), bt.mono fun b h => ⟨h, by simp [Value.ownBlock]⟩⟩, ⟨hf.keptR hk (bf.mono fun b h => by omega), bf.mono fun b h => ⟨h, by simp [Value.ownBlock]⟩⟩⟩
  exact ((((hb.setCell (by simp) _).setCell (by simp) _).setCell (by simp) _).setCell (by simp) _).setCell (by simp) _
end Go.Proofs.YtnddkmccagiclaaGreatDoor

/-
  What the calls of ref's right and IsTerm answer at every term that lies in memory.
-/
namespace Go.Proofs.YtnddkmccagiclaaGreatDoor
open Go.RowKit

/-- Each number within a term is one of sixty-four bits, its types and lists are of at most so many nodes. -/
def TT.ok (m : Nat) : TT → Prop
  | ⟨k, n, t, f, _, _, l⟩ => ((Lit.int .i64 k).wf = true ∧ (Lit.int .i64 n).wf = true ∧ t.sz ≤ m ∧ f.sz ≤ m ∧ l.length ≤ m) ∧ ∀ y, y ∈ l → y.ok m
theorem TT.ok_mk {m : Nat} {k n : Int} {t f : Tr} {a : Option Addr} {c : Nat} {l : List TT} : (TT.mk k n t f a c l).ok m ↔ ((Lit.int .i64 k).wf = true ∧ (Lit.int .i64 n).wf = true ∧ t.sz ≤ m ∧ f.sz ≤ m ∧ l.length ≤ m) ∧ ∀ y, y ∈ l → y.ok m := by
  rw [TT.ok]
theorem TT.ok.top {m : Nat} {x : TT} (h : x.ok m) : (Lit.int .i64 x.k).wf = true ∧ (Lit.int .i64 x.n).wf = true ∧ x.t.sz ≤ m ∧ x.f.sz ≤ m ∧ x.l.length ≤ m := by cases x; exact (TT.ok_mk.1 h).1
theorem TT.ok.mem {m : Nat} {x y : TT} (h : x.ok m) (hy : y ∈ x.l) : y.ok m := by
  obtain ⟨k, n, t, f, a, c, l⟩ := x
  exact (TT.ok_mk.1 h).2 y hy

theorem tsz_mem : ∀ (l : List Tr) (t : Tr), t ∈ l → t.sz ≤ (l.map Tr.sz).sum
  | [], _, h => by cases h
  | y :: r, t, h => by
    rcases List.mem_cons.1 h with rfl | h
    · simp
    · have := tsz_mem r t h
      simp; omega

theorem maxes_le : ∀ (l : List Nat) (m : Nat), (∀ x, x ∈ l → x ≤ m) → l.foldr max 0 ≤ m
  | [], m, _ => by simp
  | x :: r, m, h => by
    have h1 := maxes_le r m fun y hy => h y (by simp [hy])
    have h2 := h x (by simp)
    simp only [List.foldr_cons]; omega

theorem Tr.hgt_sz (t : Tr) : t.hgt ≤ t.sz := by
  induction t using Tr.ind with
  | h k a c l ih =>
    rw [Tr.hgt_mk, Tr.sz_mk]
    have : (l.map Tr.hgt).foldr max 0 ≤ (l.map Tr.sz).sum := by
      refine maxes_le _ _ fun x hx => ?_
      obtain ⟨t, ht, rfl⟩ := List.mem_map.1 hx
      exact Nat.le_trans (ih t ht) (tsz_mem l t ht)
    omega

theorem tlen_sz : ∀ (l : List Tr), l.length ≤ (l.map Tr.sz).sum
  | [] => by simp
  | t :: r => by
    have := tlen_sz r
    have := t.sz_pos
    simp; omega

theorem Tr.sm_sz (t : Tr) (h : t.sz ≤ 100000000) : t.sm := by
  induction t using Tr.ind with
  | h k a c l ih =>
    rw [Tr.sz_mk] at h
    refine Tr.sm_mk.2 ⟨?_, fun t ht => ih t ht ?_⟩
    · have := tlen_sz l
      omega
    · have := tsz_mem l t ht
      omega

theorem TT.ok.tsm {m : Nat} (hm : m ≤ 100000000) {x : TT} : x.ok m → x.tsm := by
  induction x using TT.ind with
  | h k n t f a c l ih =>
    intro h
    obtain ⟨⟨_, _, ht, hf, _⟩, hl⟩ := TT.ok_mk.1 h
    exact TT.tsm_mk.2 ⟨t.sm_sz (by omega), f.sm_sz (by omega), fun y hy => ih y hy (hl y hy)⟩
theorem TT.ok.csz {m : Nat} (hm : m ≤ 100000000) {x : TT} : x.ok m → x.csz := by
  induction x using TT.ind with
  | h k n t f a c l ih =>
    intro h
    obtain ⟨⟨_, _, ht, hf, _⟩, hl⟩ := TT.ok_mk.1 h
    exact TT.csz_mk.2 ⟨by omega, by omega, fun y hy => ih y hy (hl y hy)⟩
theorem TT.ok.lw {m : Nat} (hm : m ≤ 100000000) {x : TT} : x.ok m → x.lw := by
  induction x using TT.ind with
  | h k n t f a c l ih =>
    intro h
    obtain ⟨⟨_, _, _, _, hk⟩, hl⟩ := TT.ok_mk.1 h
    exact TT.lw_mk.2 ⟨by omega, fun y hy => ih y hy (hl y hy)⟩
theorem TT.ok.nb {m : Nat} {x : TT} : x.ok m → x.nb := by
  induction x using TT.ind with
  | h k n t f a c l ih =>
    intro h
    obtain ⟨⟨_, hn, _, _, _⟩, hl⟩ := TT.ok_mk.1 h
    exact TT.nb_mk.2 ⟨(bounds_i64 hn).2, fun y hy => ih y hy (hl y hy)⟩

theorem rightM_all (ar : Int) (x : TT) (own : Int) (h1 : 1 ≤ x.k) (h9 : x.k ≤ 9) (hp : x.l.length = partsOf x.k) (hf : relY escSame x.f.ty ⟨0, []⟩ = true) :
    (okNum ar own x.k x.n && (if tells x.k = true then goodY 4 x.t.ty else isAnyY x.t.ty) && x.l.all fun y => rightM ar y.tm (insOf x.k own)) = rightM ar x.tm own := by
  obtain ⟨k, n, t, f, a, c, l⟩ := x
  rw [TT.tm_mk, rightM_mk]
  have e1 : decide (1 ≤ k) = true := by simpa using h1
  have e9 : decide (k ≤ 9) = true := by simpa using h9
  have ep : ((l.map TT.tm).length == partsOf k) = true := by simpa using hp
  have ef : isAnyY f.ty = true := hf
  have el : ((l.map TT.tm).all fun y => rightM ar y (insOf k own)) = (l.all fun y => rightM ar y.tm (insOf k own)) := by rw [List.all_map]; rfl
  simp only [okTop, okTypes, e1, e9, ep, ef, Bool.true_and, el]
  cases okNum ar own k n <;> cases (if tells k = true then goodY 4 t.ty else isAnyY t.ty) <;> rfl

theorem rightM_not (ar : Int) (x : TT) (own : Int) (h : okTop ar own x.tm = false) : rightM ar x.tm own = false := by
  obtain ⟨k, n, t, f, a, c, l⟩ := x
  rw [TT.tm_mk] at h
  rw [TT.tm_mk, rightM_mk, h]
  rfl

/-- right. -/
theorem right_any (ar : Int) : ∀ (m : Nat) (x : TT) (own : Int) (w : World), x.In w → x.sz ≤ m → x.ok 100000000 → 0 ≤ own → own + (m : Int) ≤ 1000000000 →
    Calls Tryz.prog 25 #[.agg #[.int .i64 x.k, .int .i64 x.n, .int .i64 x.t.k, .slice x.t.a x.t.l.length x.t.c, .int .i64 x.f.k, .slice x.f.a x.f.l.length x.f.c, .slice x.a x.l.length x.c], .int .i64 ar, .int .i64 own] w fun e w' => e = .returned (.bool (rightM ar x.tm own)) ∧ Below w.heap.size w w' := by
  intro m
  induction m with
  | zero =>
    intro x own w _ h
    have := x.sz_pos
    omega
  | succ m ih =>
    intro x own w hx hm hok h0 h1
    obtain ⟨hkw, hnw, ht, hf, _⟩ := hok.top
    by_cases hk : x.k < 1 ∨ 9 < x.k
    · rw [rightM_not ar x own (by simp only [okTop, TT.tm_k]; rcases hk with h | h <;> simp <;> omega)]
      exact right_kind x ar own w hk
    by_cases hl : x.l.length = partsOf x.k
    · by_cases hfe : relY escSame x.f.ty ⟨0, []⟩ = true
      · rw [← rightM_all ar x own (by omega) (by omega) hl hfe]
        have h3 : x.l.length ≤ 3 := by rw [hl]; unfold partsOf; split <;> (try split) <;> (try split) <;> omega
        refine right_main x ar own w hx hkw (by omega) (by omega) hl 100000000 (Nat.le_trans x.f.hgt_sz hf) (x.f.sm_sz hf) hfe (by omega) (Nat.le_trans x.t.hgt_sz ht) (x.t.sm_sz ht) (bounds_i64 hnw).2 h0 (by omega) h3 ?_
        intro j hj W hin
        have hs : x.l[j].sz ≤ m := by
          have h1 := x.sz_eq
          have h2 : x.l[j].sz ≤ (x.l.map TT.sz).sum := by
            have : ∀ (l : List TT) (y : TT), y ∈ l → y.sz ≤ (l.map TT.sz).sum := by
              intro l
              induction l with
              | nil => intro y h; cases h
              | cons a r ih =>
                intro y h
                rcases List.mem_cons.1 h with rfl | h
                · simp
                · have := ih y h
                  simp; omega
            exact this x.l _ (List.getElem_mem hj)
          omega
        have hi : 0 ≤ insOf x.k own ∧ insOf x.k own ≤ own + 1 := by unfold insOf; split <;> omega
        exact ih x.l[j] (insOf x.k own) W hin hs (hok.mem (List.getElem_mem hj)) hi.1 (by omega)
      · have hfe' : relY escSame x.f.ty ⟨0, []⟩ = false := by simpa using hfe
        rw [rightM_not ar x own (by simp only [okTop, okTypes, TT.tm_f, isAnyY, anyY, hfe']; simp)]
        exact right_from x ar own w hx hkw (by omega) (by omega) hl 100000000 (Nat.le_trans x.f.hgt_sz hf) (x.f.sm_sz hf) hfe'
    · rw [rightM_not ar x own (by simp only [okTop, TT.tm_k, TT.tm_l]; simp [hl])]
      exact right_parts x ar own w hkw (by omega) (by omega) hl

set_option maxRecDepth 20000 in
set_option maxHeartbeats 1000000 in
/-- IsTerm. -/
theorem isTerm_any (x : TT) (ar : Int) (w : World) (hx : x.In w) (hsz : x.sz ≤ 2000000) (hok : x.ok 100000000) :
    Calls Tryz.prog 10 #[.agg #[.int .i64 x.k, .int .i64 x.n, .int .i64 x.t.k, .slice x.t.a x.t.l.length x.t.c, .int .i64 x.f.k, .slice x.f.a x.f.l.length x.f.c, .slice x.a x.l.length x.c], .int .i64 ar] w fun e w' => e = .returned (.bool (goodM ar x.tm)) ∧ Below w.heap.size w w' := by
  have HN : Hid (∀ W, x.In W → Calls Tryz.prog 12 #[.agg #[.int .i64 x.k, .int .i64 x.n, .int .i64 x.t.k, .slice x.t.a x.t.l.length x.t.c, .int .i64 x.f.k, .slice x.f.a x.f.l.length x.f.c, .slice x.a x.l.length x.c]] W fun e w' => e = .returned (.int .i64 (x.sz : Int)) ∧ Below W.heap.size W w') := fun W h => nodesOf_any x W h hsz
  have HR : Hid (∀ W, x.In W → Calls Tryz.prog 25 #[.agg #[.int .i64 x.k, .int .i64 x.n, .int .i64 x.t.k, .slice x.t.a x.t.l.length x.t.c, .int .i64 x.f.k, .slice x.f.a x.f.l.length x.f.c, .slice x.a x.l.length x.c], .int .i64 ar, .int .i64 0] W fun e w' => e = .returned (.bool (rightM ar x.tm 0)) ∧ Below W.heap.size W w') := fun W h => right_any ar x.sz x 0 W h (Nat.le_refl _) hok (by omega) (by omega)
  have HG : Hid (goodM ar x.tm = (decide (x.sz < 41) && rightM ar x.tm 0)) := by rw [x.sz_tm]; exact goodM_right ar x.tm
  obtain ⟨g, hg⟩ : ∃ g, g = goodM ar x.tm := ⟨_, rfl⟩
  rw [← hg] at HG ⊢
  clear hg
  obtain ⟨W1, hW1⟩ : ∃ W, W = w.alloc (.cells #[.int .i64 x.k, .int .i64 x.n, .int .i64 x.t.k, .slice x.t.a x.t.l.length x.t.c, .int .i64 x.f.k, .slice x.f.a x.f.l.length x.f.c, .slice x.a x.l.length x.c] 27) := ⟨_, rfl⟩
  have hb1 : Below w.heap.size w W1 := by rw [hW1]; exact (Below.refl _ _).alloc (Nat.le_refl _) _
  obtain ⟨SZ, hSZ⟩ : ∃ S : Int, S = (x.sz : Int) := ⟨_, rfl⟩
  obtain ⟨r, hr⟩ : ∃ r, r = rightM ar x.tm 0 := ⟨_, rfl⟩
  rw [← hr] at HG
  have HP : Hid (∀ W, Below W1.heap.size W1 W → Calls Tryz.prog 12 #[.agg #[.int .i64 x.k, .int .i64 x.n, .int .i64 x.t.k, .slice x.t.a x.t.l.length x.t.c, .int .i64 x.f.k, .slice x.f.a x.f.l.length x.f.c, .slice x.a x.l.length x.c]] W fun e w' => e = .returned (.int .i64 SZ) ∧ Below W1.heap.size W1 w') := fun W hW => by
    refine (HN.out W (hx.below (hb1.trans (hW.mono hb1.size)))).mono ?_
    rintro e w' ⟨rfl, hb⟩
    rw [hSZ]
    exact ⟨rfl, hW.trans (hb.mono hW.size)⟩
  have HQ : Hid (∀ W, Below W1.heap.size W1 W → Calls Tryz.prog 25 #[.agg #[.int .i64 x.k, .int .i64 x.n, .int .i64 x.t.k, .slice x.t.a x.t.l.length x.t.c, .int .i64 x.f.k, .slice x.f.a x.f.l.length x.f.c, .slice x.a x.l.length x.c], .int .i64 ar, .int .i64 0] W fun e w' => e = .returned (.bool r) ∧ Below W1.heap.size W1 w') := fun W hW => by
    refine (HR.out W (hx.below (hb1.trans (hW.mono hb1.size)))).mono ?_
    rintro e w' ⟨rfl, hb⟩
    rw [hr]
    exact ⟨rfl, hW.trans (hb.mono hW.size)⟩
  have h7 : At7 W1 w.heap.size 0 x := by constructor <;> (rw [hW1]; simp [go_sem])
  have HK : Hid (∀ W, Below W1.heap.size W1 W → W.cell? ⟨w.heap.size, 0, none⟩ = some (.int .i64 x.k) ∧ W.cell? ⟨w.heap.size, 1, none⟩ = some (.int .i64 x.n) ∧ W.cell? ⟨w.heap.size, 2, none⟩ = some (.int .i64 x.t.k) ∧ W.cell? ⟨w.heap.size, 3, none⟩ = some (.slice x.t.a x.t.l.length x.t.c) ∧ W.cell? ⟨w.heap.size, 4, none⟩ = some (.int .i64 x.f.k) ∧ W.cell? ⟨w.heap.size, 5, none⟩ = some (.slice x.f.a x.f.l.length x.f.c) ∧ W.cell? ⟨w.heap.size, 6, none⟩ = some (.slice x.a x.l.length x.c)) := fun W hW => by
    obtain ⟨a0, a1, a2, a3, a4, a5, a6⟩ := h7.below hW
    simp only [Nat.zero_add] at a0 a1 a2 a3 a4 a5 a6
    exact ⟨a0, a1, a2, a3, a4, a5, a6⟩
  have HB : Hid (Below w.heap.size w W1) := hb1
  obtain ⟨d0, d1, d2, d3, d4, d5, d6⟩ := HK.out W1 (Below.refl _ _)
  have lw1 : w.heap.size < W1.heap.size := World.block_lt_of_cell? _ _ d0
  by_cases h41 : x.sz < 41
  · have e1 : decide (SZ < 41) = true := by simp; omega
    have HE : Hid (g = r) := by
      have := HG.out
      rw [show decide (x.sz < 41) = true by simpa using h41, Bool.true_and] at this
      exact this
    clear hb1 h7 hx hsz hok HN HR hSZ hr h41 HG
    go_enter Tryz.func10, Tryz.ntmps10
    go_upto_region 1 with fail
    rw [← hW1]
    clear hW1
    go_wp2_with (first
      | (go_at_call 12; refine (HP.out _ (Below.refl _ _)).mono ?_; rintro e w2 ⟨rfl, hb2⟩; obtain ⟨d0, d1, d2, d3, d4, d5, d6⟩ := HK.out _ hb2; have lw2 : w.heap.size < w2.heap.size := World.block_lt_of_cell? _ _ d0)
      | (go_at_call 25; refine (HQ.out _ hb2).mono ?_; rintro e w3 ⟨rfl, hb3⟩))
    have HZ : Hid (Below w.heap.size w w3) := HB.out.trans (hb3.mono HB.out.size)
    clear hb3 hb2
    go_ret
    exact ⟨by rw [HE.out]; cases r <;> rfl, HZ.out⟩
  · have e1 : decide (SZ < 41) = false := by simp; omega
    have HE : Hid (g = false) := by
      have := HG.out
      rw [show decide (x.sz < 41) = false by simpa using h41, Bool.false_and] at this
      exact this
    clear hb1 h7 hx hsz hok HN HR hSZ hr h41 HG HQ
    go_enter Tryz.func10, Tryz.ntmps10
    go_upto_region 1 with fail
    rw [← hW1]
    clear hW1
    go_wp2_with (first
      | (go_at_call 12; refine (HP.out _ (Below.refl _ _)).mono ?_; rintro e w2 ⟨rfl, hb2⟩; obtain ⟨d0, d1, d2, d3, d4, d5, d6⟩ := HK.out _ hb2; have lw2 : w.heap.size < w2.heap.size := World.block_lt_of_cell? _ _ d0))
    have HZ : Hid (Below w.heap.size w w2) := HB.out.trans (hb2.mono HB.out.size)
    clear hb2
    go_ret
    exact ⟨by rw [HE.out]; cases r <;> rfl, HZ.out⟩
end Go.Proofs.YtnddkmccagiclaaGreatDoor

/-
  What the call of chaperoneref.PrintTerm answers.
-/
namespace Go.Proofs.YtnddkmccagiclaaGreatDoor
open Go.RowKit

set_option maxRecDepth 20000 in
set_option maxHeartbeats 1000000 in
/-- PrintTerm. -/
theorem printTerm_any (x : TT) (w : World) (hg : Ta w) (hx : x.In w) (hsz : x.sz ≤ 2000000) (hok : x.ok 100000000) :
    Calls Tryz.prog 8 #[.agg #[.int .i64 x.k, .int .i64 x.n, .int .i64 x.t.k, .slice x.t.a x.t.l.length x.t.c, .int .i64 x.f.k, .slice x.f.a x.f.l.length x.f.c, .slice x.a x.l.length x.c]] w (PrPost x.tm w) := by
  have hb0 : ∀ o, Below w.heap.size w (w.alloc o) := fun o => (Below.refl _ _).alloc (Nat.le_refl _) _
  obtain ⟨g, hgd⟩ : ∃ g, goodM 0 x.tm = g := ⟨_, rfl⟩
  have HGD : Hid (∀ o, Calls Tryz.prog 10 #[.agg #[.int .i64 x.k, .int .i64 x.n, .int .i64 x.t.k, .slice x.t.a x.t.l.length x.t.c, .int .i64 x.f.k, .slice x.f.a x.f.l.length x.f.c, .slice x.a x.l.length x.c], .int .i64 0] (w.alloc o) fun e w' => e = .returned (.bool g) ∧ Below (w.alloc o).heap.size (w.alloc o) w') := by
    intro o
    have := isTerm_any x 0 _ (hx.below (hb0 o)) hsz hok
    rw [hgd] at this
    exact this
  have HGG : Hid (goodM 0 x.tm = g) := hgd
  have HG : Hid (Ta w ∧ x.In w) := ⟨hg, hx⟩
  have HB : Hid (∀ o, Below w.heap.size w (w.alloc o)) := hb0
  clear hg hx hsz hok hgd hb0
  cases g with
  | false =>
    go_enter Tryz.func8, Tryz.ntmps8
    go_wp2_with fail
    refine (HGD.out _).mono ?_
    rintro e w1 ⟨rfl, hb1⟩
    have HF : Hid (PrPost x.tm w (.returned (.tuple #[.string ⟨#[]⟩, .int .i64 1])) w1) := ⟨_, _, rfl, (HB.out _).trans (hb1.mono (by simp)), .inl ⟨HGG.out, rfl, rfl⟩⟩
    clear hb1
    go_wp2_with fail
    go_ret2
    exact HF.out
  | true =>
    obtain ⟨r', hr⟩ := Option.isSome_iff_exists.1 HGG.out
    have hr0 : goodS 0 40 ((0 : Nat) : Int) x.tm 40 = some r' := hr
    have hl := (tmText_len 40 0 x.tm 40 r' (by omega) hr0).2
    obtain ⟨T, hT⟩ : ∃ T, tmText 40 x.tm = T := ⟨_, rfl⟩
    have HTT : Hid (∀ W, Ta W → x.In W → Calls Tryz.prog 23 #[.agg #[.int .i64 x.k, .int .i64 x.n, .int .i64 x.t.k, .slice x.t.a x.t.l.length x.t.c, .int .i64 x.f.k, .slice x.f.a x.f.l.length x.f.c, .slice x.a x.l.length x.c]] W fun e w' => e = .returned (.string (bw T)) ∧ Below W.heap.size W w') := by
      intro W hgW hxW
      have := refTm_any 40 (by omega) 0 x 40 r' W (by omega) (by omega) hr0 hgW hxW
      rw [hT] at this
      exact this
    have HT : Hid (tmText 40 x.tm = T) := hT
    have hsz := bw_size T
    have hsz2 : (bw T).size ≤ 100000 := by rw [hsz, ← hT]; omega
    by_cases hlong : 1000 < (bw T).size
    · have i1 : (1000 : Int) < ((bw T).size : Int) := by omega
      have HL : Hid (1000 < (tmText 40 x.tm).length) := by rw [HT.out, ← hsz]; exact hlong
      clear hl hr hr0 hT hsz hlong
      go_enter Tryz.func8, Tryz.ntmps8
      go_wp2_with fail
      refine (HGD.out _).mono ?_
      rintro e w1 ⟨rfl, hb1⟩
      have hbw : Below w.heap.size w w1 := (HB.out _).trans (hb1.mono (by simp))
      have h7 : At7 w1 w.heap.size 0 x := At7.below hb1 (by constructor <;> simp [go_sem])
      have c0 := h7.c0
      have c1 := h7.c1
      have c2 := h7.c2
      have c3 := h7.c3
      have c4 := h7.c4
      have c5 := h7.c5
      have c6 := h7.c6
      simp only [Nat.zero_add] at c0 c1 c2 c3 c4 c5 c6
      clear h7 hb1
      go_wp2_with fail
      refine (HTT.out _ (HG.out.1.below hbw) (HG.out.2.below hbw)).mono ?_
      rintro e w2 ⟨rfl, hb2⟩
      have HF : Hid (PrPost x.tm w (.returned (.tuple #[.string ⟨#[]⟩, .int .i64 4])) w2) := ⟨_, _, rfl, hbw.trans (hb2.mono hbw.size), .inr (.inl ⟨HGG.out, HL.out, rfl, rfl⟩)⟩
      clear hb2 hbw c0 c1 c2 c3 c4 c5 c6
      go_wp2_with fail
      go_ret2
      exact HF.out
    · have i1 : ¬ (1000 : Int) < ((bw T).size : Int) := by omega
      have hl9 : (tmText 40 x.tm).length ≤ 1000 := by rw [hT, ← hsz]; omega
      have HL : Hid ((tmText 40 x.tm).length ≤ 1000) := hl9
      clear hl9
      clear hl hr hr0 hT hsz hlong
      go_enter Tryz.func8, Tryz.ntmps8
      go_wp2_with fail
      refine (HGD.out _).mono ?_
      rintro e w1 ⟨rfl, hb1⟩
      have hbw : Below w.heap.size w w1 := (HB.out _).trans (hb1.mono (by simp))
      have h7 : At7 w1 w.heap.size 0 x := At7.below hb1 (by constructor <;> simp [go_sem])
      have c0 := h7.c0
      have c1 := h7.c1
      have c2 := h7.c2
      have c3 := h7.c3
      have c4 := h7.c4
      have c5 := h7.c5
      have c6 := h7.c6
      simp only [Nat.zero_add] at c0 c1 c2 c3 c4 c5 c6
      clear h7 hb1
      go_wp2_with fail
      refine (HTT.out _ (HG.out.1.below hbw) (HG.out.2.below hbw)).mono ?_
      rintro e w2 ⟨rfl, hb2⟩
      have HF : Hid (PrPost x.tm w (.returned (.tuple #[.string (bw T), .int .i64 0])) w2) := ⟨_, _, rfl, hbw.trans (hb2.mono hbw.size), .inr (.inr ⟨HGG.out, HL.out, by rw [HT.out], rfl⟩)⟩
      clear hb2 hbw c0 c1 c2 c3 c4 c5 c6
      go_wp2_with fail
      go_ret2
      exact HF.out
end Go.Proofs.YtnddkmccagiclaaGreatDoor
