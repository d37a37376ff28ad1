/-
  What the call of kind.same answers at two trees that lie in memory, where there is room for all levels of the first.
-/
import Derived.Test.YtnddkmccagiclaaGreatDoorLot8a8b3f08ee
import Derived.Deep.RegionHeld3
import Derived.Test.YtnddkmccagiclaaGreatDoorLot699faab87f
namespace Go.Proofs.YtnddkmccagiclaaGreatDoor
open Go.RowKit

theorem wrap_small (n : Nat) (hn : n ≤ 1000) : IntKind.i64.wrap (n : Int) = (n : Int) := by
  rw [IntKind.wrap_i64]; omega

set_option maxHeartbeats 1000000 in
theorem same_step (n : Nat) (hn : n ≤ 1000) (x y : Tr) (rp : Option Addr) (w : World) (hx : x.In w) (hy : y.In w) (hh : x.hgt ≤ n + 1) (hs : x.sm)
    (ih : Hid (∀ (x y : Tr) (w : World), x.In w → y.In w → x.hgt ≤ n → x.sm → Calls Tryz.prog 80 #[.agg #[.int .i64 x.k, .slice x.a x.l.length x.c], .agg #[.int .i64 y.k, .slice y.a y.l.length y.c], .int .i64 (n : Int), .pointer rp] w fun e w' => e = .returned (.bool (relY escSame x.ty y.ty)) ∧ Below w.heap.size w w')) :
    Calls Tryz.prog 80 #[.agg #[.int .i64 x.k, .slice x.a x.l.length x.c], .agg #[.int .i64 y.k, .slice y.a y.l.length y.c], .int .i64 ((n : Int) + 1), .pointer rp] w fun e w' => e = .returned (.bool (relY escSame x.ty y.ty)) ∧ Below w.heap.size w w' := by
  have hz : (((n : Int) + 1) == 0) = false := by simp; omega
  have hlen := hs.len
  by_cases ht0 : (x.k == y.k && (x.l.length : Int) == (y.l.length : Int)) = false
  · have ht : Hid ((x.k == y.k && (x.l.length : Int) == (y.l.length : Int)) = false) := ht0
    clear ht0
    go_enter Tryz.func80, Tryz.ntmps80
    go_wp2_with fail
    refine (alike_any _ _ _ _ _ _ _ _ false ht.out _).mono ?_
    rintro e w1 ⟨rfl, hb1⟩
    go_wp2_with fail
    go_ret
    refine ⟨?_, (((Below.refl _ _).alloc (Nat.le_refl _) _).alloc (by simp) _).trans (hb1.mono (by simp; omega))⟩
    rw [relY_top escSame x y rfl ht.out]
    rfl
  · have ht' : Hid ((x.k == y.k && (x.l.length : Int) == (y.l.length : Int)) = true) := by simpa [Hid] using ht0
    clear ht0
    have hk : Hid (x.k = y.k) := by have h := ht'.out; simp at h; exact h.1
    have hl : Hid (x.l.length = y.l.length) := by have h := ht'.out; simp at h; exact Int.ofNat.inj h.2
    go_enter Tryz.func80, Tryz.ntmps80
    go_wp2_with fail
    refine (alike_any _ _ _ _ _ _ _ _ true ht'.out _).mono ?_
    rintro e w1 ⟨rfl, hb1⟩
    have hbw : Below w.heap.size w w1 := (((Below.refl _ _).alloc (Nat.le_refl _) _).alloc (by simp) _).trans (hb1.mono (by simp; omega))
    have p1 : w1.cell? ⟨w.heap.size, 1, none⟩ = some (.slice x.a x.l.length x.c) := cell_later hb1 (by simp [go_sem])
    have p3 : w1.cell? ⟨w.heap.size + 1, 1, none⟩ = some (.slice y.a y.l.length y.c) := cell_later hb1 (by simp [go_sem])
    clear hb1
    go_wp2_with fail
    go_loopw [24] (fun i wr => ∃ j : Nat, j ≤ x.l.length ∧ i = .int .i64 (j : Int) ∧ Below w1.heap.size w1 wr ∧ ∀ q (h : q < x.l.length) (h' : q < y.l.length), q < j → relY escSame x.l[q].ty y.l[q].ty = true) (fun i _ => x.l.length - (intOf i).toNat)
    case atStart => exact ⟨0, Nat.zero_le _, rfl, Below.refl _ _, fun q _ _ h => absurd h (by omega)⟩
    case round =>
      obtain ⟨j, hj, rfl, hbr, hall⟩ := hrel
      have HA : Hid (∀ q (h : q < x.l.length) (h' : q < y.l.length), q < j → relY escSame x.l[q].ty y.l[q].ty = true) := hall
      clear hall
      have hbwr : Below w.heap.size w wr := hbw.trans (hbr.mono hbw.size)
      by_cases hlt : j < x.l.length
      · have hlt' : j < y.l.length := hl.out ▸ hlt
        obtain ⟨b, o, ea, x0, x1, hxj⟩ := hx.part j hlt
        obtain ⟨b', o', eb, y0, y1, hyj⟩ := hy.part j hlt'
        have q1 : wr.cell? ⟨w.heap.size, 1, none⟩ = some (.slice (some ⟨b, o, none⟩) x.l.length x.c) := by rw [← ea]; exact cell_later hbr p1
        have q3 : wr.cell? ⟨w.heap.size + 1, 1, none⟩ = some (.slice (some ⟨b', o', none⟩) y.l.length y.c) := by rw [← eb]; exact cell_later hbr p3
        replace x0 := cell_later hbwr x0
        replace x1 := cell_later hbwr x1
        replace y0 := cell_later hbwr y0
        replace y1 := cell_later hbwr y1
        have i1 : (j : Int) < (x.l.length : Int) := by omega
        have i2 : (j : Int) < (y.l.length : Int) := by omega
        have i0 : (0 : Int) ≤ (j : Int) := by omega
        clear p1 p3 ea eb hx hy ht'
        have hwr : IntKind.i64.wrap (n : Int) = (n : Int) := wrap_small n hn
        obtain ⟨r, hr⟩ : ∃ r, relY escSame x.l[j].ty y.l[j].ty = r := ⟨_, rfl⟩
        have HC : Hid (∀ (w : World), x.l[j].In w → y.l[j].In w → Calls Tryz.prog 80 #[.agg #[.int .i64 x.l[j].k, .slice x.l[j].a x.l[j].l.length x.l[j].c], .agg #[.int .i64 y.l[j].k, .slice y.l[j].a y.l[j].l.length y.l[j].c], .int .i64 (n : Int), .pointer rp] w fun e w' => e = .returned (.bool r) ∧ Below w.heap.size w w') := by
          intro w h1 h2
          have := ih.out x.l[j] y.l[j] w h1 h2 (Tr.hgt_part hh j hlt) (hs.part j hlt)
          rw [hr] at this
          exact this
        have HR : Hid (relY escSame x.l[j].ty y.l[j].ty = r) := hr
        clear hr
        cases r
        · go_wp2_with fail
          go_region_held3 (fun w' => w'.cell? ⟨w.heap.size, 1, none⟩ = some (.slice (some ⟨b, o, none⟩) x.l.length x.c) ∧ w'.cell? ⟨w.heap.size + 1, 1, none⟩ = some (.slice (some ⟨b', o', none⟩) y.l.length y.c) ∧ w'.cell? ⟨b, o + j * 2, none⟩ = some (.int .i64 x.l[j].k) ∧ w'.cell? ⟨b, o + j * 2 + 1, none⟩ = some (.slice x.l[j].a x.l[j].l.length x.l[j].c) ∧ w'.cell? ⟨b', o' + j * 2, none⟩ = some (.int .i64 y.l[j].k) ∧ w'.cell? ⟨b', o' + j * 2 + 1, none⟩ = some (.slice y.l[j].a y.l[j].l.length y.l[j].c)) (first | exact ⟨cell_later hb2 q1, cell_later hb2 q3, cell_later hb2 x0, cell_later hb2 x1, cell_later hb2 y0, cell_later hb2 y1⟩ | go_keep) (first | (go_at_call 80; refine (HC.out _ (hxj.below hbwr.drew) (hyj.below hbwr.drew)).mono ?_; rintro e w2 ⟨rfl, hb2⟩))
          have hbr2 : Below w1.heap.size w1 w2 := hbr.drew.trans (hb2.mono hbr.size)
          go_wp2_with fail
          go_ret
          refine ⟨?_, hbw.trans (hbr2.mono hbw.size)⟩
          rw [relY_part_not escSame x y rfl j hlt hlt' HR.out]
          rfl
        · go_wp2_with fail
          go_region_held3 (fun w' => w'.cell? ⟨w.heap.size, 1, none⟩ = some (.slice (some ⟨b, o, none⟩) x.l.length x.c) ∧ w'.cell? ⟨w.heap.size + 1, 1, none⟩ = some (.slice (some ⟨b', o', none⟩) y.l.length y.c) ∧ w'.cell? ⟨b, o + j * 2, none⟩ = some (.int .i64 x.l[j].k) ∧ w'.cell? ⟨b, o + j * 2 + 1, none⟩ = some (.slice x.l[j].a x.l[j].l.length x.l[j].c) ∧ w'.cell? ⟨b', o' + j * 2, none⟩ = some (.int .i64 y.l[j].k) ∧ w'.cell? ⟨b', o' + j * 2 + 1, none⟩ = some (.slice y.l[j].a y.l[j].l.length y.l[j].c)) (first | exact ⟨cell_later hb2 q1, cell_later hb2 q3, cell_later hb2 x0, cell_later hb2 x1, cell_later hb2 y0, cell_later hb2 y1⟩ | go_keep) (first | (go_at_call 80; refine (HC.out _ (hxj.below hbwr.drew) (hyj.below hbwr.drew)).mono ?_; rintro e w2 ⟨rfl, hb2⟩))
          have hbr2 : Below w1.heap.size w1 w2 := hbr.drew.trans (hb2.mono hbr.size)
          go_wp2_with fail
          go_roundw
          case rel =>
            refine ⟨j + 1, by omega, by go_num, hbr2, fun q h h' hq => ?_⟩
            by_cases e : q = j
            · subst e; exact HR.out
            · exact HA.out q h h' (by omega)
          case measure => simp [intOf]; omega
      · go_wp2_with fail
        go_ret
        refine ⟨?_, hbwr⟩
        rw [relY_parts escSame x y hk.out hl.out fun q h h' => HA.out q h h' (by omega)]
        rfl

theorem same_any (n : Nat) : n ≤ 1000 → ∀ (x y : Tr) (rp : Option Addr) (w : World), x.In w → y.In w → x.hgt ≤ n → x.sm → Calls Tryz.prog 80 #[.agg #[.int .i64 x.k, .slice x.a x.l.length x.c], .agg #[.int .i64 y.k, .slice y.a y.l.length y.c], .int .i64 (n : Int), .pointer rp] w fun e w' => e = .returned (.bool (relY escSame x.ty y.ty)) ∧ Below w.heap.size w w' := by
  induction n with
  | zero =>
    intro _ x y rp w _ _ h
    have := x.hgt_pos
    omega
  | succ n ih =>
    intro hn x y rp w hx hy h hs
    have e : ((n + 1 : Nat) : Int) = (n : Int) + 1 := by omega
    rw [e]
    exact same_step n (by omega) x y rp w hx hy h hs (fun x y w hx hy h hs => ih (by omega) x y rp w hx hy h hs)
end Go.Proofs.YtnddkmccagiclaaGreatDoor

/-
  What the call of chaperoneref.CopyType answers at a tree that lies in memory.
-/
namespace Go.Proofs.YtnddkmccagiclaaGreatDoor
open Go.RowKit

theorem Tr.sz_eq (t : Tr) : t.sz = (t.l.map Tr.sz).sum + 1 := by cases t; rw [Tr.sz_mk]

theorem sz_take (l : List Tr) (j : Nat) (h : j < l.length) : ((l.take (j + 1)).map Tr.sz).sum = ((l.take j).map Tr.sz).sum + l[j].sz := by
  rw [List.take_succ_eq_append_getElem h, List.map_append, List.sum_append]
  simp only [List.map_cons, List.map_nil, List.sum_cons, List.sum_nil, Nat.add_zero]

theorem sz_take_le : ∀ (l : List Tr) (j : Nat), ((l.take j).map Tr.sz).sum ≤ (l.map Tr.sz).sum
  | [], j => by simp
  | t :: r, 0 => by simp
  | t :: r, j + 1 => by
    have := sz_take_le r j
    simp only [List.take_succ_cons, List.map_cons, List.sum_cons]; omega

theorem len_sz : ∀ (l : List Tr), l.length ≤ (l.map Tr.sz).sum
  | [] => Nat.zero_le _
  | t :: r => by
    have h1 := len_sz r
    have h2 := t.sz_pos
    simp only [List.map_cons, List.sum_cons, List.length_cons]; omega

theorem ownsRow_below {w w' : World} {base : Nat} {e : TypeId} {size : Nat} {v : Value} {n : Nat} {xs : List Value} (h : w.ownsRow base e size v n xs) (hb : Below w.heap.size w w') : w'.ownsRow base e size v n xs := by
  refine ⟨h.1, ?_⟩
  rcases h.2 with hn | ⟨g, cap, cur, rfl, h1, hgg, rest⟩
  · exact .inl hn
  · exact .inr ⟨g, cap, cur, rfl, h1, by rw [hb.block g (Array.getElem?_eq_some_iff.1 hgg).1]; exact hgg, rest⟩

theorem cellsOf_at2 : ∀ (l : List Tr) (j : Nat) (h : j < l.length), (cellsOf l)[j * 2]? = some (.int .i64 l[j].k) ∧ (cellsOf l)[j * 2 + 1]? = some l[j].sl
  | [], j, h => by simp at h
  | t :: r, 0, _ => by simp [cellsOf, Tr.sl]
  | t :: r, j + 1, h => by
    have ih := cellsOf_at2 r j (by simpa using h)
    have e : (j + 1) * 2 = j * 2 + 1 + 1 := by omega
    rw [e]
    simpa [cellsOf] using ih

/-- A row of trees that the call owns is a tree's list. -/
theorem row_in {w : World} {base : Nat} {v : Value} {cs : List Tr} (h : w.ownsRow base 24 2 v cs.length (cellsOf cs)) (hc : ∀ c, c ∈ cs → c.In w ∧ c.Bl (base ≤ ·)) : ∃ a c, v = .slice a cs.length c ∧ ∀ k, (Tr.mk k a c cs).In w ∧ (Tr.mk k a c cs).Bl (base ≤ ·) := by
  rcases h.2 with ⟨rfl, h0⟩ | ⟨g, cap, cur, rfl, hg, _⟩
  · have : cs = [] := List.length_eq_zero_iff.1 h0
    subst this
    exact ⟨none, 0, rfl, fun k => ⟨Tr.In_nil _ _ _ _, Tr.Bl_nil _ _ _ _⟩⟩
  · refine ⟨_, _, rfl, fun k => ⟨Tr.In_mk.2 ⟨fun j hj => ⟨g, 0, rfl, ?_, ?_⟩, fun t ht => (hc t ht).1⟩, Tr.Bl_mk.2 ⟨fun _ x hx => by cases hx; exact hg, fun t ht => (hc t ht).2⟩⟩⟩
    · rw [Nat.zero_add, h.cellAt (j * 2) (by omega), (cellsOf_at2 cs j hj).1]
    · rw [Nat.zero_add, h.cellAt (j * 2 + 1) (by omega), (cellsOf_at2 cs j hj).2]

/-- While the parts are copied: the box, the row of copies, the copies, the place of the answer. -/
structure CP (x : Tr) (j : Nat) (v : Value) (cs : List Tr) (w wr : World) : Prop where
  own : wr.ownsRow (w.heap.size + 1 + 1) 24 2 v cs.length (cellsOf cs)
  ins : ∀ c, c ∈ cs → c.In wr ∧ c.Bl (fun b => w.heap.size + 1 + 1 ≤ b ∧ some b ≠ v.ownBlock)
  ty : cs.map Tr.ty = (x.l.take j).map Tr.ty
  low : Below w.heap.size w wr
  b0 : wr.cell? ⟨w.heap.size, 0, none⟩ = some (.int .i64 x.k)
  b1 : wr.cell? ⟨w.heap.size, 1, none⟩ = some v
  bf : wr.frozen? ⟨w.heap.size, 1, none⟩ = false
  r0 : wr.cell? ⟨w.heap.size + 1, 0, none⟩ = some (.int .i64 0)
  r1 : wr.cell? ⟨w.heap.size + 1, 1, none⟩ = some (.slice none 0 0)
  f0 : wr.frozen? ⟨w.heap.size + 1, 0, none⟩ = false
  f1 : wr.frozen? ⟨w.heap.size + 1, 1, none⟩ = false

theorem CP.len {x : Tr} {j : Nat} {v : Value} {cs : List Tr} {w wr : World} (h : CP x j v cs w wr) (hj : j ≤ x.l.length) : cs.length = j := by
  have := congrArg List.length h.ty
  simpa [Nat.min_eq_left hj] using this

/-- One more copy. -/
theorem CP.step {x : Tr} {j : Nat} {v : Value} {cs : List Tr} {w wr w1 w2 w3 : World} {c : Tr} {gg cap1 : Nat} {X : Obj} (h : CP x j v cs w wr) (hj : j < x.l.length) (hb1 : Below wr.heap.size wr w1) (ht : c.ty = x.l[j].ty) (hin : c.In w2) (hbl : c.Bl (w1.heap.size ≤ ·)) (hb2 : Below w1.heap.size w1 w2)
    (hown : w3.ownsRow (w.heap.size + 1 + 1) 24 2 (.slice (some ⟨gg, 0, none⟩) (cs.length + 1) cap1) (cs.length + 1) (cellsOf cs ++ [.int .i64 c.k, .slice c.a c.l.length c.c])) (hgrow : (w2.alloc X).grownBy w3 v.ownBlock) (hat : v.ownBlock = some gg ∨ gg = w2.heap.size + 1) :
    CP x (j + 1) (.slice (some ⟨gg, 0, none⟩) (cs.length + 1) cap1) (cs ++ [c]) w (w3.setCell ⟨w.heap.size, 1, none⟩ (.slice (some ⟨gg, 0, none⟩) (cs.length + 1) cap1)) := by
  have s0 := h.low.size
  have s1 := hb1.size
  have s2 := hb2.size
  have s3 : w2.heap.size + 1 ≤ w3.heap.size := by have := hgrow.size; simpa using this
  have hlr : w.heap.size + 1 < wr.heap.size := World.block_lt_of_cell? _ _ h.r0
  have hba : Below w2.heap.size w2 (w2.alloc X) := (Below.refl _ _).alloc (Nat.le_refl _) _
  have hbr2 : Below wr.heap.size wr (w2.alloc X) := (hb1.trans (hb2.mono s1)).trans (hba.mono (by omega))
  have hov : ∀ k, v.ownBlock = some k → w.heap.size + 1 + 1 ≤ k ∧ k < wr.heap.size := h.own.lt
  have hno : ∀ k, k ≤ w.heap.size + 1 → some k ≠ v.ownBlock := fun k hk e => by have := (hov k e.symm).1; omega
  have hgg : w.heap.size + 1 + 1 ≤ gg := by
    rcases hat with e | e
    · exact (hov gg e).1
    · omega
  -- the blocks that are not the row's are as they were
  have hblk : ∀ k, k < w2.heap.size + 1 → some k ≠ v.ownBlock → w3.heap[k]? = (w2.alloc X).heap[k]? := fun k hk hn => hgrow.block k (by simpa using hk) hn
  have hset : ∀ k i, k ≠ w.heap.size → (w3.setCell ⟨w.heap.size, 1, none⟩ (.slice (some ⟨gg, 0, none⟩) (cs.length + 1) cap1)).cell? ⟨k, i, none⟩ = w3.cell? ⟨k, i, none⟩ := by
    intro k i hk
    rw [World.cell?_setCell_other]
    intro e; simp only [Addr.mk.injEq] at e; omega
  have hold : ∀ k i, k < wr.heap.size → some k ≠ v.ownBlock → w3.cell? ⟨k, i, none⟩ = wr.cell? ⟨k, i, none⟩ ∧ w3.frozen? ⟨k, i, none⟩ = wr.frozen? ⟨k, i, none⟩ := by
    intro k i hk hn
    have e : w3.heap[k]? = wr.heap[k]? := (hblk k (by omega) hn).trans (hbr2.block k hk)
    exact ⟨World.cell?_of_block (a := ⟨k, i, none⟩) e, World.frozen?_of_block (a := ⟨k, i, none⟩) e⟩
  refine ⟨?_, ?_, ?_, ?_, ?_, ?_, ?_, ?_, ?_, ?_, ?_⟩
  · rw [cellsOf_append, List.length_append, List.length_singleton]
    exact ownsRow_setCell_below hown (show w.heap.size < _ by omega) _
  · intro d hd
    rcases List.mem_append.1 hd with hd | hd
    · obtain ⟨i1, i2⟩ := h.ins d hd
      have i3 := i1.bl.and i2
      refine ⟨i1.congr (P := fun b => b < wr.heap.size ∧ w.heap.size + 1 + 1 ≤ b ∧ some b ≠ v.ownBlock) (fun b hb i => ?_) i3, i3.mono fun b hb => ⟨hb.2.1, ?_⟩⟩
      · rw [hset b i (by omega)]
        exact (hold b i hb.1 hb.2.2).1
      · show some b ≠ some gg
        rcases hat with e | e
        · rw [← e]; exact hb.2.2
        · simp only [ne_eq, Option.some.injEq]; omega
    · rcases List.mem_singleton.1 hd with rfl
      have i3 := hin.bl.and hbl
      refine ⟨hin.congr (P := fun b => b < w2.heap.size ∧ w1.heap.size ≤ b) (fun b hb i => ?_) i3, i3.mono fun b hb => ⟨by omega, ?_⟩⟩
      · rw [hset b i (by omega), World.cell?_of_block (a := ⟨b, i, none⟩) (hblk b (by omega) (fun e => by have := (hov b e.symm).2; omega))]
        exact hba.cell (p := ⟨b, i, none⟩) hb.1
      · show some b ≠ some gg
        rcases hat with e | e
        · have := (hov gg e).2
          simp only [ne_eq, Option.some.injEq]; omega
        · simp only [ne_eq, Option.some.injEq]; omega
  · rw [List.take_succ_eq_append_getElem hj, List.map_append, List.map_append, h.ty]
    simp [ht]
  · have hb3 : Below w.heap.size (w2.alloc X) w3 := ⟨hgrow.os, hgrow.tape, hgrow.output, hgrow.size, fun k hk => hblk k (by omega) (hno k (by omega))⟩
    exact ((h.low.trans (hbr2.mono s0)).trans hb3).setCell (by simp) _
  · rw [World.cell?_setCell_other]
    · exact (hold _ 0 (by omega) (hno _ (by omega))).1.trans h.b0
    · intro e; simp only [Addr.mk.injEq] at e; omega
  · exact World.cell?_setCell_same _ _ _ ((hold _ 1 (by omega) (hno _ (by omega))).1.trans h.b1)
  · rw [World.frozen?_setCell]
    exact (hold _ 1 (by omega) (hno _ (by omega))).2.trans h.bf
  · rw [hset _ _ (by omega)]
    exact (hold _ 0 (by omega) (hno _ (by omega))).1.trans h.r0
  · rw [hset _ _ (by omega)]
    exact (hold _ 1 (by omega) (hno _ (by omega))).1.trans h.r1
  · rw [World.frozen?_setCell]
    exact (hold _ 0 (by omega) (hno _ (by omega))).2.trans h.f0
  · rw [World.frozen?_setCell]
    exact (hold _ 1 (by omega) (hno _ (by omega))).2.trans h.f1

theorem CP.start {x : Tr} {w : World} : CP x 0 (.slice none 0 0) [] w ((w.alloc (.cells #[.int .i64 x.k, .slice none 0 0] 24)).alloc (.cells #[.int .i64 0, .slice none 0 0] 24)) := by
  refine ⟨World.ownsRow_nil _ _ _ _, fun c h => (by cases h), by simp, ?_, by simp [go_sem], by simp [go_sem], by simp [go_sem], by simp [go_sem], by simp [go_sem], by simp [go_sem], by simp [go_sem]⟩
  exact ((Below.refl _ _).alloc (Nat.le_refl _) _).alloc (by simp) _

set_option maxHeartbeats 2000000 in
theorem copy_step (n : Nat) (x : Tr) (A : Option Addr) (HA : Hid (A = x.a)) (w : World) (hx : x.In w) (hh : x.hgt ≤ n + 1) (hs : x.sz ≤ 100000000)
    (ih : Hid (∀ (x : Tr) (w : World), x.In w → x.hgt ≤ n → x.sz ≤ 100000000 → Calls Tryz.prog 21 #[.agg #[.int .i64 x.k, .slice x.a x.l.length x.c]] w (Made x.ty w))) :
    Calls Tryz.prog 21 #[.agg #[.int .i64 x.k, .slice A x.l.length x.c]] w (Made x.ty w) := by
  have hlen : x.l.length ≤ 100000000 := by have := len_sz x.l; have := x.sz_eq; omega
  obtain ⟨i0, hi0, hz0, hz1, hz2⟩ := info_parts Tryz.info24s
  go_enter Tryz.func21, Tryz.ntmps21
  go_wp2_with fail
  go_loopg [11] x.l.length (fun g i wr => ∃ (j : Nat) (v : Value) (cs : List Tr), j ≤ x.l.length ∧ g = x.l.length - j ∧ i = .int .i64 (j : Int) ∧ Hid (CP x j v cs w wr))
  case atStart => exact ⟨0, _, _, Nat.zero_le _, rfl, rfl, CP.start⟩
  case round =>
    obtain ⟨j, v, cs, hj, hg, rfl, HC⟩ := hrel
    have HG : Hid (gk = x.l.length - j) := hg
    clear hg
    have hsw : w.heap.size + 1 < wr.heap.size := World.block_lt_of_cell? _ _ HC.out.r0
    by_cases hlt : j < x.l.length
    · obtain ⟨b, o, ea, x0, x1, hxj⟩ := hx.part j hlt
      have eA : A = some ⟨b, o, none⟩ := HA.out.trans ea
      subst eA
      clear ea HA
      have hbwr := HC.out.low
      replace x0 := cell_later hbwr x0
      replace x1 := cell_later hbwr x1
      have i1 : (j : Int) < (x.l.length : Int) := by omega
      have i2 : (0 : Int) ≤ (j : Int) := by omega
      have lb : b < wr.heap.size := World.block_lt_of_cell? _ _ x0
      have hcb : cs.length ≤ 100000000 := by have := HC.out.len hj; omega
      have hb1 : Below wr.heap.size wr (wr.alloc (.cells #[.int .i64 x.l[j].k, .slice x.l[j].a x.l[j].l.length x.l[j].c] 24)).drew := ((Below.refl _ _).alloc (Nat.le_refl _) _).drew
      have HI : Hid (Calls Tryz.prog 21 #[.agg #[.int .i64 x.l[j].k, .slice x.l[j].a x.l[j].l.length x.l[j].c]] (wr.alloc (.cells #[.int .i64 x.l[j].k, .slice x.l[j].a x.l[j].l.length x.l[j].c] 24)).drew (Made x.l[j].ty (wr.alloc (.cells #[.int .i64 x.l[j].k, .slice x.l[j].a x.l[j].l.length x.l[j].c] 24)).drew)) := by
        refine ih.out x.l[j] _ ((hxj.below hbwr).below hb1) (Tr.hgt_part hh j hlt) ?_
        have h2 := sz_take x.l j hlt
        have h3 := sz_take_le x.l (j + 1)
        have h4 := x.sz_eq
        omega
      have q1 := HC.out.b1
      have qf := HC.out.bf
      have hnv : v.ownBlock ≠ some w.heap.size := fun e => by have := (HC.out.own.lt _ e).1; omega
      have hown := HC.out.own
      clear ih hx
      go_wp2_with fail
      have u1 : (wr.alloc (.cells #[.int .i64 x.l[j].k, .slice x.l[j].a x.l[j].l.length x.l[j].c] 24)).drew.cell? ⟨w.heap.size, 1, none⟩ = some v := cell_later hb1 q1
      have uf : (wr.alloc (.cells #[.int .i64 x.l[j].k, .slice x.l[j].a x.l[j].l.length x.l[j].c] 24)).drew.frozen? ⟨w.heap.size, 1, none⟩ = false := (hb1.frozen (p := ⟨w.heap.size, 1, none⟩) (show w.heap.size < wr.heap.size by omega)).trans qf
      have uo : (wr.alloc (.cells #[.int .i64 x.l[j].k, .slice x.l[j].a x.l[j].l.length x.l[j].c] 24)).drew.ownsRow (w.heap.size + 1 + 1) 24 2 v cs.length (cellsOf cs) := ownsRow_below hown hb1
      have us : w.heap.size < (wr.alloc (.cells #[.int .i64 x.l[j].k, .slice x.l[j].a x.l[j].l.length x.l[j].c] 24)).drew.heap.size := World.block_lt_of_cell? _ _ u1
      clear q1 qf hown
      go_region_law
        (first
          | (go_simp; go_at_call 21; refine HI.out.mono ?_; rintro e w2 ⟨c, rfl, ht, hin, hbl, hb2⟩; replace u1 := cell_later hb2 u1; replace uf := (hb2.frozen (p := ⟨w.heap.size, 1, none⟩) us).trans uf; replace uo := ownsRow_below uo hb2; replace us : w.heap.size < w2.heap.size := World.block_lt_of_cell? _ _ u1; have hnew := heap_alloc_new w2 (.cells #[.int .i64 c.k, .slice c.a c.l.length c.c] 24); have un : w.heap.size ≠ w2.heap.size := Nat.ne_of_lt us; go_wp2_with fail)
          | (refine step_append_lies _ (by rfl) _ _ _ (by rfl) (w.heap.size + 1 + 1) 24 i0 _ 2 32 Tryz.underlying22 hi0 hz0 hz1 hz2 rfl (by omega) v cs.length (cellsOf cs) (by rfl) (uo.alloc _)
                ⟨w2.heap.size, 0, none⟩ 1 1 [.int .i64 c.k, .slice c.a c.l.length c.c] (by rfl) (by rfl) (World.news_of_block (cs := #[.int .i64 c.k, .slice c.a c.l.length c.c]) (t := 24) (fr := (0, 0)) hnew) (by simp [Value.oneCell'])
                (by omega) (by unfold maxLen; omega) (by omega) (by have := hb2.size; simp at this ⊢; omega) (w2.heap.size + 1) (by simp) ?_; intro gg cap1 w3 hown1 hgrow hat hlt3; have hcr : w3.cell? ⟨w.heap.size, 1, none⟩ = some v := (by rw [hgrow.cell_far _ (by simp; omega) (Ne.symm hnv)]; exact cell_later ((Below.refl _ _).alloc (Nat.le_refl _) _) u1); have hfr : w3.frozen? ⟨w.heap.size, 1, none⟩ = false := (by rw [hgrow.frozen_far _ (by simp; omega) (Ne.symm hnv)]; exact (((Below.refl _ _).alloc (Nat.le_refl _) _).frozen (p := ⟨w.heap.size, 1, none⟩) us).trans uf)))
      all_goals
        have HN : Hid (CP x (j + 1) (.slice (some ⟨gg, 0, none⟩) (cs.length + 1) cap1) (cs ++ [c]) w (w3.setCell ⟨w.heap.size, 1, none⟩ (.slice (some ⟨gg, 0, none⟩) (cs.length + 1) cap1))) := HC.out.step hlt hb1 ht hin hbl hb2 hown1 hgrow hat
        clear hown1 hgrow hat hcr hfr ht hin hbl hb2 uo uf u1 HI HC
        go_wp2_with fail
        go_roundg (x.l.length - (j + 1))
        case measure => rw [HG.out]; omega
        case rel => exact ⟨j + 1, _, _, by omega, rfl, by go_num, HN⟩
    · have hcl := HC.out.len hj
      have hjl : j = x.l.length := by omega
      obtain ⟨a, c, rfl, hrow⟩ := row_in HC.out.own (fun c hc => ⟨(HC.out.ins c hc).1, (HC.out.ins c hc).2.mono fun b hb => hb.1⟩)
      have HT : Hid ((Tr.mk x.k a c cs).ty = x.ty) := by
        show _ = _
        obtain ⟨k, a', c', l⟩ := x
        have h := HC.out.ty
        dsimp only at h hjl ⊢
        rw [hjl, List.take_length] at h
        rw [Tr.ty_mk, Tr.ty_mk, h]
      have HB : Hid (Below w.heap.size w wr) := HC.out.low
      have b0 := HC.out.b0
      have b1 := HC.out.b1
      have r0 := HC.out.r0
      have r1 := HC.out.r1
      have f0 := HC.out.f0
      have f1 := HC.out.f1
      have HR := hrow x.k
      clear HC hrow hcl hjl
      go_wp2_with fail
      refine bodyPost_ret (v := .agg #[.int .i64 x.k, .slice a cs.length c]) ?_ rfl ⟨.mk x.k a c cs, rfl, HT.out, set_keeps HR.1 (HR.2.mono fun b hb => by omega), HR.2.mono fun b hb => by omega, (HB.out.setCell (by simp) _).setCell (by simp) _⟩
      have hc := set_cells (u := .int .i64 x.k) (v := .slice a cs.length c) r0 r1
      simp only [Nat.zero_add] at hc
      simp [results, Tryz.results21, go_sem, hc.1, hc.2]

/-- chaperoneref.CopyType. -/
theorem copy_any (n : Nat) : ∀ (x : Tr) (w : World), x.In w → x.hgt ≤ n → x.sz ≤ 100000000 → Calls Tryz.prog 21 #[.agg #[.int .i64 x.k, .slice x.a x.l.length x.c]] w (Made x.ty w) := by
  induction n with
  | zero =>
    intro x w _ h
    have := x.hgt_pos
    omega
  | succ n ih =>
    intro x w hx h hs
    exact copy_step n x x.a rfl w hx h hs (fun x w hx h hs => ih x w hx h hs)
end Go.Proofs.YtnddkmccagiclaaGreatDoor

/-
  Trees of words as they lie in memory (ref's type 'tree{word string; l []tree; open bool}'), and rows of them that a call owns.
-/
namespace Go.Proofs.YtnddkmccagiclaaGreatDoor
open Go.RowKit

/-- Its word, where its parts lie, their row's capacity, its parts, whether it has brackets. -/
structure Nd where
  w : ByteArray
  a : Option Addr
  c : Nat
  l : List Nd
  o : Bool

theorem Nd.ind {P : Nd → Prop} (h : ∀ w a c l o, (∀ x, x ∈ l → P x) → P ⟨w, a, c, l, o⟩) : ∀ t, P t
  | ⟨w, a, c, l, o⟩ => h w a c l o fun x _ => Nd.ind h x

def Nd.tn : Nd → Tn
  | ⟨w, _, _, l, o⟩ => ⟨w.data.toList, l.map fun x => x.tn, o⟩
theorem Nd.tn_mk (w : ByteArray) (a : Option Addr) (c : Nat) (l : List Nd) (o : Bool) : (Nd.mk w a c l o).tn = ⟨w.data.toList, l.map Nd.tn, o⟩ := by
  rw [Nd.tn]
theorem Nd.tn_w (x : Nd) : x.tn.w = x.w.data.toList := by cases x; rw [Nd.tn_mk]
theorem Nd.tn_l (x : Nd) : x.tn.l = x.l.map Nd.tn := by cases x; rw [Nd.tn_mk]
theorem Nd.tn_o (x : Nd) : x.tn.o = x.o := by cases x; rw [Nd.tn_mk]

def Nd.sl (x : Nd) : Value := .slice x.a x.l.length x.c

/-- Its parts lie in the world, each in three cells. -/
def Nd.In (W : World) : Nd → Prop
  | ⟨_, a, c, l, _⟩ => l.length ≤ c ∧ (∀ j (h : j < l.length), ∃ b f, a = some ⟨b, f, none⟩ ∧ W.cell? ⟨b, f + j * 3, none⟩ = some (.string l[j].w) ∧ W.cell? ⟨b, f + j * 3 + 1, none⟩ = some l[j].sl ∧ W.cell? ⟨b, f + j * 3 + 2, none⟩ = some (.bool l[j].o)) ∧ ∀ t, t ∈ l → t.In W

theorem Nd.In_mk {W : World} {w : ByteArray} {a : Option Addr} {c : Nat} {l : List Nd} {o : Bool} : (Nd.mk w a c l o).In W ↔ l.length ≤ c ∧ (∀ j (h : j < l.length), ∃ b f, a = some ⟨b, f, none⟩ ∧ W.cell? ⟨b, f + j * 3, none⟩ = some (.string l[j].w) ∧ W.cell? ⟨b, f + j * 3 + 1, none⟩ = some l[j].sl ∧ W.cell? ⟨b, f + j * 3 + 2, none⟩ = some (.bool l[j].o)) ∧ ∀ t, t ∈ l → t.In W := by
  rw [Nd.In]

theorem Nd.In_nil (W : World) (w : ByteArray) (a : Option Addr) (c : Nat) (o : Bool) : (Nd.mk w a c [] o).In W :=
  Nd.In_mk.2 ⟨Nat.zero_le _, fun j h => absurd h (by simp), fun t h => absurd h (by simp)⟩

/-- Part j: where it lies, what its cells hold, and that it lies there whole. -/
theorem Nd.In.part {W : World} {t : Nd} (h : t.In W) (j : Nat) (hj : j < t.l.length) : ∃ b f, t.a = some ⟨b, f, none⟩ ∧ W.cell? ⟨b, f + j * 3, none⟩ = some (.string t.l[j].w) ∧ W.cell? ⟨b, f + j * 3 + 1, none⟩ = some (.slice t.l[j].a t.l[j].l.length t.l[j].c) ∧ W.cell? ⟨b, f + j * 3 + 2, none⟩ = some (.bool t.l[j].o) ∧ t.l[j].In W := by
  obtain ⟨w, a, c, l, o⟩ := t
  obtain ⟨hn, hc, hi⟩ := Nd.In_mk.1 h
  obtain ⟨b, f, e, c0, c1, c2⟩ := hc j hj
  exact ⟨b, f, e, c0, c1, c2, hi _ (List.getElem_mem hj)⟩

theorem Nd.In.mem {W : World} {t y : Nd} (h : t.In W) (hy : y ∈ t.l) : y.In W := by
  obtain ⟨w, a, c, l, o⟩ := t
  exact (Nd.In_mk.1 h).2.2 y hy

theorem Nd.In.cap {W : World} {t : Nd} (h : t.In W) : t.l.length ≤ t.c := by
  obtain ⟨w, a, c, l, o⟩ := t
  exact (Nd.In_mk.1 h).1

theorem Nd.In.below {W V : World} (hb : Below W.heap.size W V) {t : Nd} : t.In W → t.In V := by
  induction t using Nd.ind with
  | h w a c l o ih =>
    intro h
    obtain ⟨hn, hc, hi⟩ := Nd.In_mk.1 h
    refine Nd.In_mk.2 ⟨hn, fun j hj => ?_, fun t ht => ih t ht (hi t ht)⟩
    obtain ⟨b, f, e, c0, c1, c2⟩ := hc j hj
    exact ⟨b, f, e, cell_later hb c0, cell_later hb c1, cell_later hb c2⟩

/-- The blocks in which its parts lie are of this kind. -/
def Nd.Bl (P : Nat → Prop) : Nd → Prop
  | ⟨_, a, _, l, _⟩ => (l ≠ [] → ∀ x, a = some x → P x.block) ∧ ∀ t, t ∈ l → t.Bl P

theorem Nd.Bl_mk {P : Nat → Prop} {w : ByteArray} {a : Option Addr} {c : Nat} {l : List Nd} {o : Bool} : (Nd.mk w a c l o).Bl P ↔ (l ≠ [] → ∀ x, a = some x → P x.block) ∧ ∀ t, t ∈ l → t.Bl P := by
  rw [Nd.Bl]

theorem Nd.Bl_nil (P : Nat → Prop) (w : ByteArray) (a : Option Addr) (c : Nat) (o : Bool) : (Nd.mk w a c [] o).Bl P :=
  Nd.Bl_mk.2 ⟨fun h => absurd rfl h, fun t h => absurd h (by simp)⟩

theorem Nd.Bl.mono {P Q : Nat → Prop} (hPQ : ∀ b, P b → Q b) {t : Nd} : t.Bl P → t.Bl Q := by
  induction t using Nd.ind with
  | h w a c l o ih =>
    intro h
    obtain ⟨h1, h2⟩ := Nd.Bl_mk.1 h
    exact Nd.Bl_mk.2 ⟨fun hl x hx => hPQ _ (h1 hl x hx), fun t ht => ih t ht (h2 t ht)⟩

theorem Nd.Bl.and {P Q : Nat → Prop} {t : Nd} : t.Bl P → t.Bl Q → t.Bl (fun b => P b ∧ Q b) := by
  induction t using Nd.ind with
  | h w a c l o ih =>
    intro h g
    obtain ⟨h1, h2⟩ := Nd.Bl_mk.1 h
    obtain ⟨g1, g2⟩ := Nd.Bl_mk.1 g
    exact Nd.Bl_mk.2 ⟨fun hl x hx => ⟨h1 hl x hx, g1 hl x hx⟩, fun t ht => ih t ht (h2 t ht) (g2 t ht)⟩

theorem Nd.In.bl {W : World} {t : Nd} : t.In W → t.Bl (· < W.heap.size) := by
  induction t using Nd.ind with
  | h w a c l o ih =>
    intro h
    obtain ⟨hn, hc, hi⟩ := Nd.In_mk.1 h
    refine Nd.Bl_mk.2 ⟨fun hl x hx => ?_, fun t ht => ih t ht (hi t ht)⟩
    obtain ⟨b, f, e, c0, _⟩ := hc 0 (List.length_pos_iff.2 hl)
    rw [e] at hx
    have := Option.some.inj hx
    subst this
    exact World.block_lt_of_cell? _ _ c0

/-- What lies in blocks that read as they did lies there still. -/
theorem Nd.In.congr {W V : World} {P : Nat → Prop} (hP : ∀ b, P b → ∀ o, V.cell? ⟨b, o, none⟩ = W.cell? ⟨b, o, none⟩) {t : Nd} : t.Bl P → t.In W → t.In V := by
  induction t using Nd.ind with
  | h w a c l o ih =>
    intro hb h
    obtain ⟨hn, hc, hi⟩ := Nd.In_mk.1 h
    obtain ⟨b1, b2⟩ := Nd.Bl_mk.1 hb
    refine Nd.In_mk.2 ⟨hn, fun j hj => ?_, fun t ht => ih t ht (b2 t ht) (hi t ht)⟩
    obtain ⟨b, f, e, c0, c1, c2⟩ := hc j hj
    have hx : P b := b1 (fun e => by rw [e] at hj; simp at hj) _ e
    exact ⟨b, f, e, by rw [hP b hx]; exact c0, by rw [hP b hx]; exact c1, by rw [hP b hx]; exact c2⟩

/-- The cells of a list of trees. -/
def cells3N : List Nd → List Value
  | [] => []
  | t :: r => .string t.w :: .slice t.a t.l.length t.c :: .bool t.o :: cells3N r

theorem cells3N_append : ∀ l r : List Nd, cells3N (l ++ r) = cells3N l ++ cells3N r
  | [], r => rfl
  | t :: l, r => by simp only [List.cons_append, cells3N, cells3N_append l r]

theorem cells3N_at : ∀ (l : List Nd) (j : Nat) (h : j < l.length), (cells3N l)[j * 3]? = some (.string l[j].w) ∧ (cells3N l)[j * 3 + 1]? = some l[j].sl ∧ (cells3N l)[j * 3 + 2]? = some (.bool l[j].o)
  | [], j, h => by simp at h
  | t :: r, 0, _ => by simp [cells3N, Nd.sl]
  | t :: r, j + 1, h => by
    have ih := cells3N_at r j (by simpa using h)
    have e : (j + 1) * 3 = j * 3 + 1 + 1 + 1 := by omega
    rw [e]
    simpa [cells3N] using ih

/-- A row of trees that lies in blocks of its own, behind all that lay in W. -/
structure NL (W : World) (v : Value) (ts : List Nd) (wr : World) : Prop where
  own : wr.ownsRow W.heap.size 67 3 v ts.length (cells3N ts)
  ins : ∀ t, t ∈ ts → t.In wr ∧ t.Bl (fun b => W.heap.size ≤ b ∧ some b ≠ v.ownBlock)
  low : Below W.heap.size W wr

theorem NL.start (W : World) : NL W (.slice none 0 0) [] W :=
  ⟨World.ownsRow_nil _ _ _ _, fun t h => (by cases h), Below.refl _ _⟩

theorem NL.below {W wr w2 : World} {v : Value} {ts : List Nd} (h : NL W v ts wr) (hb : Below wr.heap.size wr w2) : NL W v ts w2 :=
  ⟨ownsRow_below h.own hb, fun t ht => ⟨(h.ins t ht).1.below hb, (h.ins t ht).2⟩, h.low.trans (hb.mono h.low.size)⟩

/-- One more. -/
theorem NL.step {W wr w2 w3 : World} {v : Value} {ts : List Nd} {t : Nd} {gg cap1 : Nat} (h : NL W v ts wr) (hb : Below wr.heap.size wr w2) (hin : t.In w2) (hbl : t.Bl (fun b => W.heap.size ≤ b ∧ some b ≠ v.ownBlock))
    (hown : w3.ownsRow W.heap.size 67 3 (.slice (some ⟨gg, 0, none⟩) (ts.length + 1) cap1) (ts.length + 1) (cells3N ts ++ [.string t.w, .slice t.a t.l.length t.c, .bool t.o])) (hgrow : w2.grownBy w3 v.ownBlock) (hat : v.ownBlock = some gg ∨ w2.heap.size ≤ gg) :
    NL W (.slice (some ⟨gg, 0, none⟩) (ts.length + 1) cap1) (ts ++ [t]) w3 := by
  have s2 := hb.size
  have s3 := hgrow.size
  have hov : ∀ k, v.ownBlock = some k → W.heap.size ≤ k ∧ k < wr.heap.size := h.own.lt
  have hold : ∀ k i, k < w2.heap.size → some k ≠ v.ownBlock → w3.cell? ⟨k, i, none⟩ = w2.cell? ⟨k, i, none⟩ := fun k i hk hn =>
    World.cell?_of_block (a := ⟨k, i, none⟩) (hgrow.block k hk hn)
  have hne : ∀ b, b < w2.heap.size → some b ≠ v.ownBlock → some b ≠ (Value.slice (some ⟨gg, 0, none⟩) (ts.length + 1) cap1).ownBlock := fun b hb hn => by
    show some b ≠ some gg
    rcases hat with e | e
    · rw [← e]; exact hn
    · simp only [ne_eq, Option.some.injEq]; omega
  have keep : ∀ d : Nd, d.In w2 → d.Bl (fun b => W.heap.size ≤ b ∧ some b ≠ v.ownBlock) → d.In w3 ∧ d.Bl (fun b => W.heap.size ≤ b ∧ some b ≠ (Value.slice (some ⟨gg, 0, none⟩) (ts.length + 1) cap1).ownBlock) := fun d h1 h2 => by
    have i3 := h1.bl.and h2
    exact ⟨h1.congr (P := fun b => b < w2.heap.size ∧ W.heap.size ≤ b ∧ some b ≠ v.ownBlock) (fun b hb i => hold b i hb.1 hb.2.2) i3, i3.mono fun b hb => ⟨hb.2.1, hne b hb.1 hb.2.2⟩⟩
  refine ⟨?_, ?_, ?_⟩
  · rw [cells3N_append, List.length_append, List.length_singleton]
    exact hown
  · intro d hd
    rcases List.mem_append.1 hd with hd | hd
    · exact keep d ((h.ins d hd).1.below hb) (h.ins d hd).2
    · rcases List.mem_singleton.1 hd with rfl
      exact keep d hin hbl
  · have hb3 : Below W.heap.size w2 w3 := ⟨hgrow.os, hgrow.tape, hgrow.output, hgrow.size, fun k hk => hgrow.block k (by have := h.low.size; omega) (fun e => by have := (hov k e.symm).1; omega)⟩
    exact (h.low.trans (hb.mono h.low.size)).trans hb3

/-- The row as a tree's parts. -/
theorem NL.tree {W wr : World} {v : Value} {ts : List Nd} (h : NL W v ts wr) : ∃ a c, v = .slice a ts.length c ∧ ∀ w o, (Nd.mk w a c ts o).In wr ∧ (Nd.mk w a c ts o).Bl (W.heap.size ≤ ·) := by
  rcases h.own.2 with ⟨rfl, h0⟩ | ⟨g, cap, cur, rfl, hg, hgg, hcap, _⟩
  · have : ts = [] := List.length_eq_zero_iff.1 h0
    subst this
    exact ⟨none, 0, rfl, fun w o => ⟨Nd.In_nil _ _ _ _ _, Nd.Bl_nil _ _ _ _ _⟩⟩
  · refine ⟨_, _, rfl, fun w o => ⟨Nd.In_mk.2 ⟨hcap, fun j hj => ⟨g, 0, rfl, ?_, ?_, ?_⟩, fun t ht => (h.ins t ht).1⟩, Nd.Bl_mk.2 ⟨fun _ x hx => (by cases hx; exact hg), fun t ht => (h.ins t ht).2.mono fun b hb => hb.1⟩⟩⟩
    · rw [Nat.zero_add, h.own.cellAt (j * 3) (by omega), (cells3N_at ts j hj).1]
    · rw [Nat.zero_add, h.own.cellAt (j * 3 + 1) (by omega), (cells3N_at ts j hj).2.1]
    · rw [Nat.zero_add, h.own.cellAt (j * 3 + 2) (by omega), (cells3N_at ts j hj).2.2]

/-! ### The trees of a text, step by step -/

/-- The trees of a text. -/
def TR (s : List UInt8) (wi : Bool) : Option (List Tn × List UInt8) := treesS (s.length + 1) s wi

theorem TR_of (n : Nat) (s : List UInt8) (wi : Bool) (h : s.length < n) : treesS n s wi = TR s wi := trees_more _ _ _ _ h (by omega)

theorem TR_end (s : List UInt8) (wi : Bool) (h : trimS s = []) : TR s wi = if wi = true then none else some ([], []) := by
  rw [TR, treesS, h]
theorem TR_close (s r : List UInt8) (wi : Bool) (h : trimS s = 41 :: r) : TR s wi = if wi = true then some ([], r) else none := by
  rw [TR, treesS, h]
  simp
theorem TR_open (s r : List UInt8) (wi : Bool) (h : trimS s = 40 :: r) : TR s wi = (TR r true).bind fun p => (TR p.2 wi).map fun q => (⟨[], p.1, true⟩ :: q.1, q.2) := by
  have hl := trim_len s
  rw [h, List.length_cons] at hl
  rw [TR, treesS, h]
  simp only [show ¬ (40 : UInt8) = 41 by decide, if_false, if_true]
  rw [TR_of _ r true (by omega)]
  cases hp : TR r true with
  | none => rfl
  | some p =>
    have := (trees_less _ _ _ _ hp).1
    simp only [Option.bind_some]
    rw [TR_of _ p.2 wi (by omega)]
theorem TR_word (s r : List UInt8) (c : UInt8) (wi : Bool) (h : trimS s = c :: r) (h1 : c ≠ 41) (h2 : c ≠ 40) : TR s wi = (TR (dropW (c :: r)) wi).map fun q => (⟨takeW (c :: r), [], false⟩ :: q.1, q.2) := by
  have hl := trim_len s
  rw [h, List.length_cons] at hl
  obtain ⟨_, _, _, a⟩ := word_split c r (trim_head s c r h) h1 h2
  rw [TR, treesS, h]
  simp only [if_neg h1, if_neg h2]
  rw [TR_of _ (dropW (c :: r)) wi (by omega)]
theorem TR_less {s : List UInt8} {wi : Bool} {p : List Tn × List UInt8} (h : TR s wi = some p) : p.2.length ≤ s.length ∧ (wi = true → p.2.length + 1 ≤ s.length) := trees_less _ _ _ _ h

/-- What a call of trees leaves. -/
def TsOut (o : Option (List Tn × List UInt8)) (ts : List Nd) (r : ByteArray) (ok : Bool) : Prop :=
  (o = none ∧ ok = false) ∨ ∃ p, o = some p ∧ ok = true ∧ ts.map Nd.tn = p.1 ∧ r.data.toList = p.2

def TsPost (s : ByteArray) (wi : Bool) (w : World) (e : Ending) (w' : World) : Prop :=
  ∃ (a : Option Addr) (c : Nat) (ts : List Nd) (r : ByteArray) (ok : Bool), e = .returned (.tuple #[.slice a ts.length c, .string r, .bool ok]) ∧ Hid ((∀ wd o, (Nd.mk wd a c ts o).In w' ∧ (Nd.mk wd a c ts o).Bl (w.heap.size ≤ ·)) ∧ Below w.heap.size w w' ∧ TsOut (TR s.data.toList wi) ts r ok)

/-- While trees are read: the row of those that are, what is left of the text. -/
structure TI (s : ByteArray) (wi : Bool) (w : World) (s' : ByteArray) (v : Value) (ts : List Nd) (wr : World) : Prop where
  row : NL w v ts wr
  len : ts.length + s'.size ≤ s.size
  tr : TR s.data.toList wi = (TR s'.data.toList wi).map fun p => (ts.map Nd.tn ++ p.1, p.2)
end Go.Proofs.YtnddkmccagiclaaGreatDoor
