/-
  What the calls of kind.holds (of kind.finer) and kind.Finer answer at two trees of which the first has at most a thousand levels.
-/
import Derived.Test.YtnddkmccagiclaaLotc66cf61471
import Derived.Deep.LoopGhost
namespace Go.Proofs.Ytnddkmccagiclaa
open Go.RowKit

set_option maxHeartbeats 1000000 in
theorem holds_33 (x y : Tr) (r : Bool) (w : World) (hx : x.In w) (hy : y.In w)
    (HC : Hid (∀ (rp : Option Addr) (w : World), x.In w → y.In w → Calls Try.prog 33 #[.agg #[.int .i64 x.k, .slice x.a x.l.length x.c], .agg #[.int .i64 y.k, .slice y.a y.l.length y.c], .int .i64 1000, .pointer rp] w fun e w' => e = .returned (.bool r) ∧ Below w.heap.size w w')) :
    Calls Try.prog 30 #[.func (.func 33) #[] #[], .agg #[.int .i64 x.k, .slice x.a x.l.length x.c], .agg #[.int .i64 y.k, .slice y.a y.l.length y.c]] w fun e w' => e = .returned (.bool r) ∧ Below w.heap.size w w' := by
  go_enter Try.func30, Try.ntmps30
  go_wp2_with fail
  refine (put_any (w.heap.size + 1 + 1) (.slice none 0 0) 0 [] x.k y.k x.a y.a x.l.length y.l.length x.c y.c none _ (by simp [go_sem]) (by simp [go_sem]) (World.ownsRow_nil _ _ _ _) (by omega)).mono ?_
  rintro e w1 ⟨rfl, g, cap, hc1, hf1, ho1, _, hk1⟩
  have hbw : Below w.heap.size w w1 := ((((Below.refl _ _).alloc (Nat.le_refl _) _).alloc (by simp) _).alloc (by simp; omega) _).trans ((hk1.below (by simp [Value.ownBlock]) (by simp)).mono (by omega))
  have hsz : w.heap.size + 1 + 1 < w1.heap.size := World.block_lt_of_cell? _ _ hc1
  have HO : Hid (Off (w.heap.size + 1 + 1) x y r 1 w1) := ⟨hf1, .inl ⟨rfl, g, cap, by simpa using hc1, by simpa using ho1⟩⟩
  clear hc1 hf1 ho1 hk1
  go_wp2_with fail
  go_loopg [] 1 (fun k wr => Hid (Off (w.heap.size + 1 + 1) x y r k wr) ∧ Below w.heap.size w wr)
  case atStart => exact ⟨HO, hbw⟩
  case round =>
    obtain ⟨HR, hbr⟩ := hrel
    obtain ⟨hfr, ⟨rfl, g, cap, hc, ho⟩ | ⟨rfl, rfl, a, cap, hc⟩⟩ := HR.out
    · have c0 := ho.cellAt 0 (by omega)
      have c1 := ho.cellAt 1 (by omega)
      have c2 := ho.cellAt 2 (by omega)
      have c3 := ho.cellAt 3 (by omega)
      have c4 := ho.cellAt 4 (by omega)
      simp only [List.getElem?_cons_zero, List.getElem?_cons_succ] at c0 c1 c2 c3 c4
      have hcap : 1 ≤ cap := by
        rcases ho.2 with ⟨h, _⟩ | ⟨g', cap', cur, h, _, _, h1, _⟩
        · cases h
        · cases h; exact h1
      have hgr : w.heap.size + 1 + 1 < g := by
        rcases ho.2 with ⟨h, _⟩ | ⟨g', cap', cur, h, h1, _⟩
        · cases h
        · cases h; exact h1
      have hlr : w.heap.size + 1 + 1 < wr.heap.size := World.block_lt_of_cell? _ _ hc
      clear ho HR HO
      go_wp2_with fail
      refine (empty_any (w.heap.size + 1 + 1) (some ⟨g, 0, none⟩) 1 cap _ hc).mono ?_
      rintro e w' ⟨rfl, rfl⟩
      go_wp2_with fail
      refine (take_any (w.heap.size + 1 + 1) g 0 cap x.k y.k x.a y.a x.l.length y.l.length x.c y.c none _ (by simpa using hc) hfr (by omega) (by omega) (by simpa using c0) (by simpa using c1) (by simpa using c2) (by simpa using c3) (by simpa using c4)).mono ?_
      rintro e w' ⟨rfl, rfl⟩
      go_wp2_with fail
      have hb3 : Below w.heap.size w (((w'.setCell ⟨w.heap.size + 1 + 1, 0, none⟩ (.slice (some ⟨g, 0, none⟩) 0 cap)).alloc (.cells #[.int .i64 x.k, .slice x.a x.l.length x.c, .int .i64 y.k, .slice y.a y.l.length y.c, .pointer none] 41)).alloc (.cells #[.int .i64 x.k, .slice x.a x.l.length x.c, .int .i64 y.k, .slice y.a y.l.length y.c, .pointer none] 41)) :=
        ((hbr.setCell (by simp; omega) _).alloc (by simp [World.setCell]; omega) _).alloc (by simp [World.setCell]; omega) _
      have hb4 := hb3.alloc (by simp [World.setCell]; omega) (.cells #[.int .i64 x.k, .slice x.a x.l.length x.c, .int .i64 y.k, .slice y.a y.l.length y.c, .pointer none] 41)
      refine (HC.out _ _ (hx.below hb4) (hy.below hb4)).mono ?_
      rintro e w5 ⟨rfl, hb5⟩
      have hb6 : Below w.heap.size w w5 := hb4.trans (hb5.mono (by simp [World.setCell]; omega))
      have hcR : w5.cell? ⟨w.heap.size + 1 + 1, 0, none⟩ = some (.slice (some ⟨g, 0, none⟩) 0 cap) := by
        refine cell_later hb5 (cell_later ((((Below.refl _ (w'.setCell ⟨w.heap.size + 1 + 1, 0, none⟩ (.slice (some ⟨g, 0, none⟩) 0 cap))).alloc (Nat.le_refl _) _).alloc (by simp) _).alloc (by simp; omega) _) ?_)
        exact World.cell?_setCell_same _ _ _ hc
      have hfR : w5.frozen? ⟨w.heap.size + 1 + 1, 0, none⟩ = false := by
        rw [hb5.frozen (p := ⟨w.heap.size + 1 + 1, 0, none⟩) (by simp [World.setCell]; omega)]
        simp [frozen?_alloc_cells, hfr]
      clear hb5 hb4 hb3 hc hfr c0 c1 c2 c3 c4
      cases r
      · go_wp2_with fail
        go_ret
        exact ⟨rfl, hb6⟩
      · go_wp2_with fail
        go_roundg 0
        case measure => omega
        case rel => exact ⟨⟨hfR, .inr ⟨rfl, rfl, _, _, hcR⟩⟩, hb6⟩
    · go_wp2_with fail
      refine (empty_any (w.heap.size + 1 + 1) a 0 cap _ hc).mono ?_
      rintro e w' ⟨rfl, rfl⟩
      go_wp2_with fail
      go_ret
      exact ⟨rfl, hbr⟩
set_option maxHeartbeats 400000 in
/-- kind.Finer. -/
theorem finer_whole (x y : Tr) (w : World) (hx : x.In w) (hy : y.In w) (hh : x.hgt ≤ 1000) (hs : x.sm) :
    Calls Try.prog 19 #[.agg #[.int .i64 x.k, .slice x.a x.l.length x.c], .agg #[.int .i64 y.k, .slice y.a y.l.length y.c]] w fun e w' => e = .returned (.bool (relY escFiner x.ty y.ty)) ∧ Below w.heap.size w w' := by
  obtain ⟨r, hr⟩ : ∃ r, relY escFiner x.ty y.ty = r := ⟨_, rfl⟩
  have HC : Hid (∀ (rp : Option Addr) (w : World), x.In w → y.In w → Calls Try.prog 33 #[.agg #[.int .i64 x.k, .slice x.a x.l.length x.c], .agg #[.int .i64 y.k, .slice y.a y.l.length y.c], .int .i64 1000, .pointer rp] w fun e w' => e = .returned (.bool r) ∧ Below w.heap.size w w') := by
    intro rp w h1 h2
    have h := finer_any 1000 (Nat.le_refl _) x y rp w h1 h2 hh hs
    rw [hr] at h
    exact h
  rw [hr]
  clear hr
  have HH : Hid (∀ (w : World), x.In w → y.In w → Calls Try.prog 30 #[.func (.func 33) #[] #[], .agg #[.int .i64 x.k, .slice x.a x.l.length x.c], .agg #[.int .i64 y.k, .slice y.a y.l.length y.c]] w fun e w' => e = .returned (.bool r) ∧ Below w.heap.size w w') := fun w h1 h2 => holds_33 x y r w h1 h2 HC
  clear HC
  go_enter Try.func19, Try.ntmps19
  go_wp2_with fail
  have hb0 : Below w.heap.size w ((w.alloc (Obj.cells #[.int .i64 x.k, .slice x.a x.l.length x.c] 24)).alloc (Obj.cells #[.int .i64 y.k, .slice y.a y.l.length y.c] 24)) := ((Below.refl _ _).alloc (Nat.le_refl _) _).alloc (by simp) _
  refine (HH.out _ (hx.below hb0) (hy.below hb0)).mono ?_
  rintro e w1 ⟨rfl, hb1⟩
  have hb2 := hb0.trans (hb1.mono (by simp; omega))
  clear hb0 hb1
  go_wp2_with fail
  go_ret
  exact ⟨rfl, hb2⟩

end Go.Proofs.Ytnddkmccagiclaa

/-
  What the calls of kind.join and kind.Join do at two right trees of which the first has no more levels than there is room for.
-/
namespace Go.Proofs.Ytnddkmccagiclaa
open Go.RowKit

/-- But for two cells of one block the memory that was there is as it was. -/
structure Wrote (ib io : Nat) (w w' : World) : Prop where
  os : w'.os = w.os
  tape : w'.tape = w.tape
  output : w'.output = w.output
  size : w.heap.size ≤ w'.heap.size
  block : ∀ k, k < w.heap.size → k ≠ ib → w'.heap[k]? = w.heap[k]?
  cell : ∀ o, o ≠ io → o ≠ io + 1 → w'.cell? ⟨ib, o, none⟩ = w.cell? ⟨ib, o, none⟩
  frozen : ∀ o, w'.frozen? ⟨ib, o, none⟩ = w.frozen? ⟨ib, o, none⟩

theorem Wrote.alloc {ib io : Nat} {w w' : World} (h : Wrote ib io w w') (hi : ib < w.heap.size) (o : Obj) : Wrote ib io w (w'.alloc o) :=
  have hs := h.size
  have hb : Below w'.heap.size w' (w'.alloc o) := (Below.refl _ _).alloc (Nat.le_refl _) o
  ⟨h.os, h.tape, h.output, by rw [World.size_alloc]; omega, fun k hk hne => (hb.block k (by omega)).trans (h.block k hk hne), fun q h0 h1 => (hb.cell (p := ⟨ib, q, none⟩) (by simp; omega)).trans (h.cell q h0 h1), fun q => (hb.frozen (p := ⟨ib, q, none⟩) (by simp; omega)).trans (h.frozen q)⟩

theorem Wrote.of_below {ib io : Nat} {w w' : World} (h : Below w.heap.size w w') (hi : ib < w.heap.size) : Wrote ib io w w' :=
  ⟨h.os, h.tape, h.output, h.size, fun k hk _ => h.block k hk, fun q _ _ => h.cell (p := ⟨ib, q, none⟩) hi, fun q => h.frozen (p := ⟨ib, q, none⟩) hi⟩

theorem Wrote.set {ib io : Nat} {w w' : World} (h : Wrote ib io w w') (u v : Value) : Wrote ib io w ((w'.setCell ⟨ib, io, none⟩ u).setCell ⟨ib, io + 1, none⟩ v) := by
  refine ⟨h.os, h.tape, h.output, ?_, fun k hk hne => ?_, fun q h0 h1 => ?_, fun q => ?_⟩
  · have hs := h.size
    simp only [World.setCell, Array.size_modify]; exact hs
  · rw [Below.heap_setCell _ _ _ _ hne, Below.heap_setCell _ _ _ _ hne]; exact h.block k hk hne
  · rw [World.cell?_setCell_other, World.cell?_setCell_other]
    · exact h.cell q h0 h1
    · intro e; simp only [Addr.mk.injEq] at e; omega
    · intro e; simp only [Addr.mk.injEq] at e; omega
  · rw [World.frozen?_setCell, World.frozen?_setCell]; exact h.frozen q

theorem set_cells {ib io : Nat} {w : World} {u v u' v' : Value} (h0 : w.cell? ⟨ib, io, none⟩ = some u') (h1 : w.cell? ⟨ib, io + 1, none⟩ = some v') :
    ((w.setCell ⟨ib, io, none⟩ u).setCell ⟨ib, io + 1, none⟩ v).cell? ⟨ib, io, none⟩ = some u ∧ ((w.setCell ⟨ib, io, none⟩ u).setCell ⟨ib, io + 1, none⟩ v).cell? ⟨ib, io + 1, none⟩ = some v := by
  have hne : (⟨ib, io + 1, none⟩ : Addr) ≠ ⟨ib, io, none⟩ := by intro e; simp only [Addr.mk.injEq] at e; omega
  constructor
  · rw [World.cell?_setCell_other _ _ _ _ hne]; exact World.cell?_setCell_same _ _ _ h0
  · refine World.cell?_setCell_same _ _ _ (u := v') ?_
    rw [World.cell?_setCell_other _ _ _ _ (Ne.symm hne)]; exact h1

/-- What the call of join leaves: what both say, in new memory, but for the two cells that it was to be written into. -/
def Joined (x y : Tr) (ib io : Nat) (w w' : World) : Prop :=
  ∃ t : Tr, t.ty = joinY x.ty y.ty ∧ t.In w' ∧ t.Bl (w.heap.size ≤ ·) ∧ w'.cell? ⟨ib, io, none⟩ = some (.int .i64 t.k) ∧ w'.cell? ⟨ib, io + 1, none⟩ = some (.slice t.a t.l.length t.c) ∧ Wrote ib io w w'

/-- The two parts while they are made. -/
def JI (W1 : World) (P : Nat) (x0 x1 y0 y1 : Tr) (j : Nat) (wr : World) : Prop :=
  Below P W1 wr ∧ (∀ o, wr.frozen? ⟨P, o, none⟩ = false) ∧ ∃ s0 s1 : Tr, s0.In wr ∧ s1.In wr ∧ s0.Bl (P < ·) ∧ s1.Bl (P < ·) ∧
    wr.cell? ⟨P, 0, none⟩ = some (.int .i64 s0.k) ∧ wr.cell? ⟨P, 1, none⟩ = some (.slice s0.a s0.l.length s0.c) ∧ wr.cell? ⟨P, 2, none⟩ = some (.int .i64 s1.k) ∧ wr.cell? ⟨P, 3, none⟩ = some (.slice s1.a s1.l.length s1.c) ∧
    (0 < j → s0.ty = joinY x0.ty y0.ty) ∧ (1 < j → s1.ty = joinY x1.ty y1.ty) ∧ (j ≤ 0 → s0 = leaf 0) ∧ (j ≤ 1 → s1 = leaf 0)

theorem Wrote.under {ib io : Nat} {w w' : World} (h : Wrote ib io w w') (hi : ib ≤ w.heap.size) : Below ib w w' :=
  ⟨h.os, h.tape, h.output, h.size, fun k hk => h.block k (by omega) (by omega)⟩

theorem Joined.under {x y : Tr} {P io : Nat} {w w' : World} (h : Joined x y P io w.drew w') (hP : P ≤ w.heap.size) : Below P w w' := by
  obtain ⟨_, _, _, _, _, _, hw⟩ := h
  exact ((Below.refl _ _).drew).trans (hw.under hP)

/-- What lies in other blocks stays. -/
theorem Wrote.keeps {ib io : Nat} {w w' : World} (h : Wrote ib io w w') {t : Tr} (hin : t.In w) (hne : t.Bl (· ≠ ib)) : t.In w' := by
  refine hin.congr (P := fun b => b < w.heap.size ∧ b ≠ ib) ?_ (hin.bl.and hne)
  rintro b ⟨hb, hn⟩ o
  exact World.cell?_of_block (a := ⟨b, o, none⟩) (h.block b hb hn)

theorem JI.start {W1 : World} {x0 x1 y0 y1 : Tr} : JI W1 W1.heap.size x0 x1 y0 y1 0 (W1.alloc (.cells #[.int .i64 0, .slice none 0 0, .int .i64 0, .slice none 0 0] 24)) := by
  refine ⟨(Below.refl _ _).alloc (Nat.le_refl _) _, fun o => by simp [go_sem], leaf 0, leaf 0, leaf_in _ _, leaf_in _ _, leaf_bl _ _, leaf_bl _ _, by simp [go_sem, leaf], by simp [go_sem, leaf], by simp [go_sem, leaf], by simp [go_sem, leaf], fun h => absurd h (by omega), fun h => absurd h (by omega), fun _ => rfl, fun _ => rfl⟩

theorem JI.step0 {W1 wr w2 : World} {P : Nat} {x0 x1 y0 y1 : Tr} (h : JI W1 P x0 x1 y0 y1 0 wr) (hj : Joined x0 y0 P 0 wr.drew w2) : JI W1 P x0 x1 y0 y1 1 w2 := by
  obtain ⟨hb, hf, s0, s1, i0, i1, b0, b1, c0, c1, c2, c3, t0, t1, z0, z1⟩ := h
  obtain ⟨t, ht, hin, hbl, d0, d1, hw⟩ := hj
  have hP : P < wr.heap.size := World.block_lt_of_cell? _ _ c0
  refine ⟨hb.drew.trans (hw.under (Nat.le_of_lt hP)), fun o => (hw.frozen o).trans (hf o), t, s1, hin, hw.keeps (w := wr.drew) (i1.below ((Below.refl _ _).drew)) (b1.mono fun b hb => by omega), hbl.mono (fun b hb => Nat.lt_of_lt_of_le hP hb), b1, d0, d1, (hw.cell 2 (by omega) (by omega)).trans c2, (hw.cell 3 (by omega) (by omega)).trans c3, fun _ => ht, fun h => absurd h (by omega), fun h => absurd h (by omega), fun _ => z1 (by omega)⟩

theorem JI.step1 {W1 wr w2 : World} {P : Nat} {x0 x1 y0 y1 : Tr} (h : JI W1 P x0 x1 y0 y1 1 wr) (hj : Joined x1 y1 P 2 wr.drew w2) : JI W1 P x0 x1 y0 y1 2 w2 := by
  obtain ⟨hb, hf, s0, s1, i0, i1, b0, b1, c0, c1, c2, c3, t0, t1, z0, z1⟩ := h
  obtain ⟨t, ht, hin, hbl, d0, d1, hw⟩ := hj
  have hP : P < wr.heap.size := World.block_lt_of_cell? _ _ c0
  refine ⟨hb.drew.trans (hw.under (Nat.le_of_lt hP)), fun o => (hw.frozen o).trans (hf o), s0, t, hw.keeps (w := wr.drew) (i0.below ((Below.refl _ _).drew)) (b0.mono fun b hb => by omega), hin, b0, hbl.mono (fun b hb => Nat.lt_of_lt_of_le hP hb), (hw.cell 0 (by omega) (by omega)).trans c0, (hw.cell 1 (by omega) (by omega)).trans c1, d0, d1, fun _ => t0 (by omega), fun _ => ht, fun h => absurd h (by omega), fun h => absurd h (by omega)⟩

theorem Try.info24 : (Try.prog.info? 24).map (fun i => (i.zero, i.size, i.bytes)) = some (some (.agg #[.int .i64 0, .slice none 0 0]), 2, 32) := by kernel_rfl

theorem make0 (w : World) : (Instr.makeSlice 22 (.int .i64 0) (.int .i64 0)).run Try.prog w = .ok (.slice (some ⟨w.heap.size, 0, none⟩) 0 0) (w.alloc (.cells #[] 24)) := by
  obtain ⟨i0, hi0, hz0, hz1, hz2⟩ := info_parts Try.info24
  have h := run_make (P := Try.prog) w 22 24 i0 _ Try.underlying22 hi0 hz0 .i64 .i64 0 0 (by omega) (by omega) (by omega) (by omega)
  rw [h, hz1]
  have e : madeCells (Value.agg #[.int .i64 0, .slice none 0 0]).cells (Int.toNat 0 * 2) = #[] := by
    apply Array.ext'
    simp [madeCells, Array.range_zero']
  rw [e]
  rfl

theorem make2 (w : World) : (Instr.makeSlice 22 (.int .i64 2) (.int .i64 2)).run Try.prog w = .ok (.slice (some ⟨w.heap.size, 0, none⟩) 2 2) (w.alloc (.cells #[.int .i64 0, .slice none 0 0, .int .i64 0, .slice none 0 0] 24)) := by
  obtain ⟨i0, hi0, hz0, hz1, hz2⟩ := info_parts Try.info24
  have h := run_make (P := Try.prog) w 22 24 i0 _ Try.underlying22 hi0 hz0 .i64 .i64 2 2 (by omega) (by omega) (by rw [hz2]; omega) (by omega)
  rw [h, hz1]
  have e : madeCells (Value.agg #[.int .i64 0, .slice none 0 0]).cells (Int.toNat 2 * 2) = #[.int .i64 0, .slice none 0 0, .int .i64 0, .slice none 0 0] := by
    apply Array.ext'
    simp [madeCells, Value.cells, List.range_succ]
  rw [e]
  rfl

set_option maxHeartbeats 400000 in
theorem join_diff (n : Nat) (hn : n ≤ 1000) (k k' : Int) (hk : (k != k') = true) (a a' p rp : Option Addr) (m m' c c' : Nat) (w : World) :
    Calls Try.prog 36 #[.agg #[.int .i64 k, .slice a m c, .int .i64 k', .slice a' m' c', .pointer p], .int .i64 ((n : Int) + 1), .pointer rp] w fun e w' => e = .returned (.tuple #[]) ∧ w' = w.alloc (.cells #[.int .i64 k, .slice a m c, .int .i64 k', .slice a' m' c', .pointer p] 41) := by
  have hz : (((n : Int) + 1) == 0) = false := by simp; omega
  go_enter Try.func36, Try.ntmps36
  go_wp2_with fail
  exact bodyPost_ret (v := .tuple #[]) (by simp [results, Try.results36, go_sem]) rfl ⟨rfl, rfl⟩

set_option maxHeartbeats 400000 in
theorem join_leaf (n : Nat) (hn : n ≤ 1000) (k : Int) (a a' rp : Option Addr) (c c' ib io : Nat) (w : World) (z0 : w.cell? ⟨ib, io, none⟩ = some (.int .i64 0)) (z1 : w.cell? ⟨ib, io + 1, none⟩ = some (.slice none 0 0)) (f0 : w.frozen? ⟨ib, io, none⟩ = false) (f1 : w.frozen? ⟨ib, io + 1, none⟩ = false) :
    Calls Try.prog 36 #[.agg #[.int .i64 k, .slice a 0 c, .int .i64 k, .slice a' 0 c', .pointer (some ⟨ib, io, none⟩)], .int .i64 ((n : Int) + 1), .pointer rp] w fun e w' => e = .returned (.tuple #[]) ∧ ∃ g, w'.cell? ⟨ib, io, none⟩ = some (.int .i64 k) ∧ w'.cell? ⟨ib, io + 1, none⟩ = some (.slice (some ⟨g, 0, none⟩) 0 0) ∧ Wrote ib io w w' := by
  have hz : (((n : Int) + 1) == 0) = false := by simp; omega
  have lb : ib < w.heap.size := World.block_lt_of_cell? _ _ z0
  have hmk := make0
  go_enter Try.func36, Try.ntmps36
  go_wp2_with fail
  go_loopw [32] (fun i wr => i = .int .i64 0 ∧ wr = (w.alloc (.cells #[.int .i64 k, .slice a 0 c, .int .i64 k, .slice a' 0 c', .pointer (some ⟨ib, io, none⟩)] 41)).alloc (.cells #[] 24)) (fun _ _ => 0)
  case atStart => exact ⟨rfl, rfl⟩
  case round =>
    obtain ⟨rfl, rfl⟩ := hrel
    go_wp2_with fail
    go_end0
    refine ⟨rfl, w.heap.size + 1, ?_, ?_, ((Wrote.of_below (Below.refl _ _) lb).set _ _).alloc lb _ |>.alloc lb _⟩
    · refine cell_later (((Below.refl _ _).alloc (Nat.le_refl _) _).alloc (by simp) _) (set_cells z0 z1).1
    · refine cell_later (((Below.refl _ _).alloc (Nat.le_refl _) _).alloc (by simp) _) (set_cells z0 z1).2
set_option maxHeartbeats 1000000 in
theorem join_fun (n : Nat) (hn : n ≤ 1000) (rp : Option Addr) (bx ox by' oy c c' ib io : Nat) (x0 x1 y0 y1 : Tr) (w : World) (z0 : w.cell? ⟨ib, io, none⟩ = some (.int .i64 0)) (z1 : w.cell? ⟨ib, io + 1, none⟩ = some (.slice none 0 0)) (f0 : w.frozen? ⟨ib, io, none⟩ = false) (f1 : w.frozen? ⟨ib, io + 1, none⟩ = false)
    (cx0 : w.cell? ⟨bx, ox, none⟩ = some (.int .i64 x0.k)) (cx1 : w.cell? ⟨bx, ox + 1, none⟩ = some (.slice x0.a x0.l.length x0.c)) (cx2 : w.cell? ⟨bx, ox + 2, none⟩ = some (.int .i64 x1.k)) (cx3 : w.cell? ⟨bx, ox + 3, none⟩ = some (.slice x1.a x1.l.length x1.c))
    (cy0 : w.cell? ⟨by', oy, none⟩ = some (.int .i64 y0.k)) (cy1 : w.cell? ⟨by', oy + 1, none⟩ = some (.slice y0.a y0.l.length y0.c)) (cy2 : w.cell? ⟨by', oy + 2, none⟩ = some (.int .i64 y1.k)) (cy3 : w.cell? ⟨by', oy + 3, none⟩ = some (.slice y1.a y1.l.length y1.c))
    (H0 : Hid (∀ (P : Nat) (W : World), w.heap.size ≤ P → Below w.heap.size w W → W.cell? ⟨P, 0, none⟩ = some (.int .i64 0) → W.cell? ⟨P, 0 + 1, none⟩ = some (.slice none 0 0) → (∀ o, W.frozen? ⟨P, o, none⟩ = false) → Calls Try.prog 36 #[.agg #[.int .i64 x0.k, .slice x0.a x0.l.length x0.c, .int .i64 y0.k, .slice y0.a y0.l.length y0.c, .pointer (some ⟨P, 0, none⟩)], .int .i64 (n : Int), .pointer rp] W fun e w' => e = .returned (.tuple #[]) ∧ Joined x0 y0 P 0 W w'))
    (H1 : Hid (∀ (P : Nat) (W : World), w.heap.size ≤ P → Below w.heap.size w W → W.cell? ⟨P, 2, none⟩ = some (.int .i64 0) → W.cell? ⟨P, 2 + 1, none⟩ = some (.slice none 0 0) → (∀ o, W.frozen? ⟨P, o, none⟩ = false) → Calls Try.prog 36 #[.agg #[.int .i64 x1.k, .slice x1.a x1.l.length x1.c, .int .i64 y1.k, .slice y1.a y1.l.length y1.c, .pointer (some ⟨P, 2, none⟩)], .int .i64 (n : Int), .pointer rp] W fun e w' => e = .returned (.tuple #[]) ∧ Joined x1 y1 P 2 W w')) :
    Calls Try.prog 36 #[.agg #[.int .i64 3, .slice (some ⟨bx, ox, none⟩) 2 c, .int .i64 3, .slice (some ⟨by', oy, none⟩) 2 c', .pointer (some ⟨ib, io, none⟩)], .int .i64 ((n : Int) + 1), .pointer rp] w fun e w' => e = .returned (.tuple #[]) ∧ ∃ W1 wr P, w.heap.size ≤ P ∧ Below w.heap.size w wr ∧ JI W1 P x0 x1 y0 y1 2 wr ∧ w' = (wr.setCell ⟨ib, io, none⟩ (.int .i64 3)).setCell ⟨ib, io + 1, none⟩ (.slice (some ⟨P, 0, none⟩) 2 2) := by
  have hz : (((n : Int) + 1) == 0) = false := by simp; omega
  have lb : ib < w.heap.size := World.block_lt_of_cell? _ _ z0
  have lbx : bx < w.heap.size := World.block_lt_of_cell? _ _ cx0
  have lby : by' < w.heap.size := World.block_lt_of_cell? _ _ cy0
  have hmk := make2
  have hwr : IntKind.i64.wrap (n : Int) = (n : Int) := by rw [IntKind.wrap_i64]; omega
  go_enter Try.func36, Try.ntmps36
  go_wp2_with fail
  go_loopg [32] 2 (fun k i wr => ∃ j : Nat, k + j = 2 ∧ i = .int .i64 (j : Int) ∧ JI (w.alloc (.cells #[.int .i64 3, .slice (some ⟨bx, ox, none⟩) 2 c, .int .i64 3, .slice (some ⟨by', oy, none⟩) 2 c', .pointer (some ⟨ib, io, none⟩)] 41)) (w.heap.size + 1) x0 x1 y0 y1 j wr)
  case atStart => exact ⟨0, rfl, rfl, by simpa using JI.start (W1 := w.alloc (.cells #[.int .i64 3, .slice (some ⟨bx, ox, none⟩) 2 c, .int .i64 3, .slice (some ⟨by', oy, none⟩) 2 c', .pointer (some ⟨ib, io, none⟩)] 41)) (x0 := x0) (x1 := x1) (y0 := y0) (y1 := y1)⟩
  case round =>
    obtain ⟨j, hj, rfl, hji⟩ := hrel
    have HJ : Hid (JI (w.alloc (.cells #[.int .i64 3, .slice (some ⟨bx, ox, none⟩) 2 c, .int .i64 3, .slice (some ⟨by', oy, none⟩) 2 c', .pointer (some ⟨ib, io, none⟩)] 41)) (w.heap.size + 1) x0 x1 y0 y1 j wr) := hji
    obtain ⟨hb, hf, s0, s1, i0, i1, b0, b1, d0, d1, d2, d3, t0, t1, e0, e1⟩ := hji
    have hbw : Below w.heap.size w wr := ((Below.refl _ _).alloc (Nat.le_refl _) _).trans (hb.mono (by omega))
    have q1 : wr.cell? ⟨w.heap.size, 1, none⟩ = some (.slice (some ⟨bx, ox, none⟩) 2 c) := by rw [hb.cell (p := ⟨w.heap.size, 1, none⟩) (by simp)]; simp [go_sem]
    have q3 : wr.cell? ⟨w.heap.size, 3, none⟩ = some (.slice (some ⟨by', oy, none⟩) 2 c') := by rw [hb.cell (p := ⟨w.heap.size, 3, none⟩) (by simp)]; simp [go_sem]
    have q4 : wr.cell? ⟨w.heap.size, 4, none⟩ = some (.pointer (some ⟨ib, io, none⟩)) := by rw [hb.cell (p := ⟨w.heap.size, 4, none⟩) (by simp)]; simp [go_sem]
    have q0 : wr.cell? ⟨w.heap.size, 0, none⟩ = some (.int .i64 3) := by rw [hb.cell (p := ⟨w.heap.size, 0, none⟩) (by simp)]; simp [go_sem]
    replace cx0 := cell_later hbw cx0
    replace cx1 := cell_later hbw cx1
    replace cx2 := cell_later hbw cx2
    replace cx3 := cell_later hbw cx3
    replace cy0 := cell_later hbw cy0
    replace cy1 := cell_later hbw cy1
    replace cy2 := cell_later hbw cy2
    replace cy3 := cell_later hbw cy3
    have hP : w.heap.size + 1 ≤ wr.heap.size := Nat.le_of_lt (World.block_lt_of_cell? _ _ d0)
    obtain rfl | rfl | rfl : j = 0 ∨ j = 1 ∨ j = 2 := by omega
    · obtain rfl := e0 (by omega)
      have HG : Hid ((wr.drew.cell? ⟨w.heap.size + 1, 0, none⟩ = some (.int .i64 0)) ∧ (wr.drew.cell? ⟨w.heap.size + 1, 0 + 1, none⟩ = some (.slice none 0 0)) ∧ ∀ o, wr.drew.frozen? ⟨w.heap.size + 1, o, none⟩ = false) := ⟨d0, d1, hf⟩
      clear hf i0 i1 b0 b1 d0 d1 d2 d3 t0 t1 e0 e1 z0 z1 f0 f1 q0 q4
      go_wp2_with fail
      go_region_held3 (fun w' => w'.cell? ⟨w.heap.size, 1, none⟩ = some (.slice (some ⟨bx, ox, none⟩) 2 c) ∧ w'.cell? ⟨w.heap.size, 3, none⟩ = some (.slice (some ⟨by', oy, none⟩) 2 c') ∧ w'.cell? ⟨bx, ox, none⟩ = some (.int .i64 x0.k) ∧ w'.cell? ⟨bx, ox + 1, none⟩ = some (.slice x0.a x0.l.length x0.c) ∧ w'.cell? ⟨by', oy, none⟩ = some (.int .i64 y0.k) ∧ w'.cell? ⟨by', oy + 1, none⟩ = some (.slice y0.a y0.l.length y0.c))
        (first
          | exact ⟨(hu.cell (p := ⟨w.heap.size, 1, none⟩) (by simp)).trans q1, (hu.cell (p := ⟨w.heap.size, 3, none⟩) (by simp)).trans q3, (hu.cell (p := ⟨bx, _, none⟩) (Nat.lt_succ_of_lt lbx)).trans cx0, (hu.cell (p := ⟨bx, _, none⟩) (Nat.lt_succ_of_lt lbx)).trans cx1, (hu.cell (p := ⟨by', _, none⟩) (Nat.lt_succ_of_lt lby)).trans cy0, (hu.cell (p := ⟨by', _, none⟩) (Nat.lt_succ_of_lt lby)).trans cy1⟩
          | go_keep)
        (first
          | (go_at_call 36; refine (H0.out _ _ (Nat.le_succ _) hbw.drew HG.out.1 HG.out.2.1 HG.out.2.2).mono ?_; rintro e w2 ⟨rfl, hj2⟩; have hu := hj2.under hP))
      have HJ2 : Hid (JI (w.alloc (.cells #[.int .i64 3, .slice (some ⟨bx, ox, none⟩) 2 c, .int .i64 3, .slice (some ⟨by', oy, none⟩) 2 c', .pointer (some ⟨ib, io, none⟩)] 41)) (w.heap.size + 1) x0 x1 y0 y1 1 w2) := JI.step0 HJ.out hj2
      clear hj2
      go_wp2_with fail
      go_roundg 1
      case measure => omega
      case rel => exact ⟨1, rfl, rfl, HJ2⟩
    · obtain rfl := e1 (by omega)
      have HG : Hid ((wr.drew.cell? ⟨w.heap.size + 1, 2, none⟩ = some (.int .i64 0)) ∧ (wr.drew.cell? ⟨w.heap.size + 1, 2 + 1, none⟩ = some (.slice none 0 0)) ∧ ∀ o, wr.drew.frozen? ⟨w.heap.size + 1, o, none⟩ = false) := ⟨d2, d3, hf⟩
      clear hf i0 i1 b0 b1 d0 d1 d2 d3 t0 t1 e0 e1 z0 z1 f0 f1 q0 q4
      go_wp2_with fail
      go_region_held3 (fun w' => w'.cell? ⟨w.heap.size, 1, none⟩ = some (.slice (some ⟨bx, ox, none⟩) 2 c) ∧ w'.cell? ⟨w.heap.size, 3, none⟩ = some (.slice (some ⟨by', oy, none⟩) 2 c') ∧ w'.cell? ⟨bx, ox + 2, none⟩ = some (.int .i64 x1.k) ∧ w'.cell? ⟨bx, ox + 3, none⟩ = some (.slice x1.a x1.l.length x1.c) ∧ w'.cell? ⟨by', oy + 2, none⟩ = some (.int .i64 y1.k) ∧ w'.cell? ⟨by', oy + 3, none⟩ = some (.slice y1.a y1.l.length y1.c))
        (first
          | exact ⟨(hu.cell (p := ⟨w.heap.size, 1, none⟩) (by simp)).trans q1, (hu.cell (p := ⟨w.heap.size, 3, none⟩) (by simp)).trans q3, (hu.cell (p := ⟨bx, _, none⟩) (Nat.lt_succ_of_lt lbx)).trans cx2, (hu.cell (p := ⟨bx, _, none⟩) (Nat.lt_succ_of_lt lbx)).trans cx3, (hu.cell (p := ⟨by', _, none⟩) (Nat.lt_succ_of_lt lby)).trans cy2, (hu.cell (p := ⟨by', _, none⟩) (Nat.lt_succ_of_lt lby)).trans cy3⟩
          | go_keep)
        (first
          | (go_at_call 36; refine (H1.out _ _ (Nat.le_succ _) hbw.drew HG.out.1 HG.out.2.1 HG.out.2.2).mono ?_; rintro e w2 ⟨rfl, hj2⟩; have hu := hj2.under hP))
      have HJ2 : Hid (JI (w.alloc (.cells #[.int .i64 3, .slice (some ⟨bx, ox, none⟩) 2 c, .int .i64 3, .slice (some ⟨by', oy, none⟩) 2 c', .pointer (some ⟨ib, io, none⟩)] 41)) (w.heap.size + 1) x0 x1 y0 y1 2 w2) := JI.step1 HJ.out hj2
      clear hj2
      go_wp2_with fail
      go_roundg 0
      case measure => omega
      case rel => exact ⟨2, rfl, rfl, HJ2⟩
    · have zz0 := cell_later hbw z0
      have zz1 := cell_later hbw z1
      have ff0 : wr.frozen? ⟨ib, io, none⟩ = false := (hbw.frozen (p := ⟨ib, io, none⟩) lb).trans f0
      have ff1 : wr.frozen? ⟨ib, io + 1, none⟩ = false := (hbw.frozen (p := ⟨ib, io + 1, none⟩) lb).trans f1
      clear hf i0 i1 b0 b1 d0 d1 d2 d3 t0 t1 e0 e1 z0 z1 f0 f1
      go_wp2_with fail
      go_end0
      exact ⟨rfl, _, _, _, Nat.le_succ _, hbw, HJ.out, rfl⟩
end Go.Proofs.Ytnddkmccagiclaa

/-
  What the calls of kind.join and kind.Join answer at two right trees of which the first has at most a thousand levels.
-/
namespace Go.Proofs.Ytnddkmccagiclaa
open Go.RowKit

theorem set_keeps {ib io : Nat} {w : World} {u v : Value} {t : Tr} (hin : t.In w) (hne : t.Bl (· ≠ ib)) : t.In ((w.setCell ⟨ib, io, none⟩ u).setCell ⟨ib, io + 1, none⟩ v) := by
  refine hin.congr (P := (· ≠ ib)) ?_ hne
  intro b hb o
  rw [World.cell?_setCell_other, World.cell?_setCell_other]
  · intro e; simp only [Addr.mk.injEq] at e; omega
  · intro e; simp only [Addr.mk.injEq] at e; omega

theorem Joined.of_parts {x y x0 x1 y0 y1 : Tr} {ib io P : Nat} {w wr W1 : World} (hx : x.l = [x0, x1]) (hy : y.l = [y0, y1]) (kx : x.k = 3) (ky : y.k = 3) (hib : ib < w.heap.size) (hP : w.heap.size ≤ P) (hb : Below w.heap.size w wr) (h : JI W1 P x0 x1 y0 y1 2 wr)
    (z0 : w.cell? ⟨ib, io, none⟩ = some (.int .i64 0)) (z1 : w.cell? ⟨ib, io + 1, none⟩ = some (.slice none 0 0)) :
    Joined x y ib io w ((wr.setCell ⟨ib, io, none⟩ (.int .i64 3)).setCell ⟨ib, io + 1, none⟩ (.slice (some ⟨P, 0, none⟩) 2 2)) := by
  obtain ⟨_, hf, s0, s1, i0, i1, b0, b1, d0, d1, d2, d3, t0, t1, _, _⟩ := h
  have hc := set_cells (u := .int .i64 3) (v := .slice (some ⟨P, 0, none⟩) 2 2) (cell_later hb z0) (cell_later hb z1)
  have hcell : ∀ o, ((wr.setCell ⟨ib, io, none⟩ (.int .i64 3)).setCell ⟨ib, io + 1, none⟩ (.slice (some ⟨P, 0, none⟩) 2 2)).cell? ⟨P, o, none⟩ = wr.cell? ⟨P, o, none⟩ := by
    intro o
    rw [World.cell?_setCell_other, World.cell?_setCell_other]
    · intro e; simp only [Addr.mk.injEq] at e; omega
    · intro e; simp only [Addr.mk.injEq] at e; omega
  refine ⟨.mk 3 (some ⟨P, 0, none⟩) 2 [s0, s1], ?_, ?_, ?_, hc.1, hc.2, (Wrote.of_below hb hib).set _ _⟩
  · obtain ⟨k, a, c, l⟩ := x
    obtain ⟨k', a', c', l'⟩ := y
    dsimp only at hx hy kx ky
    subst hx hy kx ky
    simp [Tr.ty_mk, joinY_mk, joinL, t0 (by omega), t1 (by omega)]
  · exact Tr.In_two (by rw [hcell]; exact d0) (by rw [hcell]; exact d1) (by rw [hcell]; exact d2) (by rw [hcell]; exact d3) (set_keeps i0 (b0.mono fun b hb => by omega)) (set_keeps i1 (b1.mono fun b hb => by omega))
  · exact Tr.Bl_two hP (b0.mono fun b hb => by omega) (b1.mono fun b hb => by omega)

theorem Joined.of_diff {x y : Tr} {ib io : Nat} {w w' : World} (hk : x.k ≠ y.k) (hib : ib < w.heap.size) (hb : Below w.heap.size w w') (z0 : w.cell? ⟨ib, io, none⟩ = some (.int .i64 0)) (z1 : w.cell? ⟨ib, io + 1, none⟩ = some (.slice none 0 0)) : Joined x y ib io w w' := by
  refine ⟨leaf 0, ?_, leaf_in _ _, leaf_bl _ _, cell_later hb z0, cell_later hb z1, Wrote.of_below hb hib⟩
  obtain ⟨k, a, c, l⟩ := x
  obtain ⟨k', a', c', l'⟩ := y
  dsimp only at hk
  simp [leaf, Tr.ty_mk, joinY_mk, if_neg hk]

theorem join_any (n : Nat) : n ≤ 1000 → ∀ (x y : Tr) (rp : Option Addr) (ib io : Nat) (w : World), x.In w → y.In w → x.right → y.right → x.hgt ≤ n → w.cell? ⟨ib, io, none⟩ = some (.int .i64 0) → w.cell? ⟨ib, io + 1, none⟩ = some (.slice none 0 0) → w.frozen? ⟨ib, io, none⟩ = false → w.frozen? ⟨ib, io + 1, none⟩ = false →
    Calls Try.prog 36 #[.agg #[.int .i64 x.k, .slice x.a x.l.length x.c, .int .i64 y.k, .slice y.a y.l.length y.c, .pointer (some ⟨ib, io, none⟩)], .int .i64 (n : Int), .pointer rp] w fun e w' => e = .returned (.tuple #[]) ∧ Joined x y ib io w w' := by
  induction n with
  | zero =>
    intro _ x y rp ib io w _ _ _ _ h
    have := x.hgt_pos
    omega
  | succ n ih =>
    intro hn x y rp ib io w hx hy rx ry hh z0 z1 f0 f1
    have lb : ib < w.heap.size := World.block_lt_of_cell? _ _ z0
    have e : ((n + 1 : Nat) : Int) = (n : Int) + 1 := by omega
    rw [e]
    by_cases hk : x.k = y.k
    · rcases rx.cases with ⟨lx, kx⟩ | ⟨x0, x1, lx, kx, r0, r1⟩
      · rcases ry.cases with ⟨ly, ky⟩ | ⟨y0, y1, ly, ky, _, _⟩
        · rw [lx, ly, ← hk]
          refine (join_leaf n (by omega) x.k x.a y.a rp x.c y.c ib io w z0 z1 f0 f1).mono ?_
          rintro e w' ⟨rfl, g, c0, c1, hw⟩
          refine ⟨rfl, .mk x.k (some ⟨g, 0, none⟩) 0 [], ?_, Tr.In_nil _ _ _ _, Tr.Bl_nil _ _ _ _, c0, c1, hw⟩
          obtain ⟨k, a, c, l⟩ := x
          obtain ⟨k', a', c', l'⟩ := y
          dsimp only at lx ly hk
          subst lx ly hk
          simp [Tr.ty_mk, joinY_mk, joinL]
        · omega
      · rcases ry.cases with ⟨ly, ky⟩ | ⟨y0, y1, ly, ky, q0, q1⟩
        · omega
        · obtain ⟨bx, ox, ax, cx0, cx1, hx0⟩ := hx.part 0 (by simp [lx])
          obtain ⟨bx', ox', ax', cx2, cx3, hx1⟩ := hx.part 1 (by simp [lx])
          obtain ⟨by', oy, ay, cy0, cy1, hy0⟩ := hy.part 0 (by simp [ly])
          obtain ⟨by'', oy', ay', cy2, cy3, hy1⟩ := hy.part 1 (by simp [ly])
          have hg0 := Tr.hgt_part hh 0 (by simp [lx])
          have hg1 := Tr.hgt_part hh 1 (by simp [lx])
          rw [ax] at ax'
          rw [ay] at ay'
          obtain ⟨rfl, rfl⟩ : bx = bx' ∧ ox = ox' := by simpa using ax'
          obtain ⟨rfl, rfl⟩ : by' = by'' ∧ oy = oy' := by simpa using ay'
          simp only [lx, List.getElem_cons_zero, List.getElem_cons_succ] at cx0 cx1 cx2 cx3 hx0 hx1 hg0 hg1
          simp only [ly, List.getElem_cons_zero, List.getElem_cons_succ] at cy0 cy1 cy2 cy3 hy0 hy1
          rw [ax, ay, lx, ly, kx, ky]
          refine (join_fun n (by omega) rp bx ox by' oy x.c y.c ib io x0 x1 y0 y1 w z0 z1 f0 f1 (by simpa using cx0) (by simpa using cx1) (by simpa using cx2) (by simpa using cx3) (by simpa using cy0) (by simpa using cy1) (by simpa using cy2) (by simpa using cy3)
            (fun P W _ hb g0 g1 gf => ih (by omega) x0 y0 rp P 0 W (hx0.below hb) (hy0.below hb) r0 q0 hg0 g0 g1 (gf _) (gf _))
            (fun P W _ hb g0 g1 gf => ih (by omega) x1 y1 rp P 2 W (hx1.below hb) (hy1.below hb) r1 q1 hg1 g0 g1 (gf _) (gf _))).mono ?_
          rintro e w' ⟨rfl, W1, wr, P, hP, hb, hji, rfl⟩
          exact ⟨rfl, Joined.of_parts lx ly kx ky lb hP hb hji z0 z1⟩
    · refine (join_diff n (by omega) x.k y.k (by simpa using hk) x.a y.a (some ⟨ib, io, none⟩) rp x.l.length y.l.length x.c y.c w).mono ?_
      rintro e w' ⟨rfl, rfl⟩
      exact ⟨rfl, Joined.of_diff hk lb ((Below.refl _ _).alloc (Nat.le_refl _) _) z0 z1⟩
end Go.Proofs.Ytnddkmccagiclaa

/-
  What the call of kind.Join answers at two right trees of which the first has at most a thousand levels.
-/
namespace Go.Proofs.Ytnddkmccagiclaa
open Go.RowKit

/-- The list that is put off, and what is joined: the one pair, or none. -/
def OffJ (R : Nat) (x y : Tr) (k : Nat) (wr : World) : Prop :=
  wr.frozen? ⟨R + 1, 0, none⟩ = false ∧ wr.frozen? ⟨R, 0, none⟩ = false ∧ wr.frozen? ⟨R, 1, none⟩ = false ∧
  ((k = 1 ∧ wr.cell? ⟨R, 0, none⟩ = some (.int .i64 0) ∧ wr.cell? ⟨R, 1, none⟩ = some (.slice none 0 0) ∧ ∃ g cap, wr.cell? ⟨R + 1, 0, none⟩ = some (.slice (some ⟨g, 0, none⟩) 1 cap) ∧ wr.ownsRow (R + 2) 41 5 (.slice (some ⟨g, 0, none⟩) 1 cap) 1 [.int .i64 x.k, .slice x.a x.l.length x.c, .int .i64 y.k, .slice y.a y.l.length y.c, .pointer (some ⟨R, 0, none⟩)])
    ∨ (k = 0 ∧ (∃ t : Tr, t.ty = joinY x.ty y.ty ∧ t.In wr ∧ t.Bl (R < ·) ∧ wr.cell? ⟨R, 0, none⟩ = some (.int .i64 t.k) ∧ wr.cell? ⟨R, 1, none⟩ = some (.slice t.a t.l.length t.c)) ∧ ∃ a cap, wr.cell? ⟨R + 1, 0, none⟩ = some (.slice a 0 cap)))

set_option maxHeartbeats 1000000 in
/-- kind.Join. -/
theorem join_whole (x y : Tr) (w : World) (hx : x.In w) (hy : y.In w) (rx : x.right) (ry : y.right) (hh : x.hgt ≤ 1000) :
    Calls Try.prog 21 #[.agg #[.int .i64 x.k, .slice x.a x.l.length x.c], .agg #[.int .i64 y.k, .slice y.a y.l.length y.c]] w fun e w' => ∃ t : Tr, e = .returned (.agg #[.int .i64 t.k, .slice t.a t.l.length t.c]) ∧ t.ty = joinY x.ty y.ty ∧ t.In w' ∧ t.Bl (w.heap.size ≤ ·) ∧ Below w.heap.size w w' := by
  have HC : Hid (∀ (rp : Option Addr) (ib io : Nat) (w : World), x.In w → y.In w → w.cell? ⟨ib, io, none⟩ = some (.int .i64 0) → w.cell? ⟨ib, io + 1, none⟩ = some (.slice none 0 0) → w.frozen? ⟨ib, io, none⟩ = false → w.frozen? ⟨ib, io + 1, none⟩ = false →
    Calls Try.prog 36 #[.agg #[.int .i64 x.k, .slice x.a x.l.length x.c, .int .i64 y.k, .slice y.a y.l.length y.c, .pointer (some ⟨ib, io, none⟩)], .int .i64 1000, .pointer rp] w fun e w' => e = .returned (.tuple #[]) ∧ Joined x y ib io w w') := fun rp ib io w h1 h2 => join_any 1000 (Nat.le_refl _) x y rp ib io w h1 h2 rx ry hh
  go_enter Try.func21, Try.ntmps21
  go_wp2_with fail
  obtain ⟨W0, hW0⟩ : ∃ W0, W0 = (((w.alloc (Obj.cells #[.int .i64 x.k, .slice x.a x.l.length x.c] 24)).alloc (Obj.cells #[.int .i64 y.k, .slice y.a y.l.length y.c] 24)).alloc (Obj.cells #[.int .i64 0, .slice none 0 0] 24)) := ⟨_, rfl⟩
  have hs0 : W0.heap.size = w.heap.size + 1 + 1 + 1 := by rw [hW0]; simp
  have hbw0 : Below w.heap.size w W0 := by rw [hW0]; exact (((Below.refl _ _).alloc (Nat.le_refl _) _).alloc (by simp) _).alloc (by simp; omega) _
  have r0 : W0.cell? ⟨w.heap.size + 1 + 1, 0, none⟩ = some (.int .i64 0) := by rw [hW0]; simp [go_sem]
  have r1 : W0.cell? ⟨w.heap.size + 1 + 1, 1, none⟩ = some (.slice none 0 0) := by rw [hW0]; simp [go_sem]
  have r2 : ∀ o, W0.frozen? ⟨w.heap.size + 1 + 1, o, none⟩ = false := by intro o; rw [hW0]; simp [go_sem]
  rw [← hW0]
  clear hW0
  have u0 : ((W0.alloc (Obj.cells #[.int .i64 0, .slice none 0 0] 24)).alloc (Obj.cells #[.slice none 0 0] 37)).cell? ⟨w.heap.size + 1 + 1 + 1, 0, none⟩ = some (.int .i64 0) := by rw [← hs0]; simp [go_sem]
  have u1 : ((W0.alloc (Obj.cells #[.int .i64 0, .slice none 0 0] 24)).alloc (Obj.cells #[.slice none 0 0] 37)).cell? ⟨w.heap.size + 1 + 1 + 1, 1, none⟩ = some (.slice none 0 0) := by rw [← hs0]; simp [go_sem]
  have u2 : ∀ o, ((W0.alloc (Obj.cells #[.int .i64 0, .slice none 0 0] 24)).alloc (Obj.cells #[.slice none 0 0] 37)).frozen? ⟨w.heap.size + 1 + 1 + 1, o, none⟩ = false := by intro o; rw [← hs0]; simp [go_sem]
  refine (put_any (w.heap.size + 1 + 1 + 1 + 1) (.slice none 0 0) 0 [] x.k y.k x.a y.a x.l.length y.l.length x.c y.c (some ⟨w.heap.size + 1 + 1 + 1, 0, none⟩) _ (by rw [← hs0]; simp [go_sem]) (by rw [← hs0]; simp [go_sem]) (World.ownsRow_nil _ _ _ _) (by omega)).mono ?_
  rintro e w1 ⟨rfl, g, cap, hc1, hf1, ho1, _, hk1⟩
  have hb1 : Below (w.heap.size + 1 + 1 + 1) W0 w1 := by
    have h := hk1.below (by simp [Value.ownBlock]) (by simp [hs0])
    have h' : Below W0.heap.size W0 ((W0.alloc (Obj.cells #[.int .i64 0, .slice none 0 0] 24)).alloc (Obj.cells #[.slice none 0 0] 37)) := ((Below.refl _ _).alloc (Nat.le_refl _) _).alloc (by simp) _
    rw [hs0] at h'
    exact h'.trans (h.mono (by omega))
  have hblk := hk1.below (by simp [Value.ownBlock]) (by simp [hs0])
  have HO : Hid (OffJ (w.heap.size + 1 + 1 + 1) x y 1 w1) :=
    ⟨hf1, (hblk.frozen (p := ⟨w.heap.size + 1 + 1 + 1, 0, none⟩) (by simp)).trans (u2 0), (hblk.frozen (p := ⟨w.heap.size + 1 + 1 + 1, 1, none⟩) (by simp)).trans (u2 1), .inl ⟨rfl, (hblk.cell (p := ⟨w.heap.size + 1 + 1 + 1, 0, none⟩) (by simp)).trans u0, (hblk.cell (p := ⟨w.heap.size + 1 + 1 + 1, 1, none⟩) (by simp)).trans u1, g, cap, by simpa using hc1, by simpa using ho1⟩⟩
  clear hc1 hf1 ho1 hk1 u0 u1 u2 hblk
  have HR0 : Hid (W0.cell? ⟨w.heap.size + 1 + 1, 0, none⟩ = some (.int .i64 0) ∧ W0.cell? ⟨w.heap.size + 1 + 1, 1, none⟩ = some (.slice none 0 0) ∧ ∀ o, W0.frozen? ⟨w.heap.size + 1 + 1, o, none⟩ = false) := ⟨r0, r1, r2⟩
  have HS0 : Hid (W0.heap.size = w.heap.size + 1 + 1 + 1) := hs0
  clear r0 r1 r2 hs0
  go_wp2_with fail
  go_loopg [] 1 (fun k wr => Hid (OffJ (w.heap.size + 1 + 1 + 1) x y k wr) ∧ Below (w.heap.size + 1 + 1 + 1) W0 wr)
  case atStart => exact ⟨HO, hb1⟩
  case round =>
    obtain ⟨HR, hbr⟩ := hrel
    have hbwr : Below w.heap.size w wr := hbw0.trans (hbr.mono (by omega))
    obtain ⟨hfr, g0, g1, ⟨rfl, z0, z1, g, cap, hc, ho⟩ | ⟨rfl, ⟨t, ht, hin, hbl, t0, t1⟩, a, cap, hc⟩⟩ := HR.out
    · have c0 := ho.cellAt 0 (by omega)
      have c1 := ho.cellAt 1 (by omega)
      have c2 := ho.cellAt 2 (by omega)
      have c3 := ho.cellAt 3 (by omega)
      have c4 := ho.cellAt 4 (by omega)
      simp only [List.getElem?_cons_zero, List.getElem?_cons_succ] at c0 c1 c2 c3 c4
      have hcap : 1 ≤ cap := by
        rcases ho.2 with ⟨h, _⟩ | ⟨g', cap', cur, h, _, _, h1, _⟩
        · cases h
        · cases h; exact h1
      have hlr : w.heap.size + 1 + 1 + 1 + 1 < wr.heap.size := World.block_lt_of_cell? _ _ hc
      clear ho HR HO
      go_wp2_with fail
      refine (empty_any (w.heap.size + 1 + 1 + 1 + 1) (some ⟨g, 0, none⟩) 1 cap _ hc).mono ?_
      rintro e w' ⟨rfl, rfl⟩
      go_wp2_with fail
      refine (take_any (w.heap.size + 1 + 1 + 1 + 1) g 0 cap x.k y.k x.a y.a x.l.length y.l.length x.c y.c (some ⟨w.heap.size + 1 + 1 + 1, 0, none⟩) _ (by simpa using hc) hfr (by omega) (by omega) (by simpa using c0) (by simpa using c1) (by simpa using c2) (by simpa using c3) (by simpa using c4)).mono ?_
      rintro e w' ⟨rfl, rfl⟩
      go_wp2_with fail
      obtain ⟨WT, hWT⟩ : ∃ WT, WT = ((w'.setCell ⟨w.heap.size + 1 + 1 + 1 + 1, 0, none⟩ (.slice (some ⟨g, 0, none⟩) 0 cap)).alloc (.cells #[.int .i64 x.k, .slice x.a x.l.length x.c, .int .i64 y.k, .slice y.a y.l.length y.c, .pointer (some ⟨w.heap.size + 1 + 1 + 1, 0, none⟩)] 41)).alloc (.cells #[.int .i64 x.k, .slice x.a x.l.length x.c, .int .i64 y.k, .slice y.a y.l.length y.c, .pointer (some ⟨w.heap.size + 1 + 1 + 1, 0, none⟩)] 41) := ⟨_, rfl⟩
      have hbt : Below (w.heap.size + 1 + 1 + 1 + 1) w' WT := by
        rw [hWT]
        exact (((Below.refl _ _).setCell (by simp) _).alloc (by simp [World.setCell]; omega) _).alloc (by simp [World.setCell]; omega) _
      have hsT : w'.heap.size ≤ WT.heap.size := hbt.size
      have hcT : WT.cell? ⟨w.heap.size + 1 + 1 + 1 + 1, 0, none⟩ = some (.slice (some ⟨g, 0, none⟩) 0 cap) := by
        rw [hWT]
        exact cell_later (((Below.refl _ _).alloc (Nat.le_refl _) _).alloc (by simp) _) (World.cell?_setCell_same _ _ _ hc)
      have hfT : WT.frozen? ⟨w.heap.size + 1 + 1 + 1 + 1, 0, none⟩ = false := by
        rw [hWT]
        simp [frozen?_alloc_cells, hfr]
      rw [← hWT]
      have hbT : Below w.heap.size w WT := hbwr.trans (hbt.mono (by omega))
      refine (HC.out _ (w.heap.size + 1 + 1 + 1) 0 WT (hx.below hbT) (hy.below hbT) ((hbt.cell (p := ⟨w.heap.size + 1 + 1 + 1, 0, none⟩) (by simp)).trans z0) ((hbt.cell (p := ⟨w.heap.size + 1 + 1 + 1, 1, none⟩) (by simp)).trans z1) ((hbt.frozen (p := ⟨w.heap.size + 1 + 1 + 1, 0, none⟩) (by simp)).trans g0) ((hbt.frozen (p := ⟨w.heap.size + 1 + 1 + 1, 1, none⟩) (by simp)).trans g1)).mono ?_
      rintro e w5 ⟨rfl, t, ht, hin, hbl, t0, t1, hw⟩
      have hbl' : w5.heap[w.heap.size + 1 + 1 + 1 + 1]? = WT.heap[w.heap.size + 1 + 1 + 1 + 1]? := hw.block _ (by omega) (by omega)
      have HO5 : Hid (OffJ (w.heap.size + 1 + 1 + 1) x y 0 w5) :=
        ⟨(World.frozen?_of_block (a := ⟨w.heap.size + 1 + 1 + 1 + 1, 0, none⟩) hbl').trans hfT, (hw.frozen 0).trans ((hbt.frozen (p := ⟨w.heap.size + 1 + 1 + 1, 0, none⟩) (by simp)).trans g0), (hw.frozen 1).trans ((hbt.frozen (p := ⟨w.heap.size + 1 + 1 + 1, 1, none⟩) (by simp)).trans g1),
          .inr ⟨rfl, ⟨t, ht, hin, hbl.mono fun b hb => by omega, t0, t1⟩, _, _, (World.cell?_of_block (a := ⟨w.heap.size + 1 + 1 + 1 + 1, 0, none⟩) hbl').trans hcT⟩⟩
      have hb5 : Below (w.heap.size + 1 + 1 + 1) W0 w5 := hbr.trans ((hbt.mono (by omega)).trans (hw.under (by omega)))
      clear hWT hbt hcT hfT hbT ht hin hbl t0 t1 hw hbl' z0 z1 g0 g1 hfr hc c0 c1 c2 c3 c4
      go_wp2_with fail
      go_roundg 0
      case measure => omega
      case rel => exact ⟨HO5, hb5⟩
    · go_wp2_with fail
      refine (empty_any (w.heap.size + 1 + 1 + 1 + 1) a 0 cap _ hc).mono ?_
      rintro e w' ⟨rfl, rfl⟩
      have v0 := (hbr.cell (p := ⟨w.heap.size + 1 + 1, 0, none⟩) (by simp)).trans HR0.out.1
      have v1 := (hbr.cell (p := ⟨w.heap.size + 1 + 1, 1, none⟩) (by simp)).trans HR0.out.2.1
      have v2 := (hbr.frozen (p := ⟨w.heap.size + 1 + 1, 0, none⟩) (by simp)).trans (HR0.out.2.2 0)
      have v3 := (hbr.frozen (p := ⟨w.heap.size + 1 + 1, 1, none⟩) (by simp)).trans (HR0.out.2.2 1)
      have HT : Hid (t.ty = joinY x.ty y.ty) := ht
      clear ht HR HO hc hfr g0 g1
      go_wp2_with fail
      refine bodyPost_ret (v := .agg #[.int .i64 t.k, .slice t.a t.l.length t.c]) ?_ rfl ⟨t, rfl, HT.out, set_keeps hin (hbl.mono fun b hb => by omega), hbl.mono fun b hb => by omega, (hbwr.setCell (by simp; omega) _).setCell (by simp; omega) _⟩
      have hh := set_cells (u := .int .i64 t.k) (v := .slice t.a t.l.length t.c) v0 v1
      simp [results, Try.results21, go_sem, hh.1, hh.2]
end Go.Proofs.Ytnddkmccagiclaa

/-
  The call of chaperonekeep.types answers true, and nothing that was there has turned.
-/
namespace Go.Proofs.Ytnddkmccagiclaa
open Go.RowKit

/-- The kind of a struct's value. -/
theorem field_kind (k : Int) (s : Value) (w : World) : (Instr.field 24 (.agg #[.int .i64 k, s]) 0).run Try.prog w = .ok (.int .i64 k) w := by
  simp [Instr.field, run_underlying Try.underlying24, asAgg, part, go_sem]

/-- Fun of Num and Any. -/
def nf (g : Nat) : Tr := .mk 3 (some ⟨g, 0, none⟩) 2 [leaf 1, leaf 0]

theorem nf_good (g : Nat) : goodT 4 (nf g) = true := by simp [nf, goodT, leaf]
theorem nf_fits (g : Nat) : relY escFits (nf g).ty (leaf 0).ty = true := by simp [nf, leaf, Tr.ty_mk, relY_mk, escFits]
theorem nf_nofit (g : Nat) : relY escFits (nf g).ty (leaf 1).ty = false := by simp [nf, leaf, Tr.ty_mk, relY_mk, escFits]
theorem nf_join (g : Nat) : (joinY (nf g).ty (nf g).ty).k = 3 := by simp [nf, leaf, Tr.ty_mk, joinY_mk]

set_option maxHeartbeats 1000000 in
theorem types_any (w : World) : Calls Try.prog 27 #[] w fun e w' => e = .returned (.bool true) ∧ Below w.heap.size w w' := by
  go_enter Try.func27, Try.ntmps27
  go_wp2_with fail
  refine (to_any (leaf 1) (leaf 0) _ (leaf_in _ _) (leaf_in _ _)).mono ?_
  rintro e w1 ⟨g, _, rfl, hin, hb1⟩
  have HI : Hid ((nf g).In w1) := hin
  clear hin
  have G1 : Hid (∀ W, (nf g).In W → Calls Try.prog 7 #[.agg #[.int .i64 3, .slice (some ⟨g, 0, none⟩) 2 2]] W fun e w' => e = .returned (.bool true) ∧ Below W.heap.size W w') := fun W h => by
    have := good_any (nf g) W h
    rw [nf_good] at this
    exact this
  have hg : (nf g).hgt ≤ 1000 := Nat.le_trans (Tr.hgt_good 4 _ (nf_good g)) (by omega)
  have hs : (nf g).sm := Tr.sm_good 4 _ (nf_good g)
  have hr : (nf g).right := Tr.right_good 4 _ (nf_good g)
  have G2 : Hid (∀ W, (nf g).In W → Calls Try.prog 17 #[.agg #[.int .i64 3, .slice (some ⟨g, 0, none⟩) 2 2], .agg #[.int .i64 0, .slice none 0 0]] W fun e w' => e = .returned (.bool true) ∧ Below W.heap.size W w') := fun W h => by
    have := fits_whole (nf g) (leaf 0) W h (leaf_in _ _) hg hs
    rw [nf_fits] at this
    exact this
  have G3 : Hid (∀ W, (nf g).In W → Calls Try.prog 17 #[.agg #[.int .i64 3, .slice (some ⟨g, 0, none⟩) 2 2], .agg #[.int .i64 1, .slice none 0 0]] W fun e w' => e = .returned (.bool false) ∧ Below W.heap.size W w') := fun W h => by
    have := fits_whole (nf g) (leaf 1) W h (leaf_in _ _) hg hs
    rw [nf_nofit] at this
    exact this
  have G4 : Hid (∀ W, (nf g).In W → Calls Try.prog 21 #[.agg #[.int .i64 3, .slice (some ⟨g, 0, none⟩) 2 2], .agg #[.int .i64 3, .slice (some ⟨g, 0, none⟩) 2 2]] W fun e w' => ∃ a m c, e = .returned (.agg #[.int .i64 3, .slice a m c]) ∧ Below W.heap.size W w') := fun W h => by
    refine (join_whole (nf g) (nf g) W h h hr hr hg).mono ?_
    rintro e w' ⟨t, rfl, ht, _, _, hb⟩
    have : t.k = 3 := by rw [← Tr.ty_k, ht, nf_join]
    exact ⟨t.a, t.l.length, t.c, by rw [this], hb⟩
  have hb0 : Below w.heap.size w w1 := hb1
  clear hg hs hr hb1
  have hb2 : Below w.heap.size w (w1.alloc (.cells #[.int .i64 3, .slice (some ⟨g, 0, none⟩) 2 2] 24)) := hb0.alloc hb0.size _
  have hbb : Below w1.heap.size w1 (w1.alloc (.cells #[.int .i64 3, .slice (some ⟨g, 0, none⟩) 2 2] 24)) := (Below.refl _ _).alloc (Nat.le_refl _) _
  go_wp2_with fail
  refine (G1.out _ (HI.out.below hbb)).mono ?_
  rintro e w2 ⟨rfl, hb3⟩
  have p0 : w2.cell? ⟨w1.heap.size, 0, none⟩ = some (.int .i64 3) := cell_later hb3 (by simp [go_sem])
  have p1 : w2.cell? ⟨w1.heap.size, 1, none⟩ = some (.slice (some ⟨g, 0, none⟩) 2 2) := cell_later hb3 (by simp [go_sem])
  have HI2 : Hid ((nf g).In w2) := (HI.out.below hbb).below hb3
  have hb4 : Below w.heap.size w w2 := hb2.trans (hb3.mono hb2.size)
  clear hb3 hbb hb2 hb0 HI G1
  go_wp2_with fail
  refine (G2.out _ HI2.out).mono ?_
  rintro e w3 ⟨rfl, hb5⟩
  have hb6 : Below w.heap.size w w3 := hb4.trans (hb5.mono hb4.size)
  replace p0 := cell_later hb5 p0
  replace p1 := cell_later hb5 p1
  have HI3 : Hid ((nf g).In w3) := HI2.out.below hb5
  clear hb4 hb5 HI2 G2
  go_wp2_with fail
  refine (G3.out _ HI3.out).mono ?_
  rintro e w4 ⟨rfl, hb7⟩
  have hb8 : Below w.heap.size w w4 := hb6.trans (hb7.mono hb6.size)
  replace p0 := cell_later hb7 p0
  replace p1 := cell_later hb7 p1
  have HI4 : Hid ((nf g).In w4) := HI3.out.below hb7
  clear hb6 hb7 HI3 G3
  go_wp2_with fail
  refine (G4.out _ HI4.out).mono ?_
  rintro e w5 ⟨a, m, c, rfl, hb9⟩
  have hb10 : Below w.heap.size w w5 := hb8.trans (hb9.mono hb8.size)
  clear hb8 hb9 HI4 G4
  have hfk := field_kind 3 (.slice a m c)
  go_wp2_with fail
  go_ret
  exact ⟨rfl, hb10⟩
end Go.Proofs.Ytnddkmccagiclaa
