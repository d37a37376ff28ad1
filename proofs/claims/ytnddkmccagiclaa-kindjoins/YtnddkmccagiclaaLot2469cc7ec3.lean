/-
  What the calls of kind.join and kind.Join answer at two right trees of which the first has at most a thousand levels.
-/
import Derived.Test.YtnddkmccagiclaaLotf07a16a889
import Derived.Test.YtnddkmccagiclaaLot3fe329f286
import Derived.Deep.LoopGhost
import Derived.Deep.AppendLies
import Derived.Deep.AppendSrc
import Derived.Deep.RegionLaw
import Derived.WalkSmall
namespace Go.Proofs.Ytnddkmccagiclaa
open Go.RowKit

theorem set_keeps {ib io : Nat} {w : World} {u v : Value} {t : Tr} (hin : t.In w) (hne : t.Bl (· ≠ ib)) : t.In ((w.setCell ⟨ib, io, none⟩ u).setCell ⟨ib, io + 1, none⟩ v) := by
  refine hin.congr (P := (· ≠ ib)) ?_ hne
  intro b hb o
  rw [World.cell?_setCell_other, World.cell?_setCell_other]
  · intro e; simp only [Addr.mk.injEq] at e; omega
  · intro e; simp only [Addr.mk.injEq] at e; omega

theorem Joined.of_parts {x y x0 x1 y0 y1 : Tr} {ib io P : Nat} {w wr W1 : World} (hx : x.l = [x0, x1]) (hy : y.l = [y0, y1]) (kx : x.k = 3) (ky : y.k = 3) (hib : ib < w.heap.size) (hP : w.heap.size ≤ P) (hb : Below w.heap.size w wr) (h : JI W1 P x0 x1 y0 y1 2 wr)
    (z0 : w.cell? ⟨ib, io, none⟩ = some (.int .i64 0)) (z1 : w.cell? ⟨ib, io + 1, none⟩ = some (.slice none 0 0)) :
    Joined x y ib io w ((wr.setCell ⟨ib, io, none⟩ (.int .i64 3)).setCell ⟨ib, io + 1, none⟩ (.slice (some ⟨P, 0, none⟩) 2 2)) := by
  obtain ⟨_, hf, s0, s1, i0, i1, b0, b1, d0, d1, d2, d3, t0, t1, _, _⟩ := h
  have hc := set_cells (u := .int .i64 3) (v := .slice (some ⟨P, 0, none⟩) 2 2) (cell_later hb z0) (cell_later hb z1)
  have hcell : ∀ o, ((wr.setCell ⟨ib, io, none⟩ (.int .i64 3)).setCell ⟨ib, io + 1, none⟩ (.slice (some ⟨P, 0, none⟩) 2 2)).cell? ⟨P, o, none⟩ = wr.cell? ⟨P, o, none⟩ := by
    intro o
    rw [World.cell?_setCell_other, World.cell?_setCell_other]
    · intro e; simp only [Addr.mk.injEq] at e; omega
    · intro e; simp only [Addr.mk.injEq] at e; omega
  refine ⟨.mk 3 (some ⟨P, 0, none⟩) 2 [s0, s1], ?_, ?_, ?_, hc.1, hc.2, (Wrote.of_below hb hib).set _ _⟩
  · obtain ⟨k, a, c, l⟩ := x
    obtain ⟨k', a', c', l'⟩ := y
    dsimp only at hx hy kx ky
    subst hx hy kx ky
    simp [Tr.ty_mk, joinY_mk, joinL, t0 (by omega), t1 (by omega)]
  · exact Tr.In_two (by rw [hcell]; exact d0) (by rw [hcell]; exact d1) (by rw [hcell]; exact d2) (by rw [hcell]; exact d3) (set_keeps i0 (b0.mono fun b hb => by omega)) (set_keeps i1 (b1.mono fun b hb => by omega))
  · exact Tr.Bl_two hP (b0.mono fun b hb => by omega) (b1.mono fun b hb => by omega)

theorem Joined.of_diff {x y : Tr} {ib io : Nat} {w w' : World} (hk : x.k ≠ y.k) (hib : ib < w.heap.size) (hb : Below w.heap.size w w') (z0 : w.cell? ⟨ib, io, none⟩ = some (.int .i64 0)) (z1 : w.cell? ⟨ib, io + 1, none⟩ = some (.slice none 0 0)) : Joined x y ib io w w' := by
  refine ⟨leaf 0, ?_, leaf_in _ _, leaf_bl _ _, cell_later hb z0, cell_later hb z1, Wrote.of_below hb hib⟩
  obtain ⟨k, a, c, l⟩ := x
  obtain ⟨k', a', c', l'⟩ := y
  dsimp only at hk
  simp [leaf, Tr.ty_mk, joinY_mk, if_neg hk]

theorem join_any (n : Nat) : n ≤ 1000 → ∀ (x y : Tr) (rp : Option Addr) (ib io : Nat) (w : World), x.In w → y.In w → x.right → y.right → x.hgt ≤ n → w.cell? ⟨ib, io, none⟩ = some (.int .i64 0) → w.cell? ⟨ib, io + 1, none⟩ = some (.slice none 0 0) → w.frozen? ⟨ib, io, none⟩ = false → w.frozen? ⟨ib, io + 1, none⟩ = false →
    Calls Try.prog 36 #[.agg #[.int .i64 x.k, .slice x.a x.l.length x.c, .int .i64 y.k, .slice y.a y.l.length y.c, .pointer (some ⟨ib, io, none⟩)], .int .i64 (n : Int), .pointer rp] w fun e w' => e = .returned (.tuple #[]) ∧ Joined x y ib io w w' := by
  induction n with
  | zero =>
    intro _ x y rp ib io w _ _ _ _ h
    have := x.hgt_pos
    omega
  | succ n ih =>
    intro hn x y rp ib io w hx hy rx ry hh z0 z1 f0 f1
    have lb : ib < w.heap.size := World.block_lt_of_cell? _ _ z0
    have e : ((n + 1 : Nat) : Int) = (n : Int) + 1 := by omega
    rw [e]
    by_cases hk : x.k = y.k
    · rcases rx.cases with ⟨lx, kx⟩ | ⟨x0, x1, lx, kx, r0, r1⟩
      · rcases ry.cases with ⟨ly, ky⟩ | ⟨y0, y1, ly, ky, _, _⟩
        · rw [lx, ly, ← hk]
          refine (join_leaf n (by omega) x.k x.a y.a rp x.c y.c ib io w z0 z1 f0 f1).mono ?_
          rintro e w' ⟨rfl, g, c0, c1, hw⟩
          refine ⟨rfl, .mk x.k (some ⟨g, 0, none⟩) 0 [], ?_, Tr.In_nil _ _ _ _, Tr.Bl_nil _ _ _ _, c0, c1, hw⟩
          obtain ⟨k, a, c, l⟩ := x
          obtain ⟨k', a', c', l'⟩ := y
          dsimp only at lx ly hk
          subst lx ly hk
          simp [Tr.ty_mk, joinY_mk, joinL]
        · omega
      · rcases ry.cases with ⟨ly, ky⟩ | ⟨y0, y1, ly, ky, q0, q1⟩
        · omega
        · obtain ⟨bx, ox, ax, cx0, cx1, hx0⟩ := hx.part 0 (by simp [lx])
          obtain ⟨bx', ox', ax', cx2, cx3, hx1⟩ := hx.part 1 (by simp [lx])
          obtain ⟨by', oy, ay, cy0, cy1, hy0⟩ := hy.part 0 (by simp [ly])
          obtain ⟨by'', oy', ay', cy2, cy3, hy1⟩ := hy.part 1 (by simp [ly])
          have hg0 := Tr.hgt_part hh 0 (by simp [lx])
          have hg1 := Tr.hgt_part hh 1 (by simp [lx])
          rw [ax] at ax'
          rw [ay] at ay'
          obtain ⟨rfl, rfl⟩ : bx = bx' ∧ ox = ox' := by simpa using ax'
          obtain ⟨rfl, rfl⟩ : by' = by'' ∧ oy = oy' := by simpa using ay'
          simp only [lx, List.getElem_cons_zero, List.getElem_cons_succ] at cx0 cx1 cx2 cx3 hx0 hx1 hg0 hg1
          simp only [ly, List.getElem_cons_zero, List.getElem_cons_succ] at cy0 cy1 cy2 cy3 hy0 hy1
          rw [ax, ay, lx, ly, kx, ky]
          refine (join_fun n (by omega) rp bx ox by' oy x.c y.c ib io x0 x1 y0 y1 w z0 z1 f0 f1 (by simpa using cx0) (by simpa using cx1) (by simpa using cx2) (by simpa using cx3) (by simpa using cy0) (by simpa using cy1) (by simpa using cy2) (by simpa using cy3)
            (fun P W _ hb g0 g1 gf => ih (by omega) x0 y0 rp P 0 W (hx0.below hb) (hy0.below hb) r0 q0 hg0 g0 g1 (gf _) (gf _))
            (fun P W _ hb g0 g1 gf => ih (by omega) x1 y1 rp P 2 W (hx1.below hb) (hy1.below hb) r1 q1 hg1 g0 g1 (gf _) (gf _))).mono ?_
          rintro e w' ⟨rfl, W1, wr, P, hP, hb, hji, rfl⟩
          exact ⟨rfl, Joined.of_parts lx ly kx ky lb hP hb hji z0 z1⟩
    · refine (join_diff n (by omega) x.k y.k (by simpa using hk) x.a y.a (some ⟨ib, io, none⟩) rp x.l.length y.l.length x.c y.c w).mono ?_
      rintro e w' ⟨rfl, rfl⟩
      exact ⟨rfl, Joined.of_diff hk lb ((Below.refl _ _).alloc (Nat.le_refl _) _) z0 z1⟩
end Go.Proofs.Ytnddkmccagiclaa

/-
  What the call of kind.Join answers at two right trees of which the first has at most a thousand levels.
-/
namespace Go.Proofs.Ytnddkmccagiclaa
open Go.RowKit

/-- The list that is put off, and what is joined: the one pair, or none. -/
def OffJ (R : Nat) (x y : Tr) (k : Nat) (wr : World) : Prop :=
  wr.frozen? ⟨R + 1, 0, none⟩ = false ∧ wr.frozen? ⟨R, 0, none⟩ = false ∧ wr.frozen? ⟨R, 1, none⟩ = false ∧
  ((k = 1 ∧ wr.cell? ⟨R, 0, none⟩ = some (.int .i64 0) ∧ wr.cell? ⟨R, 1, none⟩ = some (.slice none 0 0) ∧ ∃ g cap, wr.cell? ⟨R + 1, 0, none⟩ = some (.slice (some ⟨g, 0, none⟩) 1 cap) ∧ wr.ownsRow (R + 2) 41 5 (.slice (some ⟨g, 0, none⟩) 1 cap) 1 [.int .i64 x.k, .slice x.a x.l.length x.c, .int .i64 y.k, .slice y.a y.l.length y.c, .pointer (some ⟨R, 0, none⟩)])
    ∨ (k = 0 ∧ (∃ t : Tr, t.ty = joinY x.ty y.ty ∧ t.In wr ∧ t.Bl (R < ·) ∧ wr.cell? ⟨R, 0, none⟩ = some (.int .i64 t.k) ∧ wr.cell? ⟨R, 1, none⟩ = some (.slice t.a t.l.length t.c)) ∧ ∃ a cap, wr.cell? ⟨R + 1, 0, none⟩ = some (.slice a 0 cap)))

set_option maxHeartbeats 1000000 in
/-- kind.Join. -/
theorem join_whole (x y : Tr) (w : World) (hx : x.In w) (hy : y.In w) (rx : x.right) (ry : y.right) (hh : x.hgt ≤ 1000) :
    Calls Try.prog 21 #[.agg #[.int .i64 x.k, .slice x.a x.l.length x.c], .agg #[.int .i64 y.k, .slice y.a y.l.length y.c]] w fun e w' => ∃ t : Tr, e = .returned (.agg #[.int .i64 t.k, .slice t.a t.l.length t.c]) ∧ t.ty = joinY x.ty y.ty ∧ t.In w' ∧ t.Bl (w.heap.size ≤ ·) ∧ Below w.heap.size w w' := by
  have HC : Hid (∀ (rp : Option Addr) (ib io : Nat) (w : World), x.In w → y.In w → w.cell? ⟨ib, io, none⟩ = some (.int .i64 0) → w.cell? ⟨ib, io + 1, none⟩ = some (.slice none 0 0) → w.frozen? ⟨ib, io, none⟩ = false → w.frozen? ⟨ib, io + 1, none⟩ = false →
    Calls Try.prog 36 #[.agg #[.int .i64 x.k, .slice x.a x.l.length x.c, .int .i64 y.k, .slice y.a y.l.length y.c, .pointer (some ⟨ib, io, none⟩)], .int .i64 1000, .pointer rp] w fun e w' => e = .returned (.tuple #[]) ∧ Joined x y ib io w w') := fun rp ib io w h1 h2 => join_any 1000 (Nat.le_refl _) x y rp ib io w h1 h2 rx ry hh
  go_enter Try.func21, Try.ntmps21
  go_wp2_with fail
  obtain ⟨W0, hW0⟩ : ∃ W0, W0 = (((w.alloc (Obj.cells #[.int .i64 x.k, .slice x.a x.l.length x.c] 24)).alloc (Obj.cells #[.int .i64 y.k, .slice y.a y.l.length y.c] 24)).alloc (Obj.cells #[.int .i64 0, .slice none 0 0] 24)) := ⟨_, rfl⟩
  have hs0 : W0.heap.size = w.heap.size + 1 + 1 + 1 := by rw [hW0]; simp
  have hbw0 : Below w.heap.size w W0 := by rw [hW0]; exact (((Below.refl _ _).alloc (Nat.le_refl _) _).alloc (by simp) _).alloc (by simp; omega) _
  have r0 : W0.cell? ⟨w.heap.size + 1 + 1, 0, none⟩ = some (.int .i64 0) := by rw [hW0]; simp [go_sem]
  have r1 : W0.cell? ⟨w.heap.size + 1 + 1, 1, none⟩ = some (.slice none 0 0) := by rw [hW0]; simp [go_sem]
  have r2 : ∀ o, W0.frozen? ⟨w.heap.size + 1 + 1, o, none⟩ = false := by intro o; rw [hW0]; simp [go_sem]
  rw [← hW0]
  clear hW0
  have u0 : ((W0.alloc (Obj.cells #[.int .i64 0, .slice none 0 0] 24)).alloc (Obj.cells #[.slice none 0 0] 37)).cell? ⟨w.heap.size + 1 + 1 + 1, 0, none⟩ = some (.int .i64 0) := by rw [← hs0]; simp [go_sem]
  have u1 : ((W0.alloc (Obj.cells #[.int .i64 0, .slice none 0 0] 24)).alloc (Obj.cells #[.slice none 0 0] 37)).cell? ⟨w.heap.size + 1 + 1 + 1, 1, none⟩ = some (.slice none 0 0) := by rw [← hs0]; simp [go_sem]
  have u2 : ∀ o, ((W0.alloc (Obj.cells #[.int .i64 0, .slice none 0 0] 24)).alloc (Obj.cells #[.slice none 0 0] 37)).frozen? ⟨w.heap.size + 1 + 1 + 1, o, none⟩ = false := by intro o; rw [← hs0]; simp [go_sem]
  refine (put_any (w.heap.size + 1 + 1 + 1 + 1) (.slice none 0 0) 0 [] x.k y.k x.a y.a x.l.length y.l.length x.c y.c (some ⟨w.heap.size + 1 + 1 + 1, 0, none⟩) _ (by rw [← hs0]; simp [go_sem]) (by rw [← hs0]; simp [go_sem]) (World.ownsRow_nil _ _ _ _) (by omega)).mono ?_
  rintro e w1 ⟨rfl, g, cap, hc1, hf1, ho1, _, hk1⟩
  have hb1 : Below (w.heap.size + 1 + 1 + 1) W0 w1 := by
    have h := hk1.below (by simp [Value.ownBlock]) (by simp [hs0])
    have h' : Below W0.heap.size W0 ((W0.alloc (Obj.cells #[.int .i64 0, .slice none 0 0] 24)).alloc (Obj.cells #[.slice none 0 0] 37)) := ((Below.refl _ _).alloc (Nat.le_refl _) _).alloc (by simp) _
    rw [hs0] at h'
    exact h'.trans (h.mono (by omega))
  have hblk := hk1.below (by simp [Value.ownBlock]) (by simp [hs0])
  have HO : Hid (OffJ (w.heap.size + 1 + 1 + 1) x y 1 w1) :=
    ⟨hf1, (hblk.frozen (p := ⟨w.heap.size + 1 + 1 + 1, 0, none⟩) (by simp)).trans (u2 0), (hblk.frozen (p := ⟨w.heap.size + 1 + 1 + 1, 1, none⟩) (by simp)).trans (u2 1), .inl ⟨rfl, (hblk.cell (p := ⟨w.heap.size + 1 + 1 + 1, 0, none⟩) (by simp)).trans u0, (hblk.cell (p := ⟨w.heap.size + 1 + 1 + 1, 1, none⟩) (by simp)).trans u1, g, cap, by simpa using hc1, by simpa using ho1⟩⟩
  clear hc1 hf1 ho1 hk1 u0 u1 u2 hblk
  have HR0 : Hid (W0.cell? ⟨w.heap.size + 1 + 1, 0, none⟩ = some (.int .i64 0) ∧ W0.cell? ⟨w.heap.size + 1 + 1, 1, none⟩ = some (.slice none 0 0) ∧ ∀ o, W0.frozen? ⟨w.heap.size + 1 + 1, o, none⟩ = false) := ⟨r0, r1, r2⟩
  have HS0 : Hid (W0.heap.size = w.heap.size + 1 + 1 + 1) := hs0
  clear r0 r1 r2 hs0
  go_wp2_with fail
  go_loopg [] 1 (fun k wr => Hid (OffJ (w.heap.size + 1 + 1 + 1) x y k wr) ∧ Below (w.heap.size + 1 + 1 + 1) W0 wr)
  case atStart => exact ⟨HO, hb1⟩
  case round =>
    obtain ⟨HR, hbr⟩ := hrel
    have hbwr : Below w.heap.size w wr := hbw0.trans (hbr.mono (by omega))
    obtain ⟨hfr, g0, g1, ⟨rfl, z0, z1, g, cap, hc, ho⟩ | ⟨rfl, ⟨t, ht, hin, hbl, t0, t1⟩, a, cap, hc⟩⟩ := HR.out
    · have c0 := ho.cellAt 0 (by omega)
      have c1 := ho.cellAt 1 (by omega)
      have c2 := ho.cellAt 2 (by omega)
      have c3 := ho.cellAt 3 (by omega)
      have c4 := ho.cellAt 4 (by omega)
      simp only [List.getElem?_cons_zero, List.getElem?_cons_succ] at c0 c1 c2 c3 c4
      have hcap : 1 ≤ cap := by
        rcases ho.2 with ⟨h, _⟩ | ⟨g', cap', cur, h, _, _, h1, _⟩
        · cases h
        · cases h; exact h1
      have hlr : w.heap.size + 1 + 1 + 1 + 1 < wr.heap.size := World.block_lt_of_cell? _ _ hc
      clear ho HR HO
      go_wp2_with fail
      refine (empty_any (w.heap.size + 1 + 1 + 1 + 1) (some ⟨g, 0, none⟩) 1 cap _ hc).mono ?_
      rintro e w' ⟨rfl, rfl⟩
      go_wp2_with fail
      refine (take_any (w.heap.size + 1 + 1 + 1 + 1) g 0 cap x.k y.k x.a y.a x.l.length y.l.length x.c y.c (some ⟨w.heap.size + 1 + 1 + 1, 0, none⟩) _ (by simpa using hc) hfr (by omega) (by omega) (by simpa using c0) (by simpa using c1) (by simpa using c2) (by simpa using c3) (by simpa using c4)).mono ?_
      rintro e w' ⟨rfl, rfl⟩
      go_wp2_with fail
      obtain ⟨WT, hWT⟩ : ∃ WT, WT = ((w'.setCell ⟨w.heap.size + 1 + 1 + 1 + 1, 0, none⟩ (.slice (some ⟨g, 0, none⟩) 0 cap)).alloc (.cells #[.int .i64 x.k, .slice x.a x.l.length x.c, .int .i64 y.k, .slice y.a y.l.length y.c, .pointer (some ⟨w.heap.size + 1 + 1 + 1, 0, none⟩)] 41)).alloc (.cells #[.int .i64 x.k, .slice x.a x.l.length x.c, .int .i64 y.k, .slice y.a y.l.length y.c, .pointer (some ⟨w.heap.size + 1 + 1 + 1, 0, none⟩)] 41) := ⟨_, rfl⟩
      have hbt : Below (w.heap.size + 1 + 1 + 1 + 1) w' WT := by
        rw [hWT]
        exact (((Below.refl _ _).setCell (by simp) _).alloc (by simp [World.setCell]; omega) _).alloc (by simp [World.setCell]; omega) _
      have hsT : w'.heap.size ≤ WT.heap.size := hbt.size
      have hcT : WT.cell? ⟨w.heap.size + 1 + 1 + 1 + 1, 0, none⟩ = some (.slice (some ⟨g, 0, none⟩) 0 cap) := by
        rw [hWT]
        exact cell_later (((Below.refl _ _).alloc (Nat.le_refl _) _).alloc (by simp) _) (World.cell?_setCell_same _ _ _ hc)
      have hfT : WT.frozen? ⟨w.heap.size + 1 + 1 + 1 + 1, 0, none⟩ = false := by
        rw [hWT]
        simp [frozen?_alloc_cells, hfr]
      rw [← hWT]
      have hbT : Below w.heap.size w WT := hbwr.trans (hbt.mono (by omega))
      refine (HC.out _ (w.heap.size + 1 + 1 + 1) 0 WT (hx.below hbT) (hy.below hbT) ((hbt.cell (p := ⟨w.heap.size + 1 + 1 + 1, 0, none⟩) (by simp)).trans z0) ((hbt.cell (p := ⟨w.heap.size + 1 + 1 + 1, 1, none⟩) (by simp)).trans z1) ((hbt.frozen (p := ⟨w.heap.size + 1 + 1 + 1, 0, none⟩) (by simp)).trans g0) ((hbt.frozen (p := ⟨w.heap.size + 1 + 1 + 1, 1, none⟩) (by simp)).trans g1)).mono ?_
      rintro e w5 ⟨rfl, t, ht, hin, hbl, t0, t1, hw⟩
      have hbl' : w5.heap[w.heap.size + 1 + 1 + 1 + 1]? = WT.heap[w.heap.size + 1 + 1 + 1 + 1]? := hw.block _ (by omega) (by omega)
      have HO5 : Hid (OffJ (w.heap.size + 1 + 1 + 1) x y 0 w5) :=
        ⟨(World.frozen?_of_block (a := ⟨w.heap.size + 1 + 1 + 1 + 1, 0, none⟩) hbl').trans hfT, (hw.frozen 0).trans ((hbt.frozen (p := ⟨w.heap.size + 1 + 1 + 1, 0, none⟩) (by simp)).trans g0), (hw.frozen 1).trans ((hbt.frozen (p := ⟨w.heap.size + 1 + 1 + 1, 1, none⟩) (by simp)).trans g1),
          .inr ⟨rfl, ⟨t, ht, hin, hbl.mono fun b hb => by omega, t0, t1⟩, _, _, (World.cell?_of_block (a := ⟨w.heap.size + 1 + 1 + 1 + 1, 0, none⟩) hbl').trans hcT⟩⟩
      have hb5 : Below (w.heap.size + 1 + 1 + 1) W0 w5 := hbr.trans ((hbt.mono (by omega)).trans (hw.under (by omega)))
      clear hWT hbt hcT hfT hbT ht hin hbl t0 t1 hw hbl' z0 z1 g0 g1 hfr hc c0 c1 c2 c3 c4
      go_wp2_with fail
      go_roundg 0
      case measure => omega
      case rel => exact ⟨HO5, hb5⟩
    · go_wp2_with fail
      refine (empty_any (w.heap.size + 1 + 1 + 1 + 1) a 0 cap _ hc).mono ?_
      rintro e w' ⟨rfl, rfl⟩
      have v0 := (hbr.cell (p := ⟨w.heap.size + 1 + 1, 0, none⟩) (by simp)).trans HR0.out.1
      have v1 := (hbr.cell (p := ⟨w.heap.size + 1 + 1, 1, none⟩) (by simp)).trans HR0.out.2.1
      have v2 := (hbr.frozen (p := ⟨w.heap.size + 1 + 1, 0, none⟩) (by simp)).trans (HR0.out.2.2 0)
      have v3 := (hbr.frozen (p := ⟨w.heap.size + 1 + 1, 1, none⟩) (by simp)).trans (HR0.out.2.2 1)
      have HT : Hid (t.ty = joinY x.ty y.ty) := ht
      clear ht HR HO hc hfr g0 g1
      go_wp2_with fail
      refine bodyPost_ret (v := .agg #[.int .i64 t.k, .slice t.a t.l.length t.c]) ?_ rfl ⟨t, rfl, HT.out, set_keeps hin (hbl.mono fun b hb => by omega), hbl.mono fun b hb => by omega, (hbwr.setCell (by simp; omega) _).setCell (by simp; omega) _⟩
      have hh := set_cells (u := .int .i64 t.k) (v := .slice t.a t.l.length t.c) v0 v1
      simp [results, Try.results21, go_sem, hh.1, hh.2]
end Go.Proofs.Ytnddkmccagiclaa

/-
  The call of chaperonekeep.types answers true, and nothing that was there has turned.
-/
namespace Go.Proofs.Ytnddkmccagiclaa
open Go.RowKit

/-- The kind of a struct's value. -/
theorem field_kind (k : Int) (s : Value) (w : World) : (Instr.field 24 (.agg #[.int .i64 k, s]) 0).run Try.prog w = .ok (.int .i64 k) w := by
  simp [Instr.field, run_underlying Try.underlying24, asAgg, part, go_sem]

/-- Fun of Num and Any. -/
def nf (g : Nat) : Tr := .mk 3 (some ⟨g, 0, none⟩) 2 [leaf 1, leaf 0]

theorem nf_good (g : Nat) : goodT 4 (nf g) = true := by simp [nf, goodT, leaf]
theorem nf_fits (g : Nat) : relY escFits (nf g).ty (leaf 0).ty = true := by simp [nf, leaf, Tr.ty_mk, relY_mk, escFits]
theorem nf_nofit (g : Nat) : relY escFits (nf g).ty (leaf 1).ty = false := by simp [nf, leaf, Tr.ty_mk, relY_mk, escFits]
theorem nf_join (g : Nat) : (joinY (nf g).ty (nf g).ty).k = 3 := by simp [nf, leaf, Tr.ty_mk, joinY_mk]

set_option maxHeartbeats 1000000 in
theorem types_any (w : World) : Calls Try.prog 27 #[] w fun e w' => e = .returned (.bool true) ∧ Below w.heap.size w w' := by
  go_enter Try.func27, Try.ntmps27
  go_wp2_with fail
  refine (to_any (leaf 1) (leaf 0) _ (leaf_in _ _) (leaf_in _ _)).mono ?_
  rintro e w1 ⟨g, _, rfl, hin, hb1⟩
  have HI : Hid ((nf g).In w1) := hin
  clear hin
  have G1 : Hid (∀ W, (nf g).In W → Calls Try.prog 7 #[.agg #[.int .i64 3, .slice (some ⟨g, 0, none⟩) 2 2]] W fun e w' => e = .returned (.bool true) ∧ Below W.heap.size W w') := fun W h => by
    have := good_any (nf g) W h
    rw [nf_good] at this
    exact this
  have hg : (nf g).hgt ≤ 1000 := Nat.le_trans (Tr.hgt_good 4 _ (nf_good g)) (by omega)
  have hs : (nf g).sm := Tr.sm_good 4 _ (nf_good g)
  have hr : (nf g).right := Tr.right_good 4 _ (nf_good g)
  have G2 : Hid (∀ W, (nf g).In W → Calls Try.prog 17 #[.agg #[.int .i64 3, .slice (some ⟨g, 0, none⟩) 2 2], .agg #[.int .i64 0, .slice none 0 0]] W fun e w' => e = .returned (.bool true) ∧ Below W.heap.size W w') := fun W h => by
    have := fits_whole (nf g) (leaf 0) W h (leaf_in _ _) hg hs
    rw [nf_fits] at this
    exact this
  have G3 : Hid (∀ W, (nf g).In W → Calls Try.prog 17 #[.agg #[.int .i64 3, .slice (some ⟨g, 0, none⟩) 2 2], .agg #[.int .i64 1, .slice none 0 0]] W fun e w' => e = .returned (.bool false) ∧ Below W.heap.size W w') := fun W h => by
    have := fits_whole (nf g) (leaf 1) W h (leaf_in _ _) hg hs
    rw [nf_nofit] at this
    exact this
  have G4 : Hid (∀ W, (nf g).In W → Calls Try.prog 21 #[.agg #[.int .i64 3, .slice (some ⟨g, 0, none⟩) 2 2], .agg #[.int .i64 3, .slice (some ⟨g, 0, none⟩) 2 2]] W fun e w' => ∃ a m c, e = .returned (.agg #[.int .i64 3, .slice a m c]) ∧ Below W.heap.size W w') := fun W h => by
    refine (join_whole (nf g) (nf g) W h h hr hr hg).mono ?_
    rintro e w' ⟨t, rfl, ht, _, _, hb⟩
    have : t.k = 3 := by rw [← Tr.ty_k, ht, nf_join]
    exact ⟨t.a, t.l.length, t.c, by rw [this], hb⟩
  have hb0 : Below w.heap.size w w1 := hb1
  clear hg hs hr hb1
  have hb2 : Below w.heap.size w (w1.alloc (.cells #[.int .i64 3, .slice (some ⟨g, 0, none⟩) 2 2] 24)) := hb0.alloc hb0.size _
  have hbb : Below w1.heap.size w1 (w1.alloc (.cells #[.int .i64 3, .slice (some ⟨g, 0, none⟩) 2 2] 24)) := (Below.refl _ _).alloc (Nat.le_refl _) _
  go_wp2_with fail
  refine (G1.out _ (HI.out.below hbb)).mono ?_
  rintro e w2 ⟨rfl, hb3⟩
  have p0 : w2.cell? ⟨w1.heap.size, 0, none⟩ = some (.int .i64 3) := cell_later hb3 (by simp [go_sem])
  have p1 : w2.cell? ⟨w1.heap.size, 1, none⟩ = some (.slice (some ⟨g, 0, none⟩) 2 2) := cell_later hb3 (by simp [go_sem])
  have HI2 : Hid ((nf g).In w2) := (HI.out.below hbb).below hb3
  have hb4 : Below w.heap.size w w2 := hb2.trans (hb3.mono hb2.size)
  clear hb3 hbb hb2 hb0 HI G1
  go_wp2_with fail
  refine (G2.out _ HI2.out).mono ?_
  rintro e w3 ⟨rfl, hb5⟩
  have hb6 : Below w.heap.size w w3 := hb4.trans (hb5.mono hb4.size)
  replace p0 := cell_later hb5 p0
  replace p1 := cell_later hb5 p1
  have HI3 : Hid ((nf g).In w3) := HI2.out.below hb5
  clear hb4 hb5 HI2 G2
  go_wp2_with fail
  refine (G3.out _ HI3.out).mono ?_
  rintro e w4 ⟨rfl, hb7⟩
  have hb8 : Below w.heap.size w w4 := hb6.trans (hb7.mono hb6.size)
  replace p0 := cell_later hb7 p0
  replace p1 := cell_later hb7 p1
  have HI4 : Hid ((nf g).In w4) := HI3.out.below hb7
  clear hb6 hb7 HI3 G3
  go_wp2_with fail
  refine (G4.out _ HI4.out).mono ?_
  rintro e w5 ⟨a, m, c, rfl, hb9⟩
  have hb10 : Below w.heap.size w w5 := hb8.trans (hb9.mono hb8.size)
  clear hb8 hb9 HI4 G4
  have hfk := field_kind 3 (.slice a m c)
  go_wp2_with fail
  go_ret
  exact ⟨rfl, hb10⟩
end Go.Proofs.Ytnddkmccagiclaa

/-
  The call of chaperonekeep.KindGrounds answers true at whatever tree lies in memory, and nothing that was there has turned.
-/
namespace Go.Proofs.Ytnddkmccagiclaa
open Go.RowKit

def groundY (t : Ty) : Ty := if t.k = 3 then ⟨3, [⟨0, []⟩, ⟨0, []⟩]⟩ else ⟨t.k, []⟩
def plainY : Ty → Bool
  | ⟨k, l⟩ => k == 1 || k == 2 || (k == 3 && match l with | [x, y] => x.k == 0 && y.k == 0 | _ => false)

theorem plainT_eq (t : Tr) : plainT t = plainY t.ty := by
  obtain ⟨k, a, c, l⟩ := t
  match l with
  | [] => simp [plainT, plainY, Tr.ty_mk]
  | [x] => simp [plainT, plainY, Tr.ty_mk]
  | [x, y] => simp [plainT, plainY, Tr.ty_mk, Tr.ty_k]
  | x :: y :: z :: r => simp [plainT, plainY, Tr.ty_mk]

/-- kind.Ground. -/
theorem ground_any (t : Tr) (w : World) :
    Calls Try.prog 23 #[.agg #[.int .i64 t.k, .slice t.a t.l.length t.c]] w fun e w' => ∃ g : Tr, e = .returned (.agg #[.int .i64 g.k, .slice g.a g.l.length g.c]) ∧ g.In w' ∧ g.ty = groundY t.ty ∧ Below w.heap.size w w' := by
  by_cases h : t.k = 3
  · rw [h]
    refine (ground_fun t.a t.l.length t.c w).mono ?_
    rintro e w' ⟨g, _, rfl, hin, hb⟩
    exact ⟨_, rfl, hin, by simp [groundY, Tr.ty_k, h, Tr.ty_mk, leaf], hb⟩
  · refine (ground_else t.k (by simpa using h) t.a t.l.length t.c w).mono ?_
    rintro e w' ⟨rfl, hb⟩
    exact ⟨leaf t.k, rfl, leaf_in _ _, by simp [groundY, Tr.ty_k, h, Tr.ty_mk, leaf], hb⟩

theorem same_refl (t : Ty) : relY escSame t t = true := by
  induction t using Ty.ind with
  | h k l ih =>
    rw [relY_mk, relL_all escSame l l rfl fun j h _ => ih _ (List.getElem_mem h)]
    simp

theorem ground_facts (t : Ty) (n : Nat) (hg : goodY n t = true) (hk : t.k ≠ 0) : plainY (groundY t) = true ∧ relY escFiner t (groundY t) = true ∧ (groundY t).k = t.k ∧ groundY (groundY t) = groundY t := by
  match n, t, hg with
  | n + 1, ⟨k, []⟩, hg =>
    dsimp only at hk
    have h : k = 1 ∨ k = 2 := by
      simp [goodY] at hg; omega
    rcases h with rfl | rfl <;> simp [groundY, plainY, relY_mk, relL, escFiner]
  | n + 1, ⟨k, [x]⟩, hg => simp [goodY] at hg
  | n + 1, ⟨k, [x, y]⟩, hg =>
    simp [goodY] at hg
    obtain ⟨⟨rfl, _⟩, _⟩ := hg
    obtain ⟨kx, lx⟩ := x
    obtain ⟨ky, ly⟩ := y
    simp [groundY, plainY, relY_mk, relL, escFiner]
  | n + 1, ⟨k, x :: y :: z :: r⟩, hg => simp [goodY] at hg

theorem ground_good (t : Ty) (n : Nat) (hg : goodY (n + 1) t = true) : goodY 4 (groundY t) = true := by
  match t, hg with
  | ⟨k, []⟩, hg =>
    have h : k = 0 ∨ k = 1 ∨ k = 2 := by
      simp [goodY] at hg; omega
    rcases h with rfl | rfl | rfl <;> simp [groundY, goodY]
  | ⟨k, [x]⟩, hg => simp [goodY] at hg
  | ⟨k, [x, y]⟩, hg =>
    simp [goodY] at hg
    obtain ⟨⟨rfl, _⟩, _⟩ := hg
    simp [groundY, goodY]
  | ⟨k, x :: y :: z :: r⟩, hg => simp [goodY] at hg

set_option maxHeartbeats 1000000 in
theorem grounds_else (t : Tr) (w : World) (hin : t.In w) (hh : goodT 4 t = false ∨ goodT 4 t = true ∧ t.k = 0) :
    Calls Try.prog 6 #[.agg #[.int .i64 t.k, .slice t.a t.l.length t.c]] w fun e w' => e = .returned (.bool true) ∧ Below w.heap.size w w' := by
  have hb0 : Below w.heap.size w (w.alloc (.cells #[.int .i64 t.k, .slice t.a t.l.length t.c] 24)) := (Below.refl _ _).alloc (Nat.le_refl _) _
  rcases hh with hg | ⟨hg, hk⟩
  · have G1 : Hid (∀ W, t.In W → Calls Try.prog 7 #[.agg #[.int .i64 t.k, .slice t.a t.l.length t.c]] W fun e w' => e = .returned (.bool false) ∧ Below W.heap.size W w') := fun W h => hg ▸ good_any t W h
    clear hg
    go_enter Try.func6, Try.ntmps6
    go_wp2_with fail
    refine (G1.out _ (hin.below hb0)).mono ?_
    rintro e w1 ⟨rfl, hb1⟩
    have hb2 := hb0.trans (hb1.mono hb0.size)
    clear hb1 hb0
    go_wp2_with fail
    refine (types_any _).mono ?_
    rintro e w2 ⟨rfl, hb3⟩
    have hb4 := hb2.trans (hb3.mono hb2.size)
    clear hb2 hb3
    go_wp2_with fail
    go_ret
    exact ⟨rfl, hb4⟩
  · have G1 : Hid (∀ W, t.In W → Calls Try.prog 7 #[.agg #[.int .i64 0, .slice t.a t.l.length t.c]] W fun e w' => e = .returned (.bool true) ∧ Below W.heap.size W w') := fun W h => by
      have := good_any t W h
      rw [hg, hk] at this
      exact this
    rw [hk] at hb0 ⊢
    clear hg hk
    go_enter Try.func6, Try.ntmps6
    go_wp2_with fail
    refine (G1.out _ (hin.below hb0)).mono ?_
    rintro e w1 ⟨rfl, hb1⟩
    have hb2 := hb0.trans (hb1.mono hb0.size)
    have p0 : w1.cell? ⟨w.heap.size, 0, none⟩ = some (.int .i64 0) := cell_later hb1 (by simp [go_sem])
    clear hb1 hb0
    go_wp2_with fail
    refine (types_any _).mono ?_
    rintro e w2 ⟨rfl, hb3⟩
    have hb4 := hb2.trans (hb3.mono hb2.size)
    clear hb2 hb3
    go_wp2_with fail
    go_ret
    exact ⟨rfl, hb4⟩

set_option maxHeartbeats 1000000 in
theorem grounds_main (t : Tr) (w : World) (hin : t.In w) (hg : goodT 4 t = true) (hk : (t.k == 0) = false) :
    Calls Try.prog 6 #[.agg #[.int .i64 t.k, .slice t.a t.l.length t.c]] w fun e w' => e = .returned (.bool true) ∧ Below w.heap.size w w' := by
  have hb0 : Below w.heap.size w (w.alloc (.cells #[.int .i64 t.k, .slice t.a t.l.length t.c] 24)) := (Below.refl _ _).alloc (Nat.le_refl _) _
  have hh : t.hgt ≤ 1000 := Nat.le_trans (Tr.hgt_good 4 _ hg) (by omega)
  have hs : t.sm := Tr.sm_good 4 _ hg
  have hf := ground_facts t.ty 4 (by rw [← goodT_eq]; exact hg) (by rw [Tr.ty_k]; simpa using hk)
  have G1 : Hid (∀ W, t.In W → Calls Try.prog 7 #[.agg #[.int .i64 t.k, .slice t.a t.l.length t.c]] W fun e w' => e = .returned (.bool true) ∧ Below W.heap.size W w') := fun W h => hg ▸ good_any t W h
  have HF : Hid (plainY (groundY t.ty) = true ∧ relY escFiner t.ty (groundY t.ty) = true ∧ (groundY t.ty).k = t.ty.k ∧ groundY (groundY t.ty) = groundY t.ty) := hf
  have HGG : goodY 4 (groundY t.ty) = true := ground_good t.ty 3 (by rw [← goodT_eq]; exact hg)
  clear hg hf
  go_enter Try.func6, Try.ntmps6
  go_wp2_with fail
  refine (G1.out _ (hin.below hb0)).mono ?_
  rintro e w1 ⟨rfl, hb1⟩
  have hb2 := hb0.trans (hb1.mono hb0.size)
  have p0 : w1.cell? ⟨w.heap.size, 0, none⟩ = some (.int .i64 t.k) := cell_later hb1 (by simp [go_sem])
  have p1 : w1.cell? ⟨w.heap.size, 1, none⟩ = some (.slice t.a t.l.length t.c) := cell_later hb1 (by simp [go_sem])
  clear hb1 hb0 G1
  go_wp2_with fail
  refine (ground_any t _).mono ?_
  rintro e w2 ⟨g, rfl, gin, gty, hb3⟩
  have hb4 := hb2.trans (hb3.mono hb2.size)
  replace p0 := cell_later hb3 p0
  replace p1 := cell_later hb3 p1
  have hgk : g.k = t.k := by rw [← Tr.ty_k, gty, HF.out.2.2.1, Tr.ty_k]
  have G2 : Hid (∀ W, g.In W → Calls Try.prog 15 #[.agg #[.int .i64 t.k, .slice g.a g.l.length g.c]] W fun e w' => e = .returned (.bool true) ∧ Below W.heap.size W w') := fun W h => by
    have := plain_any g W h
    rw [plainT_eq, gty, HF.out.1, hgk] at this
    exact this
  have G3 : Hid (∀ W, t.In W → g.In W → Calls Try.prog 19 #[.agg #[.int .i64 t.k, .slice t.a t.l.length t.c], .agg #[.int .i64 t.k, .slice g.a g.l.length g.c]] W fun e w' => e = .returned (.bool true) ∧ Below W.heap.size W w') := fun W h1 h2 => by
    have := finer_whole t g W h1 h2 hh hs
    rw [gty, HF.out.2.1, hgk] at this
    exact this
  have G4 : Hid (∀ W, Calls Try.prog 23 #[.agg #[.int .i64 t.k, .slice g.a g.l.length g.c]] W fun e w' => ∃ q : Tr, e = .returned (.agg #[.int .i64 q.k, .slice q.a q.l.length q.c]) ∧ q.In w' ∧ q.ty = g.ty ∧ q.hgt ≤ 1000 ∧ q.sm ∧ Below W.heap.size W w') := fun W => by
    have h := ground_any g W
    rw [hgk] at h
    refine h.mono ?_
    rintro e w' ⟨q, rfl, hq, qty, hb⟩
    have hqg : goodT 4 q = true := by
      rw [goodT_eq, qty, gty, HF.out.2.2.2]
      exact HGG
    exact ⟨q, rfl, hq, by rw [qty, gty, HF.out.2.2.2], Nat.le_trans (Tr.hgt_good 4 _ hqg) (by omega), Tr.sm_good 4 _ hqg, hb⟩
  have G5 : Hid (∀ (q : Tr) W, q.In W → g.In W → q.ty = g.ty → q.hgt ≤ 1000 → q.sm → Calls Try.prog 10 #[.agg #[.int .i64 q.k, .slice q.a q.l.length q.c], .agg #[.int .i64 t.k, .slice g.a g.l.length g.c]] W fun e w' => e = .returned (.bool true) ∧ Below W.heap.size W w') := fun q W h1 h2 h3 h4 h5 => by
    have := same_whole q g W h1 h2 h4 h5
    rw [h3, same_refl, hgk] at this
    exact this
  rw [hgk]
  have hin2 : t.In w2 := hin.below hb4
  have hb5 : Below w2.heap.size w2 (w2.alloc (.cells #[.int .i64 t.k, .slice g.a g.l.length g.c] 24)) := (Below.refl _ _).alloc (Nat.le_refl _) _
  have i1 := hin2.below hb5
  have i2 := gin.below hb5
  have hb6 := hb4.trans (hb5.mono hb4.size)
  have lw : w.heap.size < w2.heap.size := World.block_lt_of_cell? _ _ p0
  clear hgk gty HF hb2 hb3 hin hin2 gin hb4 hb5 hh hs hk
  go_wp2_with fail
  go_region_held3 (fun w' => Below w.heap.size w w' ∧ t.In w' ∧ g.In w' ∧ w'.cell? ⟨w.heap.size, 0, none⟩ = some (.int .i64 t.k) ∧ w'.cell? ⟨w.heap.size, 1, none⟩ = some (.slice t.a t.l.length t.c) ∧ w'.cell? ⟨w2.heap.size, 0, none⟩ = some (.int .i64 t.k) ∧ w'.cell? ⟨w2.heap.size, 1, none⟩ = some (.slice g.a g.l.length g.c))
    (first
      | exact ⟨hb6.drew, i1.below (Below.refl _ _).drew, i2.below (Below.refl _ _).drew, cell_later (((Below.refl _ _).alloc (Nat.le_refl _) _).drew) p0, cell_later (((Below.refl _ _).alloc (Nat.le_refl _) _).drew) p1, by simp [go_sem], by simp [go_sem]⟩
      | (go_split_ands; exact ⟨Below.trans (by assumption) ((h27).mono (Below.size (by assumption))), Tr.In.below h27 (by assumption), Tr.In.below h27 (by assumption), cell_later h27 (by assumption), cell_later h27 (by assumption), cell_later h27 (by assumption), cell_later h27 (by assumption)⟩)
      | (go_split_ands; exact ⟨Below.trans (by assumption) ((h10).mono (Below.size (by assumption))), Tr.In.below h10 (by assumption), Tr.In.below h10 (by assumption), cell_later h10 (by assumption), cell_later h10 (by assumption), cell_later h10 (by assumption), cell_later h10 (by assumption)⟩)
      | (go_split_ands; exact ⟨Below.trans (by assumption) ((h23).mono (Below.size (by assumption))), Tr.In.below h23 (by assumption), Tr.In.below h23 (by assumption), cell_later h23 (by assumption), cell_later h23 (by assumption), cell_later h23 (by assumption), cell_later h23 (by assumption)⟩)
      | (go_split_ands; exact ⟨Below.trans (by assumption) ((h19).mono (Below.size (by assumption))), Tr.In.below h19 (by assumption), Tr.In.below h19 (by assumption), cell_later h19 (by assumption), cell_later h19 (by assumption), cell_later h19 (by assumption), cell_later h19 (by assumption)⟩)
      | (go_split_ands; exact ⟨Below.trans (by assumption) ((h15).mono (Below.size (by assumption))), Tr.In.below h15 (by assumption), Tr.In.below h15 (by assumption), cell_later h15 (by assumption), cell_later h15 (by assumption), cell_later h15 (by assumption), cell_later h15 (by assumption)⟩)
      | go_keep)
    (first
      | (go_at_call 15; go_split_ands; refine (G2.out _ (by assumption)).mono ?_; rintro e w15 ⟨rfl, h15⟩)
      | (go_at_call 19; go_split_ands; refine (G3.out _ (by assumption) (by assumption)).mono ?_; rintro e w19 ⟨rfl, h19⟩)
      | (go_at_call 23; go_split_ands; refine (G4.out _).mono ?_; rintro e w23 ⟨q, rfl, hq, qty, qh, qs, h23⟩; have HQ : Hid (q.ty = g.ty) := qty; clear qty)
      | (go_at_call 10; go_split_ands; refine (G5.out q _ (by assumption) (by assumption) HQ.out qh qs).mono ?_; rintro e w10 ⟨rfl, h10⟩)
      | (go_at_call 27; go_split_ands; refine (types_any _).mono ?_; rintro e w27 ⟨rfl, h27⟩))
  go_split_ands
  have hbe : Below w.heap.size w w27 := by assumption
  go_wp2_with fail
  go_ret
  exact ⟨rfl, hbe⟩

/-- chaperonekeep.KindGrounds. -/
theorem grounds_any (t : Tr) (w : World) (hin : t.In w) :
    Calls Try.prog 6 #[.agg #[.int .i64 t.k, .slice t.a t.l.length t.c]] w fun e w' => e = .returned (.bool true) ∧ Below w.heap.size w w' := by
  cases hg : goodT 4 t with
  | false => exact grounds_else t w hin (.inl hg)
  | true =>
    by_cases hk : t.k = 0
    · exact grounds_else t w hin (.inr ⟨hg, hk⟩)
    · exact grounds_main t w hin hg (by simpa using hk)
end Go.Proofs.Ytnddkmccagiclaa

/-
  What the call of kind.Sure answers at a right tree of not too many nodes.
-/
namespace Go.Proofs.Ytnddkmccagiclaa
open Go.RowKit

/-- Is Any nowhere in it? -/
def sureY : Ty → Bool
  | ⟨k, l⟩ => k != 0 && (l.map fun t => sureY t).all id
theorem sureY_mk (k : Int) (l : List Ty) : sureY ⟨k, l⟩ = (k != 0 && l.all sureY) := by
  rw [sureY, List.all_map]
  rfl

/-- How many nodes. -/
def Tr.sz : Tr → Nat
  | ⟨_, _, _, l⟩ => (l.map fun t => t.sz).sum + 1
theorem Tr.sz_mk (k : Int) (a : Option Addr) (c : Nat) (l : List Tr) : (Tr.mk k a c l).sz = (l.map Tr.sz).sum + 1 := by
  rw [Tr.sz]
theorem Tr.sz_pos (t : Tr) : 1 ≤ t.sz := by cases t; rw [Tr.sz_mk]; omega

theorem Tr.sz_good : ∀ (n : Nat) (t : Tr), goodT n t = true → t.sz + 1 ≤ 2 ^ n
  | 0, t, h => by simp [goodT] at h
  | n + 1, ⟨k, a, c, l⟩, h => by
    have hp : 1 ≤ 2 ^ n := Nat.one_le_two_pow
    rw [Tr.sz_mk, Nat.pow_succ]
    match l, h with
    | [], _ => simp; omega
    | [x], h => simp [goodT] at h
    | [x, y], h =>
      simp only [goodT, Bool.and_eq_true] at h
      have hx := Tr.sz_good n x h.1.2
      have hy := Tr.sz_good n y h.2
      simp only [List.map_cons, List.map_nil, List.sum_cons, List.sum_nil]; omega
    | x :: y :: z :: r, h => simp [goodT] at h

/-- The cells of a list of trees. -/
def cellsOf : List Tr → List Value
  | [] => []
  | t :: r => .int .i64 t.k :: .slice t.a t.l.length t.c :: cellsOf r

theorem cellsOf_length : ∀ l : List Tr, (cellsOf l).length = l.length * 2
  | [] => rfl
  | t :: r => by simp only [cellsOf, List.length_cons, cellsOf_length r]; omega

theorem cellsOf_append : ∀ l r : List Tr, cellsOf (l ++ r) = cellsOf l ++ cellsOf r
  | [], r => rfl
  | t :: l, r => by simp only [List.cons_append, cellsOf, cellsOf_append l r]

/-- What is left to be looked at. -/
def Left (B : Nat) (b : Bool) (N k : Nat) (v : Value) (wr : World) : Prop :=
  ∃ ts : List Tr, wr.ownsRow B 24 2 v ts.length (cellsOf ts) ∧ (∀ t, t ∈ ts → t.In wr ∧ t.Bl (· < B) ∧ t.right) ∧ (ts.map Tr.sz).sum = k ∧ k ≤ N ∧ b = ts.all fun t => sureY t.ty

theorem Left.split {ts : List Tr} (h : ts ≠ []) : ∃ us x, ts = us ++ [x] := ⟨ts.dropLast, ts.getLast h, (List.dropLast_concat_getLast h).symm⟩

/-- append of nothing, where there is room for nothing: a step of a region that draws. -/
theorem step_append_void {P : Program} {ops : Array Oper} {o : Oper} {a : Act} {w : World} {K : Act → World → Prop} {Q : Exit → Act → World → Prop} {E : Prop}
    (hg : o.guard = none) (s x : Operand) (t : TypeId) (hop : o.op = Op.call { callee := Callee.builtin Builtin.append, args := #[s, x], argTypes := #[t, t] })
    (e : TypeId) (i : TypeInfo) (h1 : P.underlying t = some (.slice e)) (h2 : P.info? e = some i)
    (b n cap : Nat) (hs : a.eval s = .slice (some ⟨b, 0, none⟩) n cap) (xa : Option Addr) (c : Nat) (hx : a.eval x = .slice xa 0 c) (hroom : n ≤ cap)
    (hK : K (a.put o.dst (.slice (some ⟨b, 0, none⟩) n cap)) w) :
    if Region.wanted o (yielded ops a.tmps) = true then Oper.wp P o a w K Q else E := by
  have hw : Region.wanted o (yielded ops a.tmps) = true := by simp [Region.wanted, hg]
  rw [if_pos hw]
  have hsrc : Src P i.size t (.slice xa 0 c) 0 [] w := by
    cases xa with
    | none => exact Src.ofNil w h1 c
    | some ad => exact Src.ofSlice w h1 ad 0 c [] (by simp) (fun j u h => by simp at h) (fun u h => by cases h)
  have hrun := run_append_room_src (P := P) w t t o.type e i h1 h2 b 0 n cap (.slice xa 0 c) 0 [] hsrc (by omega) (fun j h => by simp at h) (fun j h => by simp at h)
  unfold Oper.wp
  simp only [execOp, hop, resolve, invoke, builtin, Sem.run_bind, Sem.run_pure, Result.andThen_ok, List.map_toArray, List.map_cons, List.map_nil, hs, hx, hrun]
  exact hK

theorem sure_no (t : Tr) (h : t.k = 0) : sureY t.ty = false := by
  obtain ⟨k, a, c, l⟩ := t
  dsimp only at h
  rw [Tr.ty_mk, sureY_mk, h]
  simp

theorem sure_leaf (t : Tr) (h : t.l = []) (hk : t.k ≠ 0) : sureY t.ty = true := by
  obtain ⟨k, a, c, l⟩ := t
  dsimp only at h hk
  rw [Tr.ty_mk, sureY_mk, h]
  simpa using hk

theorem sure_two (t x y : Tr) (h : t.l = [x, y]) (hk : t.k ≠ 0) : sureY t.ty = (sureY x.ty && sureY y.ty) := by
  obtain ⟨k, a, c, l⟩ := t
  dsimp only at h hk
  rw [Tr.ty_mk, sureY_mk, h]
  simp [hk]

theorem Tr.sz_two (t x y : Tr) (h : t.l = [x, y]) : t.sz = x.sz + y.sz + 1 := by
  obtain ⟨k, a, c, l⟩ := t
  dsimp only at h
  rw [Tr.sz_mk, h]
  simp

theorem Try.info24s : (Try.prog.info? 24).map (fun i => (i.zero, i.size, i.bytes)) = some (some (.agg #[.int .i64 0, .slice none 0 0]), 2, 32) := by kernel_rfl

set_option maxHeartbeats 1000000 in
theorem sure_any (t : Tr) (w : World) (hin : t.In w) (hr : t.right) (hz : t.sz ≤ 1000000000) :
    Calls Try.prog 25 #[.agg #[.int .i64 t.k, .slice t.a t.l.length t.c]] w fun e w' => e = .returned (.bool (sureY t.ty)) ∧ Below w.heap.size w w' := by
  have HL : Hid (Left (w.heap.size + 1) (sureY t.ty) 1000000000 t.sz (.slice (some ⟨w.heap.size + 1, 0, none⟩) 1 1) ((w.alloc (.cells #[.int .i64 t.k, .slice t.a t.l.length t.c] 24)).alloc (.cells #[.int .i64 t.k, .slice t.a t.l.length t.c] 24))) := by
    have hb : Below w.heap.size w ((w.alloc (.cells #[.int .i64 t.k, .slice t.a t.l.length t.c] 24)).alloc (.cells #[.int .i64 t.k, .slice t.a t.l.length t.c] 24)) := ((Below.refl _ _).alloc (Nat.le_refl _) _).alloc (by simp) _
    have hh := heap_alloc_new (w.alloc (.cells #[.int .i64 t.k, .slice t.a t.l.length t.c] 24)) (.cells #[.int .i64 t.k, .slice t.a t.l.length t.c] 24)
    rw [World.size_alloc] at hh
    refine ⟨[t], ⟨rfl, .inr ⟨w.heap.size + 1, 1, _, rfl, Nat.le_refl _, hh, Nat.le_refl _, by unfold maxLen; omega, rfl, rfl⟩⟩, ?_, by simp, hz, by simp⟩
    intro x hx
    rcases List.mem_cons.1 hx with rfl | hx
    · exact ⟨hin.below hb, hin.bl.mono fun b hb => by omega, hr⟩
    · cases hx
  obtain ⟨i0, hi0, hz0, hz1, hz2⟩ := info_parts Try.info24s
  obtain ⟨B, hB⟩ : ∃ B, B = sureY t.ty := ⟨_, rfl⟩
  rw [← hB] at HL ⊢
  clear hB
  go_enter Try.func25, Try.ntmps25
  go_wp2_with fail
  go_loopg [3] t.sz (fun k v wr => ∃ u, u = v ∧ Hid (Left (w.heap.size + 1) B 1000000000 k u wr) ∧ Below w.heap.size w wr)
  case atStart => exact ⟨_, rfl, HL, ((Below.refl _ _).alloc (Nat.le_refl _) _).alloc (by simp) _⟩
  case round =>
    obtain ⟨v, hv, HR, hbr⟩ := hrel
    subst hv
    obtain ⟨ts, ho, hts, hk, hkn, hb⟩ := HR.out
    have HB : Hid (B = ts.all fun t => sureY t.ty) := hb
    clear hb HL
    by_cases hne : ts = []
    · subst hne
      obtain ⟨a, c, rfl⟩ : ∃ a c, v = .slice a 0 c := by
        rcases ho.2 with ⟨rfl, _⟩ | ⟨g, cap, cur, rfl, _⟩
        · exact ⟨_, _, rfl⟩
        · exact ⟨_, _, rfl⟩
      clear ho hts
      go_wp2_with fail
      go_ret
      exact ⟨by rw [HB.out]; rfl, hbr⟩
    · obtain ⟨us, x, rfl⟩ := Left.split hne
      have hlen : (us ++ [x]).length = us.length + 1 := by simp
      rw [hlen, cellsOf_append] at ho
      obtain ⟨g, cap, rfl, hg, hgl⟩ := ho.form (by omega)
      have c0 := ho.cellAt (us.length * 2) (by omega)
      have c1 := ho.cellAt (us.length * 2 + 1) (by omega)
      rw [List.getElem?_append_right (by rw [cellsOf_length]; exact Nat.le_refl _), cellsOf_length, Nat.sub_self] at c0
      rw [List.getElem?_append_right (by rw [cellsOf_length]; omega), cellsOf_length, show us.length * 2 + 1 - us.length * 2 = 1 by omega] at c1
      simp only [cellsOf, List.getElem?_cons_zero, List.getElem?_cons_succ] at c0 c1
      have hus : us.length ≤ (us.map Tr.sz).sum := by
        clear ho hts hk hkn HB HR c0 c1 hne hlen
        induction us with
        | nil => simp
        | cons u r ih => have := u.sz_pos; simp only [List.length_cons, List.map_cons, List.sum_cons]; omega
      have hk' : (us.map Tr.sz).sum + x.sz = gk := by rw [← hk]; simp
      have hcap : us.length + 1 ≤ cap := by
        rcases ho.2 with ⟨h, _⟩ | ⟨g', cap', cur, h, _, _, h1, _⟩
        · cases h
        · cases h; exact h1
      have hop : wr.ownsRow (w.heap.size + 1) 24 2 (.slice (some ⟨g, 0, none⟩) us.length cap) us.length (cellsOf us) := ownsRow_pop (cellsOf_length us) ho
      obtain ⟨xin, xbl, xr⟩ := hts x (by simp)
      have HT : Hid (∀ u, u ∈ us → u.In wr ∧ u.Bl (· < w.heap.size + 1) ∧ u.right) := fun u hu => hts u (by simp [hu])
      have i1 : (us.length : Int) < ((us.length : Int) + 1) := by omega
      have n1 : (us.length : Int) ≤ 1000000000 := by omega
      have n2 : (us.length : Int) ≤ (cap : Int) := by omega
      have n3 : (0 : Int) ≤ (us.length : Int) := by omega
      have hgne : g ≠ wr.heap.size := by omega
      clear ho hts hne hlen HR
      by_cases hx0 : x.k = 0
      · rw [hx0] at c0
        go_wp2_with fail
        go_ret
        refine ⟨?_, hbr.alloc hbr.size _⟩
        rw [HB.out, List.all_append, List.all_cons, sure_no x hx0]
        simp
      · have hx1 : (x.k == 0) = false := by simpa using hx0
        have HX : Hid (x.k ≠ 0) := hx0
        clear hx0
        rcases xr.cases with ⟨xl, xk⟩ | ⟨y, z, xl, xk, ry, rz⟩
        · rw [xl] at c1
          simp only [List.length_nil] at c1
          have HQ : Hid (x.l = []) := xl
          have hbb : Below w.heap.size w (wr.alloc (.cells #[.int .i64 x.k, .slice x.a 0 x.c] 24)) := hbr.alloc hbr.size _
          have HO : Hid (Left (w.heap.size + 1) B 1000000000 ((us.map Tr.sz).sum) (.slice (some ⟨g, 0, none⟩) us.length cap) (wr.alloc (.cells #[.int .i64 x.k, .slice x.a 0 x.c] 24)).drew) := by
            refine ⟨us, (hop.alloc _).drew, fun u hu => ?_, rfl, by omega, ?_⟩
            · obtain ⟨u1, u2, u3⟩ := HT.out u hu
              exact ⟨u1.below (((Below.refl _ _).alloc (Nat.le_refl _) _).drew), u2, u3⟩
            · rw [HB.out, List.all_append, List.all_cons, sure_leaf x xl HX.out]
              simp
          clear xl xk xin xbl xr HT HB
          go_wp2_with fail
          go_region_law ((refine step_append_void (by rfl) _ _ _ (by rfl) 24 i0 Try.underlying22 hi0 g us.length cap (by rfl) x.a x.c (by rfl) (by omega) ?_))
          go_wp2_with fail
          go_roundg ((us.map Tr.sz).sum)
          case measure => have := x.sz_pos; omega
          case rel => exact ⟨_, rfl, HO, hbb.drew⟩
        · obtain ⟨xb, xo, xa, y0, y1, yin⟩ := xin.part 0 (by simp [xl])
          obtain ⟨xb', xo', xa', z0, z1, zin⟩ := xin.part 1 (by simp [xl])
          rw [xa] at xa'
          obtain ⟨rfl, rfl⟩ : xb = xb' ∧ xo = xo' := by simpa using xa'
          simp only [xl, List.getElem_cons_zero, List.getElem_cons_succ] at y0 y1 z0 z1 yin zin
          have hnews : ∀ j u, (cellsOf [y, z])[j]? = some u → (wr.alloc (.cells #[.int .i64 x.k, .slice (some ⟨xb, xo, none⟩) 2 x.c] 24)).drew.cell? ((⟨xb, xo, none⟩ : Addr).add j) = some u := by
            have hbb : Below wr.heap.size wr (wr.alloc (.cells #[.int .i64 x.k, .slice (some ⟨xb, xo, none⟩) 2 x.c] 24)).drew := ((Below.refl _ _).alloc (Nat.le_refl _) _).drew
            intro j u hj
            match j, hj with
            | 0, hj => simp [cellsOf] at hj; subst hj; exact cell_later hbb (by simpa [Addr.add] using y0)
            | 1, hj => simp [cellsOf] at hj; subst hj; exact cell_later hbb (by simpa [Addr.add] using y1)
            | 2, hj => simp [cellsOf] at hj; subst hj; exact cell_later hbb (by simpa [Addr.add] using z0)
            | 3, hj => simp [cellsOf] at hj; subst hj; exact cell_later hbb (by simpa [Addr.add] using z1)
            | j + 4, hj => simp [cellsOf] at hj
          rw [xa, xl] at c1
          simp only [List.length_cons, List.length_nil, Nat.zero_add, Nat.reduceAdd] at c1
          have HQ : Hid (x.l = [y, z]) := xl
          have HN : Hid (∀ j u, (cellsOf [y, z])[j]? = some u → (wr.alloc (.cells #[.int .i64 x.k, .slice (some ⟨xb, xo, none⟩) 2 x.c] 24)).drew.cell? ((⟨xb, xo, none⟩ : Addr).add j) = some u) := hnews
          have HY : Hid (y.Bl (· < w.heap.size + 1) ∧ z.Bl (· < w.heap.size + 1)) := by
            obtain ⟨xk', xa'', xc', xl'⟩ := x
            dsimp only at xl
            subst xl
            exact ⟨(Tr.Bl_mk.1 xbl).2 y (by simp), (Tr.Bl_mk.1 xbl).2 z (by simp)⟩
          clear xl xk xin xbl xr xa xa' y0 y1 z0 z1 hnews
          go_wp2_with fail
          go_region_law
            ((refine step_append_lies _ (by rfl) _ _ _ (by rfl) (w.heap.size + 1) 24 i0 _ 2 32 Try.underlying22 hi0 hz0 hz1 hz2 rfl (by omega) (.slice (some ⟨g, 0, none⟩) us.length cap) us.length (cellsOf us) (by rfl) ((hop.alloc _).drew)
                ⟨xb, xo, none⟩ 2 x.c (cellsOf [y, z]) (by rfl) (by rfl) HN.out (by simp [cellsOf, Value.oneCell'])
                (by omega) (by unfold maxLen; omega) (by omega) (by simp; omega) (wr.heap.size + 1) (by simp) ?_; intro gg cap1 w1 hown1 hgrow hat hlt))
          have hbg : Below (w.heap.size + 1) wr w1 := (((Below.refl _ _).alloc (by omega) _).drew).grown hgrow (by simp; omega) (fun k hk => by simp [Value.ownBlock] at hk; omega)
          have HO : Hid (Left (w.heap.size + 1) B 1000000000 (((us ++ [y, z]).map Tr.sz).sum) (.slice (some ⟨gg, 0, none⟩) (us.length + 2) cap1) w1) := by
            refine ⟨us ++ [y, z], ?_, fun u hu => ?_, rfl, ?_, ?_⟩
            · rw [cellsOf_append, List.length_append]
              exact hown1
            · rcases List.mem_append.1 hu with hu | hu
              · obtain ⟨u1, u2, u3⟩ := HT.out u hu
                exact ⟨u1.congr (P := (· < w.heap.size + 1)) (fun b hb o => hbg.cell (p := ⟨b, o, none⟩) hb) u2, u2, u3⟩
              · rcases List.mem_cons.1 hu with rfl | hu
                · exact ⟨yin.congr (P := (· < w.heap.size + 1)) (fun b hb o => hbg.cell (p := ⟨b, o, none⟩) hb) HY.out.1, HY.out.1, ry⟩
                · rcases List.mem_cons.1 hu with rfl | hu
                  · exact ⟨zin.congr (P := (· < w.heap.size + 1)) (fun b hb o => hbg.cell (p := ⟨b, o, none⟩) hb) HY.out.2, HY.out.2, rz⟩
                  · cases hu
            · have hsz := Tr.sz_two x y z HQ.out
              simp only [List.map_append, List.sum_append_nat, List.map_cons, List.map_nil, List.sum_cons, List.sum_nil]
              omega
            · rw [HB.out, List.all_append, List.all_append, List.all_cons, List.all_cons, List.all_cons, sure_two x y z HQ.out HX.out]
              simp
          have hb1 : Below w.heap.size w w1 := hbr.trans (hbg.mono (by omega))
          have hms : (((us ++ [y, z]).map Tr.sz).sum) < gk := by
            have hsz := Tr.sz_two x y z HQ.out
            simp only [List.map_append, List.sum_append_nat, List.map_cons, List.map_nil, List.sum_cons, List.sum_nil]
            omega
          clear hown1 hgrow hat hbg
          go_wp2_with fail
          go_roundg (((us ++ [y, z]).map Tr.sz).sum)
          case measure => exact hms
          case rel => exact ⟨_, rfl, HO, hb1⟩
end Go.Proofs.Ytnddkmccagiclaa

/-
  The plain mathematics of good types: what both say each of them says; who is finer fits; what is sure fits only what is coarser; no program in it.
-/
namespace Go.Proofs.Ytnddkmccagiclaa

theorem goodY_cases {n : Nat} {t : Ty} (h : goodY (n + 1) t = true) : (∃ k, t = ⟨k, []⟩ ∧ (k = 0 ∨ k = 1 ∨ k = 2)) ∨ ∃ x y, t = ⟨3, [x, y]⟩ ∧ goodY n x = true ∧ goodY n y = true := by
  match t, h with
  | ⟨k, []⟩, h => exact .inl ⟨k, rfl, by simpa [goodY, or_assoc] using h⟩
  | ⟨k, [x]⟩, h => simp [goodY] at h
  | ⟨k, [x, y]⟩, h =>
    simp [goodY] at h
    obtain ⟨⟨rfl, hx⟩, hy⟩ := h
    exact .inr ⟨x, y, rfl, hx, hy⟩
  | ⟨k, x :: y :: z :: r⟩, h => simp [goodY] at h

theorem any_left (t : Ty) (l : List Ty) : relY escFits ⟨0, l⟩ t = true := by cases t; simp [relY_mk, escFits]
theorem any_right (t : Ty) (l : List Ty) : relY escFits t ⟨0, l⟩ = true := by cases t; simp [relY_mk, escFits]
theorem any_coarser (t : Ty) (l : List Ty) : relY escFiner t ⟨0, l⟩ = true := by cases t; simp [relY_mk, escFiner]

theorem two (esc : Int → Int → Bool) (x y x' y' : Ty) (h : esc 3 3 = false) : relY esc ⟨3, [x, y]⟩ ⟨3, [x', y']⟩ = (relY esc x x' && relY esc y y') := by
  simp [relY_mk, relL, h]

theorem join_two (x y x' y' : Ty) : joinY ⟨3, [x, y]⟩ ⟨3, [x', y']⟩ = ⟨3, [joinY x x', joinY y y']⟩ := by
  simp [joinY_mk, joinL]

theorem join_facts : ∀ (n : Nat) (a b : Ty), goodY n a = true → goodY n b = true →
    goodY n (joinY a b) = true ∧ relY escFiner a (joinY a b) = true ∧ relY escFiner b (joinY a b) = true ∧ joinY b a = joinY a b ∧ joinY a a = a
  | 0, a, b, h, _ => by simp [goodY] at h
  | n + 1, a, b, ha, hb => by
    rcases goodY_cases ha with ⟨k, rfl, hk⟩ | ⟨x, y, rfl, hx, hy⟩
    · rcases goodY_cases hb with ⟨k', rfl, hk'⟩ | ⟨x', y', rfl, hx', hy'⟩
      · by_cases e : k = k'
        · subst e
          rcases hk with rfl | rfl | rfl <;> simp [joinY_mk, joinL, goodY, relY_mk, relL]
        · have e' : k' ≠ k := fun h => e h.symm
          simp [joinY_mk, joinL, e, e', goodY, relY_mk, escFiner]
      · have e : k ≠ 3 := by omega
        have e' : (3 : Int) ≠ k := by omega
        simp [joinY_mk, joinL, e, e', goodY, relY_mk, escFiner]
    · rcases goodY_cases hb with ⟨k', rfl, hk'⟩ | ⟨x', y', rfl, hx', hy'⟩
      · have e : k' ≠ 3 := by omega
        have e' : (3 : Int) ≠ k' := by omega
        obtain ⟨_, _, _, _, ix⟩ := join_facts n x x hx hx
        obtain ⟨_, _, _, _, iy⟩ := join_facts n y y hy hy
        simp [joinY_mk, joinL, e, e', goodY, relY_mk, escFiner, ix, iy]
      · obtain ⟨g1, f1, f2, c1, i1⟩ := join_facts n x x' hx hx'
        obtain ⟨g2, f3, f4, c2, i2⟩ := join_facts n y y' hy hy'
        refine ⟨?_, ?_, ?_, ?_, ?_⟩
        · rw [join_two]; simp [goodY, g1, g2]
        · rw [join_two, two _ _ _ _ _ rfl, f1, f3]; rfl
        · rw [join_two, two _ _ _ _ _ rfl, f2, f4]; rfl
        · rw [join_two, join_two, c1, c2]
        · rw [join_two, i1, i2]

theorem join_least : ∀ (n : Nat) (a b c : Ty), goodY n a = true → goodY n b = true → goodY n c = true → relY escFiner a c = true → relY escFiner b c = true → relY escFiner (joinY a b) c = true
  | 0, a, b, c, h, _, _ => by simp [goodY] at h
  | n + 1, a, b, c, ha, hb, hc => by
    intro h1 h2
    rcases goodY_cases hc with ⟨k, rfl, hk⟩ | ⟨z, u, rfl, hz, hu⟩
    · rcases hk with rfl | hk
      · exact any_coarser _ _
      · have k0 : k ≠ 0 := by omega
        rcases goodY_cases ha with ⟨ka, rfl, _⟩ | ⟨x, y, rfl, hx, hy⟩
        · rcases goodY_cases hb with ⟨kb, rfl, _⟩ | ⟨x', y', rfl, hx', hy'⟩
          · simp [relY_mk, relL, escFiner, k0] at h1 h2
            subst h1
            subst h2
            simp [joinY_mk, joinL, relY_mk, relL]
          · simp [relY_mk, relL, escFiner, k0] at h2
        · simp [relY_mk, relL, escFiner, k0] at h1
    · rcases goodY_cases ha with ⟨ka, rfl, hka⟩ | ⟨x, y, rfl, hx, hy⟩
      · have e : ka ≠ 3 := by omega
        simp [relY_mk, relL, escFiner] at h1
      · rcases goodY_cases hb with ⟨kb, rfl, hkb⟩ | ⟨x', y', rfl, hx', hy'⟩
        · simp [relY_mk, relL, escFiner] at h2
        · rw [two _ _ _ _ _ rfl, Bool.and_eq_true] at h1 h2
          rw [join_two, two _ _ _ _ _ rfl, join_least n x x' z hx hx' hz h1.1 h2.1, join_least n y y' u hy hy' hu h1.2 h2.2]
          rfl

theorem fits_sym : ∀ (n : Nat) (a b : Ty), goodY n a = true → goodY n b = true → relY escFits a b = relY escFits b a
  | 0, a, b, h, _ => by simp [goodY] at h
  | n + 1, a, b, ha, hb => by
    rcases goodY_cases ha with ⟨ka, rfl, _⟩ | ⟨x, y, rfl, hx, hy⟩
    · rcases goodY_cases hb with ⟨kb, rfl, _⟩ | ⟨x', y', rfl, hx', hy'⟩
      · simp [relY_mk, relL, escFits, Bool.or_comm, Bool.beq_comm]
      · simp [relY_mk, relL, escFits]
    · rcases goodY_cases hb with ⟨kb, rfl, _⟩ | ⟨x', y', rfl, hx', hy'⟩
      · simp [relY_mk, relL, escFits]
      · rw [two _ _ _ _ _ rfl, two _ _ _ _ _ rfl, fits_sym n x x' hx hx', fits_sym n y y' hy hy']

theorem fits_refl : ∀ (n : Nat) (a : Ty), goodY n a = true → relY escFits a a = true
  | 0, a, h => by simp [goodY] at h
  | n + 1, a, ha => by
    rcases goodY_cases ha with ⟨ka, rfl, _⟩ | ⟨x, y, rfl, hx, hy⟩
    · simp [relY_mk, relL]
    · rw [two _ _ _ _ _ rfl, fits_refl n x hx, fits_refl n y hy]; rfl

theorem finer_fits : ∀ (n : Nat) (a b : Ty), goodY n a = true → goodY n b = true → relY escFiner a b = true → relY escFits a b = true
  | 0, a, b, h, _ => by simp [goodY] at h
  | n + 1, a, b, ha, hb => by
    intro h
    rcases goodY_cases hb with ⟨kb, rfl, _⟩ | ⟨x', y', rfl, hx', hy'⟩
    · rcases goodY_cases ha with ⟨ka, rfl, _⟩ | ⟨x, y, rfl, hx, hy⟩
      · simp [relY_mk, relL, escFiner] at h
        simp [relY_mk, relL, escFits]
        omega
      · simp [relY_mk, relL, escFiner] at h
        subst h
        exact any_right _ _
    · rcases goodY_cases ha with ⟨ka, rfl, _⟩ | ⟨x, y, rfl, hx, hy⟩
      · simp [relY_mk, relL, escFiner] at h
      · rw [two _ _ _ _ _ rfl, Bool.and_eq_true] at h
        rw [two _ _ _ _ _ rfl, finer_fits n x x' hx hx' h.1, finer_fits n y y' hy hy' h.2]
        rfl

theorem fits_coarser : ∀ (n : Nat) (a b c : Ty), goodY n a = true → goodY n b = true → goodY n c = true → relY escFits a b = true → relY escFiner b c = true → relY escFits a c = true
  | 0, a, b, c, h, _, _ => by simp [goodY] at h
  | n + 1, a, b, c, ha, hb, hc => by
    intro h1 h2
    rcases goodY_cases hc with ⟨k, rfl, hk⟩ | ⟨z, u, rfl, hz, hu⟩
    · by_cases k0 : k = 0
      · subst k0; exact any_right _ _
      · rcases goodY_cases hb with ⟨kb, rfl, hkb⟩ | ⟨x', y', rfl, hx', hy'⟩
        · simp [relY_mk, relL, escFiner, k0] at h2
          subst h2
          exact h1
        · simp [relY_mk, relL, escFiner, k0] at h2
    · rcases goodY_cases hb with ⟨kb, rfl, hkb⟩ | ⟨x', y', rfl, hx', hy'⟩
      · simp [relY_mk, relL, escFiner] at h2
      · rcases goodY_cases ha with ⟨ka, rfl, hka⟩ | ⟨x, y, rfl, hx, hy⟩
        · simp [relY_mk, relL, escFits] at h1
          subst h1
          exact any_left _ _
        · rw [two _ _ _ _ _ rfl, Bool.and_eq_true] at h1 h2
          rw [two _ _ _ _ _ rfl, fits_coarser n x x' z hx hx' hz h1.1 h2.1, fits_coarser n y y' u hy hy' hu h1.2 h2.2]
          rfl

theorem sure_fits : ∀ (n : Nat) (a b : Ty), goodY n a = true → goodY n b = true → sureY a = true → relY escFits a b = relY escFiner a b
  | 0, a, b, h, _ => by simp [goodY] at h
  | n + 1, a, b, ha, hb => by
    intro hs
    rcases goodY_cases ha with ⟨ka, rfl, _⟩ | ⟨x, y, rfl, hx, hy⟩
    · have k0 : ka ≠ 0 := by simpa [sureY_mk] using hs
      have k1 : (ka == 0) = false := by simpa using k0
      rcases goodY_cases hb with ⟨kb, rfl, _⟩ | ⟨x', y', rfl, hx', hy'⟩
      · simp [relY_mk, relL, escFits, escFiner, k1]
      · simp [relY_mk, relL, escFits, escFiner, k0]
    · rcases goodY_cases hb with ⟨kb, rfl, _⟩ | ⟨x', y', rfl, hx', hy'⟩
      · simp [relY_mk, relL, escFits, escFiner]
      · have hs' : sureY x = true ∧ sureY y = true := by simpa [sureY_mk] using hs
        rw [two _ _ _ _ _ rfl, two _ _ _ _ _ rfl, sure_fits n x x' hx hx' hs'.1, sure_fits n y y' hy hy' hs'.2]

theorem finer_trans : ∀ (n : Nat) (a b c : Ty), goodY n a = true → goodY n b = true → goodY n c = true → relY escFiner a b = true → relY escFiner b c = true → relY escFiner a c = true
  | 0, a, b, c, h, _, _ => by simp [goodY] at h
  | n + 1, a, b, c, ha, hb, hc => by
    intro h1 h2
    rcases goodY_cases hc with ⟨k, rfl, hk⟩ | ⟨z, u, rfl, hz, hu⟩
    · by_cases k0 : k = 0
      · subst k0; exact any_coarser _ _
      · rcases goodY_cases hb with ⟨kb, rfl, hkb⟩ | ⟨x', y', rfl, hx', hy'⟩
        · simp [relY_mk, relL, escFiner, k0] at h2
          subst h2
          exact h1
        · simp [relY_mk, relL, escFiner, k0] at h2
    · rcases goodY_cases hb with ⟨kb, rfl, hkb⟩ | ⟨x', y', rfl, hx', hy'⟩
      · simp [relY_mk, relL, escFiner] at h2
      · rcases goodY_cases ha with ⟨ka, rfl, hka⟩ | ⟨x, y, rfl, hx, hy⟩
        · simp [relY_mk, relL, escFiner] at h1
        · rw [two _ _ _ _ _ rfl, Bool.and_eq_true] at h1 h2
          rw [two _ _ _ _ _ rfl, finer_trans n x x' z hx hx' hz h1.1 h2.1, finer_trans n y y' u hy hy' hu h1.2 h2.2]
          rfl

theorem finer_both : ∀ (n : Nat) (a b : Ty), goodY n a = true → goodY n b = true → relY escFiner a b = true → relY escFiner b a = true → relY escSame a b = true
  | 0, a, b, h, _ => by simp [goodY] at h
  | n + 1, a, b, ha, hb => by
    intro h1 h2
    rcases goodY_cases ha with ⟨ka, rfl, hka⟩ | ⟨x, y, rfl, hx, hy⟩
    · rcases goodY_cases hb with ⟨kb, rfl, hkb⟩ | ⟨x', y', rfl, hx', hy'⟩
      · simp [relY_mk, relL, escFiner] at h1 h2
        simp [relY_mk, relL, escSame]
        omega
      · simp [relY_mk, relL, escFiner] at h1
    · rcases goodY_cases hb with ⟨kb, rfl, hkb⟩ | ⟨x', y', rfl, hx', hy'⟩
      · simp [relY_mk, relL, escFiner] at h2
      · rw [two _ _ _ _ _ rfl, Bool.and_eq_true] at h1 h2
        rw [two _ _ _ _ _ rfl, finer_both n x x' hx hx' h1.1 h2.1, finer_both n y y' hy hy' h1.2 h2.2]
        rfl
end Go.Proofs.Ytnddkmccagiclaa
