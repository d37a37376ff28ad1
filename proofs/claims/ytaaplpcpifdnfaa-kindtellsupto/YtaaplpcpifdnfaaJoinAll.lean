/-
  What the calls of kind.join and kind.Join answer at two right trees of which the first has at most a thousand levels.
-/
import Derived.Test.YtaaplpcpifdnfaaJoin
namespace Go.Proofs.Ytaaplpcpifdnfaa
open Go.RowKit

theorem set_keeps {ib io : Nat} {w : World} {u v : Value} {t : Tr} (hin : t.In w) (hne : t.Bl (· ≠ ib)) : t.In ((w.setCell ⟨ib, io, none⟩ u).setCell ⟨ib, io + 1, none⟩ v) := by
  refine hin.congr (P := (· ≠ ib)) ?_ hne
  intro b hb o
  rw [World.cell?_setCell_other, World.cell?_setCell_other]
  · intro e; simp only [Addr.mk.injEq] at e; omega
  · intro e; simp only [Addr.mk.injEq] at e; omega

theorem Joined.of_parts {x y x0 x1 y0 y1 : Tr} {ib io P : Nat} {w wr W1 : World} (hx : x.l = [x0, x1]) (hy : y.l = [y0, y1]) (kx : x.k = 3) (ky : y.k = 3) (hib : ib < w.heap.size) (hP : w.heap.size ≤ P) (hb : Below w.heap.size w wr) (h : JI W1 P x0 x1 y0 y1 2 wr)
    (z0 : w.cell? ⟨ib, io, none⟩ = some (.int .i64 0)) (z1 : w.cell? ⟨ib, io + 1, none⟩ = some (.slice none 0 0)) :
    Joined x y ib io w ((wr.setCell ⟨ib, io, none⟩ (.int .i64 3)).setCell ⟨ib, io + 1, none⟩ (.slice (some ⟨P, 0, none⟩) 2 2)) := by
  obtain ⟨_, hf, s0, s1, i0, i1, b0, b1, d0, d1, d2, d3, t0, t1, _, _⟩ := h
  have hc := set_cells (u := .int .i64 3) (v := .slice (some ⟨P, 0, none⟩) 2 2) (cell_later hb z0) (cell_later hb z1)
  have hcell : ∀ o, ((wr.setCell ⟨ib, io, none⟩ (.int .i64 3)).setCell ⟨ib, io + 1, none⟩ (.slice (some ⟨P, 0, none⟩) 2 2)).cell? ⟨P, o, none⟩ = wr.cell? ⟨P, o, none⟩ := by
    intro o
    rw [World.cell?_setCell_other, World.cell?_setCell_other]
    · intro e; simp only [Addr.mk.injEq] at e; omega
    · intro e; simp only [Addr.mk.injEq] at e; omega
  refine ⟨.mk 3 (some ⟨P, 0, none⟩) 2 [s0, s1], ?_, ?_, ?_, hc.1, hc.2, (Wrote.of_below hb hib).set _ _⟩
  · obtain ⟨k, a, c, l⟩ := x
    obtain ⟨k', a', c', l'⟩ := y
    dsimp only at hx hy kx ky
    subst hx hy kx ky
    simp [Tr.ty_mk, joinY_mk, joinL, t0 (by omega), t1 (by omega)]
  · exact Tr.In_two (by rw [hcell]; exact d0) (by rw [hcell]; exact d1) (by rw [hcell]; exact d2) (by rw [hcell]; exact d3) (set_keeps i0 (b0.mono fun b hb => by omega)) (set_keeps i1 (b1.mono fun b hb => by omega))
  · exact Tr.Bl_two hP (b0.mono fun b hb => by omega) (b1.mono fun b hb => by omega)

theorem Joined.of_diff {x y : Tr} {ib io : Nat} {w w' : World} (hk : x.k ≠ y.k) (hib : ib < w.heap.size) (hb : Below w.heap.size w w') (z0 : w.cell? ⟨ib, io, none⟩ = some (.int .i64 0)) (z1 : w.cell? ⟨ib, io + 1, none⟩ = some (.slice none 0 0)) : Joined x y ib io w w' := by
  refine ⟨leaf 0, ?_, leaf_in _ _, leaf_bl _ _, cell_later hb z0, cell_later hb z1, Wrote.of_below hb hib⟩
  obtain ⟨k, a, c, l⟩ := x
  obtain ⟨k', a', c', l'⟩ := y
  dsimp only at hk
  simp [leaf, Tr.ty_mk, joinY_mk, if_neg hk]

theorem join_any (n : Nat) : n ≤ 1000 → ∀ (x y : Tr) (rp : Option Addr) (ib io : Nat) (w : World), x.In w → y.In w → x.right → y.right → x.hgt ≤ n → w.cell? ⟨ib, io, none⟩ = some (.int .i64 0) → w.cell? ⟨ib, io + 1, none⟩ = some (.slice none 0 0) → w.frozen? ⟨ib, io, none⟩ = false → w.frozen? ⟨ib, io + 1, none⟩ = false →
    Calls Try.prog 36 #[.agg #[.int .i64 x.k, .slice x.a x.l.length x.c, .int .i64 y.k, .slice y.a y.l.length y.c, .pointer (some ⟨ib, io, none⟩)], .int .i64 (n : Int), .pointer rp] w fun e w' => e = .returned (.tuple #[]) ∧ Joined x y ib io w w' := by
  induction n with
  | zero =>
    intro _ x y rp ib io w _ _ _ _ h
    have := x.hgt_pos
    omega
  | succ n ih =>
    intro hn x y rp ib io w hx hy rx ry hh z0 z1 f0 f1
    have lb : ib < w.heap.size := World.block_lt_of_cell? _ _ z0
    have e : ((n + 1 : Nat) : Int) = (n : Int) + 1 := by omega
    rw [e]
    by_cases hk : x.k = y.k
    · rcases rx.cases with ⟨lx, kx⟩ | ⟨x0, x1, lx, kx, r0, r1⟩
      · rcases ry.cases with ⟨ly, ky⟩ | ⟨y0, y1, ly, ky, _, _⟩
        · rw [lx, ly, ← hk]
          refine (join_leaf n (by omega) x.k x.a y.a rp x.c y.c ib io w z0 z1 f0 f1).mono ?_
          rintro e w' ⟨rfl, g, c0, c1, hw⟩
          refine ⟨rfl, .mk x.k (some ⟨g, 0, none⟩) 0 [], ?_, Tr.In_nil _ _ _ _, Tr.Bl_nil _ _ _ _, c0, c1, hw⟩
          obtain ⟨k, a, c, l⟩ := x
          obtain ⟨k', a', c', l'⟩ := y
          dsimp only at lx ly hk
          subst lx ly hk
          simp [Tr.ty_mk, joinY_mk, joinL]
        · omega
      · rcases ry.cases with ⟨ly, ky⟩ | ⟨y0, y1, ly, ky, q0, q1⟩
        · omega
        · obtain ⟨bx, ox, ax, cx0, cx1, hx0⟩ := hx.part 0 (by simp [lx])
          obtain ⟨bx', ox', ax', cx2, cx3, hx1⟩ := hx.part 1 (by simp [lx])
          obtain ⟨by', oy, ay, cy0, cy1, hy0⟩ := hy.part 0 (by simp [ly])
          obtain ⟨by'', oy', ay', cy2, cy3, hy1⟩ := hy.part 1 (by simp [ly])
          have hg0 := Tr.hgt_part hh 0 (by simp [lx])
          have hg1 := Tr.hgt_part hh 1 (by simp [lx])
          rw [ax] at ax'
          rw [ay] at ay'
          obtain ⟨rfl, rfl⟩ : bx = bx' ∧ ox = ox' := by simpa using ax'
          obtain ⟨rfl, rfl⟩ : by' = by'' ∧ oy = oy' := by simpa using ay'
          simp only [lx, List.getElem_cons_zero, List.getElem_cons_succ] at cx0 cx1 cx2 cx3 hx0 hx1 hg0 hg1
          simp only [ly, List.getElem_cons_zero, List.getElem_cons_succ] at cy0 cy1 cy2 cy3 hy0 hy1
          rw [ax, ay, lx, ly, kx, ky]
          refine (join_fun n (by omega) rp bx ox by' oy x.c y.c ib io x0 x1 y0 y1 w z0 z1 f0 f1 (by simpa using cx0) (by simpa using cx1) (by simpa using cx2) (by simpa using cx3) (by simpa using cy0) (by simpa using cy1) (by simpa using cy2) (by simpa using cy3)
            (fun P W _ hb g0 g1 gf => ih (by omega) x0 y0 rp P 0 W (hx0.below hb) (hy0.below hb) r0 q0 hg0 g0 g1 (gf _) (gf _))
            (fun P W _ hb g0 g1 gf => ih (by omega) x1 y1 rp P 2 W (hx1.below hb) (hy1.below hb) r1 q1 hg1 g0 g1 (gf _) (gf _))).mono ?_
          rintro e w' ⟨rfl, W1, wr, P, hP, hb, hji, rfl⟩
          exact ⟨rfl, Joined.of_parts lx ly kx ky lb hP hb hji z0 z1⟩
    · refine (join_diff n (by omega) x.k y.k (by simpa using hk) x.a y.a (some ⟨ib, io, none⟩) rp x.l.length y.l.length x.c y.c w).mono ?_
      rintro e w' ⟨rfl, rfl⟩
      exact ⟨rfl, Joined.of_diff hk lb ((Below.refl _ _).alloc (Nat.le_refl _) _) z0 z1⟩
end Go.Proofs.Ytaaplpcpifdnfaa
