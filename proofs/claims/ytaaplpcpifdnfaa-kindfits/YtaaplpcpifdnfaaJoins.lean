/-
  The call of chaperonekeep.KindJoins answers true at whatever three trees lie in memory, and nothing that was there has turned.
-/
import Derived.Test.YtaaplpcpifdnfaaLaws
namespace Go.Proofs.Ytaaplpcpifdnfaa
open Go.RowKit

/-- Three trees that lie in memory, and the boxes in which they were handed in. -/
def Fx (w : World) (x y z : Tr) (W : World) : Prop :=
  Below w.heap.size w W ∧ x.In W ∧ y.In W ∧ z.In W ∧ W.cell? ⟨w.heap.size, 0, none⟩ = some (.int .i64 x.k) ∧ W.cell? ⟨w.heap.size, 1, none⟩ = some (.slice x.a x.l.length x.c) ∧
    W.cell? ⟨w.heap.size + 1, 0, none⟩ = some (.int .i64 y.k) ∧ W.cell? ⟨w.heap.size + 1, 1, none⟩ = some (.slice y.a y.l.length y.c) ∧ W.cell? ⟨w.heap.size + 1 + 1, 0, none⟩ = some (.int .i64 z.k) ∧ W.cell? ⟨w.heap.size + 1 + 1, 1, none⟩ = some (.slice z.a z.l.length z.c)

theorem Fx.later {w W W' : World} {x y z : Tr} (h : Fx w x y z W) (hb : Below W.heap.size W W') : Fx w x y z W' := by
  obtain ⟨h0, i1, i2, i3, c1, c2, c3, c4, c5, c6⟩ := h
  exact ⟨h0.trans (hb.mono h0.size), i1.below hb, i2.below hb, i3.below hb, cell_later hb c1, cell_later hb c2, cell_later hb c3, cell_later hb c4, cell_later hb c5, cell_later hb c6⟩

theorem Fx.start {w : World} {x y z : Tr} (hx : x.In w) (hy : y.In w) (hz : z.In w) :
    Fx w x y z (((w.alloc (.cells #[.int .i64 x.k, .slice x.a x.l.length x.c] 24)).alloc (.cells #[.int .i64 y.k, .slice y.a y.l.length y.c] 24)).alloc (.cells #[.int .i64 z.k, .slice z.a z.l.length z.c] 24)) := by
  have hb : Below w.heap.size w (((w.alloc (.cells #[.int .i64 x.k, .slice x.a x.l.length x.c] 24)).alloc (.cells #[.int .i64 y.k, .slice y.a y.l.length y.c] 24)).alloc (.cells #[.int .i64 z.k, .slice z.a z.l.length z.c] 24)) := (((Below.refl _ _).alloc (Nat.le_refl _) _).alloc (by simp) _).alloc (by simp; omega) _
  have h1 : Below (w.alloc (.cells #[.int .i64 x.k, .slice x.a x.l.length x.c] 24)).heap.size (w.alloc (.cells #[.int .i64 x.k, .slice x.a x.l.length x.c] 24)) (((w.alloc (.cells #[.int .i64 x.k, .slice x.a x.l.length x.c] 24)).alloc (.cells #[.int .i64 y.k, .slice y.a y.l.length y.c] 24)).alloc (.cells #[.int .i64 z.k, .slice z.a z.l.length z.c] 24)) := ((Below.refl _ _).alloc (Nat.le_refl _) _).alloc (by simp) _
  have h2 : Below ((w.alloc (.cells #[.int .i64 x.k, .slice x.a x.l.length x.c] 24)).alloc (.cells #[.int .i64 y.k, .slice y.a y.l.length y.c] 24)).heap.size ((w.alloc (.cells #[.int .i64 x.k, .slice x.a x.l.length x.c] 24)).alloc (.cells #[.int .i64 y.k, .slice y.a y.l.length y.c] 24)) (((w.alloc (.cells #[.int .i64 x.k, .slice x.a x.l.length x.c] 24)).alloc (.cells #[.int .i64 y.k, .slice y.a y.l.length y.c] 24)).alloc (.cells #[.int .i64 z.k, .slice z.a z.l.length z.c] 24)) := (Below.refl _ _).alloc (Nat.le_refl _) _
  refine ⟨hb, hx.below hb, hy.below hb, hz.below hb, cell_later h1 (by simp [go_sem]), cell_later h1 (by simp [go_sem]), cell_later h2 ?_, cell_later h2 ?_, ?_, ?_⟩
  all_goals simp [go_sem]

set_option maxHeartbeats 1000000 in
theorem joins_else (x y z : Tr) (w : World) (hx : x.In w) (hy : y.In w) (hz : z.In w) (hh : goodT 4 x = false ∨ goodT 4 x = true ∧ goodT 4 y = false ∨ goodT 4 x = true ∧ goodT 4 y = true ∧ goodT 4 z = false) :
    Calls Try.prog 4 #[.agg #[.int .i64 x.k, .slice x.a x.l.length x.c], .agg #[.int .i64 y.k, .slice y.a y.l.length y.c], .agg #[.int .i64 z.k, .slice z.a z.l.length z.c]] w fun e w' => e = .returned (.bool true) ∧ Below w.heap.size w w' := by
  have HF : Hid (Fx w x y z (((w.alloc (.cells #[.int .i64 x.k, .slice x.a x.l.length x.c] 24)).alloc (.cells #[.int .i64 y.k, .slice y.a y.l.length y.c] 24)).alloc (.cells #[.int .i64 z.k, .slice z.a z.l.length z.c] 24))) := Fx.start hx hy hz
  obtain ⟨gx, hgx⟩ : ∃ g, goodT 4 x = g := ⟨_, rfl⟩
  obtain ⟨gy, hgy⟩ : ∃ g, goodT 4 y = g := ⟨_, rfl⟩
  obtain ⟨gz, hgz⟩ : ∃ g, goodT 4 z = g := ⟨_, rfl⟩
  have G1 : Hid (∀ W, x.In W → Calls Try.prog 7 #[.agg #[.int .i64 x.k, .slice x.a x.l.length x.c]] W fun e w' => e = .returned (.bool gx) ∧ Below W.heap.size W w') := fun W h => hgx ▸ good_any x W h
  have G2 : Hid (∀ W, y.In W → Calls Try.prog 7 #[.agg #[.int .i64 y.k, .slice y.a y.l.length y.c]] W fun e w' => e = .returned (.bool gy) ∧ Below W.heap.size W w') := fun W h => hgy ▸ good_any y W h
  have G3 : Hid (∀ W, z.In W → Calls Try.prog 7 #[.agg #[.int .i64 z.k, .slice z.a z.l.length z.c]] W fun e w' => e = .returned (.bool gz) ∧ Below W.heap.size W w') := fun W h => hgz ▸ good_any z W h
  rw [hgx, hgy, hgz] at hh
  clear hgx hgy hgz hx hy hz
  rcases hh with rfl | ⟨rfl, rfl⟩ | ⟨rfl, rfl, rfl⟩
  · clear G2 G3
    go_enter Try.func4, Try.ntmps4
    go_wp2_with fail
    refine (G1.out _ HF.out.2.1).mono ?_
    rintro e w1 ⟨rfl, h1⟩
    have HF1 : Hid (Fx w x y z w1) := HF.out.later h1
    clear HF h1
    go_wp2_with fail
    refine (types_any _).mono ?_
    rintro e w2 ⟨rfl, h2⟩
    have hb := (HF1.out.later h2).1
    clear h2 HF1
    go_wp2_with fail
    go_ret
    exact ⟨rfl, hb⟩
  · clear G3
    go_enter Try.func4, Try.ntmps4
    go_wp2_with fail
    refine (G1.out _ HF.out.2.1).mono ?_
    rintro e w1 ⟨rfl, h1⟩
    have HF1 : Hid (Fx w x y z w1) := HF.out.later h1
    obtain ⟨_, _, _, _, _, _, c3, c4, _, _⟩ := HF1.out
    clear HF h1
    go_wp2_with fail
    refine (G2.out _ HF1.out.2.2.1).mono ?_
    rintro e w2 ⟨rfl, h2⟩
    have HF2 : Hid (Fx w x y z w2) := HF1.out.later h2
    clear HF1 h2 c3 c4
    go_wp2_with fail
    refine (types_any _).mono ?_
    rintro e w3 ⟨rfl, h3⟩
    have hb := (HF2.out.later h3).1
    clear h3 HF2
    go_wp2_with fail
    go_ret
    exact ⟨rfl, hb⟩
  · go_enter Try.func4, Try.ntmps4
    go_wp2_with fail
    refine (G1.out _ HF.out.2.1).mono ?_
    rintro e w1 ⟨rfl, h1⟩
    have HF1 : Hid (Fx w x y z w1) := HF.out.later h1
    obtain ⟨_, _, _, _, _, _, c3, c4, _, _⟩ := HF1.out
    clear HF h1
    go_wp2_with fail
    refine (G2.out _ HF1.out.2.2.1).mono ?_
    rintro e w2 ⟨rfl, h2⟩
    have HF2 : Hid (Fx w x y z w2) := HF1.out.later h2
    obtain ⟨_, _, _, _, _, _, _, _, c5, c6⟩ := HF2.out
    clear HF1 h2 c3 c4
    go_wp2_with fail
    refine (G3.out _ HF2.out.2.2.2.1).mono ?_
    rintro e w3 ⟨rfl, h3⟩
    have HF3 : Hid (Fx w x y z w3) := HF2.out.later h3
    clear HF2 h3 c5 c6
    go_wp2_with fail
    refine (types_any _).mono ?_
    rintro e w4 ⟨rfl, h4⟩
    have hb := (HF3.out.later h4).1
    clear h4 HF3
    go_wp2_with fail
    go_ret
    exact ⟨rfl, hb⟩
end Go.Proofs.Ytaaplpcpifdnfaa
