/-
  The call of chaperonekeep.KindJoins answers true at whatever three trees lie in memory, and nothing that was there has turned.
-/
import Derived.Test.YtnddkmccagiclaaLot2469cc7ec3
import Derived.Test.YtnddkmccagiclaaRows
import Derived.Test.YtnddkmccagiclaaLot3fe329f286
import Derived.ProofKit
import Derived.Deep.Slices
namespace Go.Proofs.Ytnddkmccagiclaa
open Go.RowKit

/-- Three trees that lie in memory, and the boxes in which they were handed in. -/
def Fx (w : World) (x y z : Tr) (W : World) : Prop :=
  Below w.heap.size w W ∧ x.In W ∧ y.In W ∧ z.In W ∧ W.cell? ⟨w.heap.size, 0, none⟩ = some (.int .i64 x.k) ∧ W.cell? ⟨w.heap.size, 1, none⟩ = some (.slice x.a x.l.length x.c) ∧
    W.cell? ⟨w.heap.size + 1, 0, none⟩ = some (.int .i64 y.k) ∧ W.cell? ⟨w.heap.size + 1, 1, none⟩ = some (.slice y.a y.l.length y.c) ∧ W.cell? ⟨w.heap.size + 1 + 1, 0, none⟩ = some (.int .i64 z.k) ∧ W.cell? ⟨w.heap.size + 1 + 1, 1, none⟩ = some (.slice z.a z.l.length z.c)

theorem Fx.later {w W W' : World} {x y z : Tr} (h : Fx w x y z W) (hb : Below W.heap.size W W') : Fx w x y z W' := by
  obtain ⟨h0, i1, i2, i3, c1, c2, c3, c4, c5, c6⟩ := h
  exact ⟨h0.trans (hb.mono h0.size), i1.below hb, i2.below hb, i3.below hb, cell_later hb c1, cell_later hb c2, cell_later hb c3, cell_later hb c4, cell_later hb c5, cell_later hb c6⟩

theorem Fx.start {w : World} {x y z : Tr} (hx : x.In w) (hy : y.In w) (hz : z.In w) :
    Fx w x y z (((w.alloc (.cells #[.int .i64 x.k, .slice x.a x.l.length x.c] 24)).alloc (.cells #[.int .i64 y.k, .slice y.a y.l.length y.c] 24)).alloc (.cells #[.int .i64 z.k, .slice z.a z.l.length z.c] 24)) := by
  have hb : Below w.heap.size w (((w.alloc (.cells #[.int .i64 x.k, .slice x.a x.l.length x.c] 24)).alloc (.cells #[.int .i64 y.k, .slice y.a y.l.length y.c] 24)).alloc (.cells #[.int .i64 z.k, .slice z.a z.l.length z.c] 24)) := (((Below.refl _ _).alloc (Nat.le_refl _) _).alloc (by simp) _).alloc (by simp; omega) _
  have h1 : Below (w.alloc (.cells #[.int .i64 x.k, .slice x.a x.l.length x.c] 24)).heap.size (w.alloc (.cells #[.int .i64 x.k, .slice x.a x.l.length x.c] 24)) (((w.alloc (.cells #[.int .i64 x.k, .slice x.a x.l.length x.c] 24)).alloc (.cells #[.int .i64 y.k, .slice y.a y.l.length y.c] 24)).alloc (.cells #[.int .i64 z.k, .slice z.a z.l.length z.c] 24)) := ((Below.refl _ _).alloc (Nat.le_refl _) _).alloc (by simp) _
  have h2 : Below ((w.alloc (.cells #[.int .i64 x.k, .slice x.a x.l.length x.c] 24)).alloc (.cells #[.int .i64 y.k, .slice y.a y.l.length y.c] 24)).heap.size ((w.alloc (.cells #[.int .i64 x.k, .slice x.a x.l.length x.c] 24)).alloc (.cells #[.int .i64 y.k, .slice y.a y.l.length y.c] 24)) (((w.alloc (.cells #[.int .i64 x.k, .slice x.a x.l.length x.c] 24)).alloc (.cells #[.int .i64 y.k, .slice y.a y.l.length y.c] 24)).alloc (.cells #[.int .i64 z.k, .slice z.a z.l.length z.c] 24)) := (Below.refl _ _).alloc (Nat.le_refl _) _
  refine ⟨hb, hx.below hb, hy.below hb, hz.below hb, cell_later h1 (by simp [go_sem]), cell_later h1 (by simp [go_sem]), cell_later h2 ?_, cell_later h2 ?_, ?_, ?_⟩
  all_goals simp [go_sem]

set_option maxHeartbeats 1000000 in
theorem joins_else (x y z : Tr) (w : World) (hx : x.In w) (hy : y.In w) (hz : z.In w) (hh : goodT 4 x = false ∨ goodT 4 x = true ∧ goodT 4 y = false ∨ goodT 4 x = true ∧ goodT 4 y = true ∧ goodT 4 z = false) :
    Calls Try.prog 4 #[.agg #[.int .i64 x.k, .slice x.a x.l.length x.c], .agg #[.int .i64 y.k, .slice y.a y.l.length y.c], .agg #[.int .i64 z.k, .slice z.a z.l.length z.c]] w fun e w' => e = .returned (.bool true) ∧ Below w.heap.size w w' := by
  have HF : Hid (Fx w x y z (((w.alloc (.cells #[.int .i64 x.k, .slice x.a x.l.length x.c] 24)).alloc (.cells #[.int .i64 y.k, .slice y.a y.l.length y.c] 24)).alloc (.cells #[.int .i64 z.k, .slice z.a z.l.length z.c] 24))) := Fx.start hx hy hz
  obtain ⟨gx, hgx⟩ : ∃ g, goodT 4 x = g := ⟨_, rfl⟩
  obtain ⟨gy, hgy⟩ : ∃ g, goodT 4 y = g := ⟨_, rfl⟩
  obtain ⟨gz, hgz⟩ : ∃ g, goodT 4 z = g := ⟨_, rfl⟩
  have G1 : Hid (∀ W, x.In W → Calls Try.prog 7 #[.agg #[.int .i64 x.k, .slice x.a x.l.length x.c]] W fun e w' => e = .returned (.bool gx) ∧ Below W.heap.size W w') := fun W h => hgx ▸ good_any x W h
  have G2 : Hid (∀ W, y.In W → Calls Try.prog 7 #[.agg #[.int .i64 y.k, .slice y.a y.l.length y.c]] W fun e w' => e = .returned (.bool gy) ∧ Below W.heap.size W w') := fun W h => hgy ▸ good_any y W h
  have G3 : Hid (∀ W, z.In W → Calls Try.prog 7 #[.agg #[.int .i64 z.k, .slice z.a z.l.length z.c]] W fun e w' => e = .returned (.bool gz) ∧ Below W.heap.size W w') := fun W h => hgz ▸ good_any z W h
  rw [hgx, hgy, hgz] at hh
  clear hgx hgy hgz hx hy hz
  rcases hh with rfl | ⟨rfl, rfl⟩ | ⟨rfl, rfl, rfl⟩
  · clear G2 G3
    go_enter Try.func4, Try.ntmps4
    go_wp2_with fail
    refine (G1.out _ HF.out.2.1).mono ?_
    rintro e w1 ⟨rfl, h1⟩
    have HF1 : Hid (Fx w x y z w1) := HF.out.later h1
    clear HF h1
    go_wp2_with fail
    refine (types_any _).mono ?_
    rintro e w2 ⟨rfl, h2⟩
    have hb := (HF1.out.later h2).1
    clear h2 HF1
    go_wp2_with fail
    go_ret
    exact ⟨rfl, hb⟩
  · clear G3
    go_enter Try.func4, Try.ntmps4
    go_wp2_with fail
    refine (G1.out _ HF.out.2.1).mono ?_
    rintro e w1 ⟨rfl, h1⟩
    have HF1 : Hid (Fx w x y z w1) := HF.out.later h1
    obtain ⟨_, _, _, _, _, _, c3, c4, _, _⟩ := HF1.out
    clear HF h1
    go_wp2_with fail
    refine (G2.out _ HF1.out.2.2.1).mono ?_
    rintro e w2 ⟨rfl, h2⟩
    have HF2 : Hid (Fx w x y z w2) := HF1.out.later h2
    clear HF1 h2 c3 c4
    go_wp2_with fail
    refine (types_any _).mono ?_
    rintro e w3 ⟨rfl, h3⟩
    have hb := (HF2.out.later h3).1
    clear h3 HF2
    go_wp2_with fail
    go_ret
    exact ⟨rfl, hb⟩
  · go_enter Try.func4, Try.ntmps4
    go_wp2_with fail
    refine (G1.out _ HF.out.2.1).mono ?_
    rintro e w1 ⟨rfl, h1⟩
    have HF1 : Hid (Fx w x y z w1) := HF.out.later h1
    obtain ⟨_, _, _, _, _, _, c3, c4, _, _⟩ := HF1.out
    clear HF h1
    go_wp2_with fail
    refine (G2.out _ HF1.out.2.2.1).mono ?_
    rintro e w2 ⟨rfl, h2⟩
    have HF2 : Hid (Fx w x y z w2) := HF1.out.later h2
    obtain ⟨_, _, _, _, _, _, _, _, c5, c6⟩ := HF2.out
    clear HF1 h2 c3 c4
    go_wp2_with fail
    refine (G3.out _ HF2.out.2.2.2.1).mono ?_
    rintro e w3 ⟨rfl, h3⟩
    have HF3 : Hid (Fx w x y z w3) := HF2.out.later h3
    clear HF2 h3 c5 c6
    go_wp2_with fail
    refine (types_any _).mono ?_
    rintro e w4 ⟨rfl, h4⟩
    have hb := (HF3.out.later h4).1
    clear h4 HF3
    go_wp2_with fail
    go_ret
    exact ⟨rfl, hb⟩
end Go.Proofs.Ytnddkmccagiclaa

/-
  The call of chaperonekeep.KindJoins answers true at three good trees, and nothing that was there has turned.
-/
namespace Go.Proofs.Ytnddkmccagiclaa
open Go.RowKit

theorem lev_good {t : Tr} (h : goodT 4 t = true) : t.hgt ≤ 1000 ∧ t.sm ∧ t.right ∧ goodY 4 t.ty = true :=
  ⟨Nat.le_trans (Tr.hgt_good 4 _ h) (by omega), Tr.sm_good 4 _ h, Tr.right_good 4 _ h, by rw [← goodT_eq]; exact h⟩

set_option maxHeartbeats 2000000 in
theorem joins_main (x y z : Tr) (w : World) (hx : x.In w) (hy : y.In w) (hz : z.In w) (gx : goodT 4 x = true) (gy : goodT 4 y = true) (gz : goodT 4 z = true) :
    Calls Try.prog 4 #[.agg #[.int .i64 x.k, .slice x.a x.l.length x.c], .agg #[.int .i64 y.k, .slice y.a y.l.length y.c], .agg #[.int .i64 z.k, .slice z.a z.l.length z.c]] w fun e w' => e = .returned (.bool true) ∧ Below w.heap.size w w' := by
  have HF : Hid (Fx w x y z (((w.alloc (.cells #[.int .i64 x.k, .slice x.a x.l.length x.c] 24)).alloc (.cells #[.int .i64 y.k, .slice y.a y.l.length y.c] 24)).alloc (.cells #[.int .i64 z.k, .slice z.a z.l.length z.c] 24))) := Fx.start hx hy hz
  have G1 : Hid (∀ W, x.In W → Calls Try.prog 7 #[.agg #[.int .i64 x.k, .slice x.a x.l.length x.c]] W fun e w' => e = .returned (.bool true) ∧ Below W.heap.size W w') := fun W h => gx ▸ good_any x W h
  have G2 : Hid (∀ W, y.In W → Calls Try.prog 7 #[.agg #[.int .i64 y.k, .slice y.a y.l.length y.c]] W fun e w' => e = .returned (.bool true) ∧ Below W.heap.size W w') := fun W h => gy ▸ good_any y W h
  have G3 : Hid (∀ W, z.In W → Calls Try.prog 7 #[.agg #[.int .i64 z.k, .slice z.a z.l.length z.c]] W fun e w' => e = .returned (.bool true) ∧ Below W.heap.size W w') := fun W h => gz ▸ good_any z W h
  obtain ⟨hx1, sx, rx, yx⟩ := lev_good gx
  obtain ⟨hy1, sy, ry, yy⟩ := lev_good gy
  obtain ⟨hz1, sz, rz, yz⟩ := lev_good gz
  obtain ⟨jg, jx, jy, jc, ji⟩ := join_facts 4 x.ty y.ty yx yy
  have HM : Hid (goodY 4 (joinY x.ty y.ty) = true ∧ relY escFiner x.ty (joinY x.ty y.ty) = true ∧ relY escFiner y.ty (joinY x.ty y.ty) = true ∧ joinY y.ty x.ty = joinY x.ty y.ty ∧ joinY x.ty x.ty = x.ty) := ⟨jg, jx, jy, jc, ji⟩
  have HL : Hid (relY escFiner x.ty z.ty = true → relY escFiner y.ty z.ty = true → relY escFiner (joinY x.ty y.ty) z.ty = true) := join_least 4 x.ty y.ty z.ty yx yy yz
  clear gx gy gz hx hy hz jg jx jy jc ji
  go_enter Try.func4, Try.ntmps4
  go_wp2_with fail
  refine (G1.out _ HF.out.2.1).mono ?_
  rintro e w1 ⟨rfl, h1⟩
  have HF1 : Hid (Fx w x y z w1) := HF.out.later h1
  obtain ⟨-, -, -, -, -, -, c3, c4, -, -⟩ := HF1.out
  clear HF h1
  go_wp2_with fail
  refine (G2.out _ HF1.out.2.2.1).mono ?_
  rintro e w2 ⟨rfl, h2⟩
  have HF2 : Hid (Fx w x y z w2) := HF1.out.later h2
  obtain ⟨-, -, -, -, -, -, -, -, c5, c6⟩ := HF2.out
  clear HF1 h2 c3 c4
  go_wp2_with fail
  refine (G3.out _ HF2.out.2.2.2.1).mono ?_
  rintro e w3 ⟨rfl, h3⟩
  have HF3 : Hid (Fx w x y z w3) := HF2.out.later h3
  obtain ⟨-, -, -, -, c1, c2, c3, c4, -, -⟩ := HF3.out
  clear HF2 h3 c5 c6 G1 G2 G3
  go_wp2_with fail
  refine (join_whole x y _ HF3.out.2.1 HF3.out.2.2.1 rx ry hx1).mono ?_
  rintro e w4 ⟨j, rfl, jty, jin, _, h4⟩
  have HF4 : Hid (Fx w x y z w4) := HF3.out.later h4
  clear HF3 h4 c1 c2 c3 c4
  have hjg : goodT 4 j = true := by rw [goodT_eq, jty]; exact HM.out.1
  obtain ⟨hj1, sj, rj, yj⟩ := lev_good hjg
  have K7 : Hid (∀ W, j.In W → Calls Try.prog 7 #[.agg #[.int .i64 j.k, .slice j.a j.l.length j.c]] W fun e w' => e = .returned (.bool true) ∧ Below W.heap.size W w') := fun W h => hjg ▸ good_any j W h
  have K19a : Hid (∀ W, x.In W → j.In W → Calls Try.prog 19 #[.agg #[.int .i64 x.k, .slice x.a x.l.length x.c], .agg #[.int .i64 j.k, .slice j.a j.l.length j.c]] W fun e w' => e = .returned (.bool true) ∧ Below W.heap.size W w') := fun W i1 i2 => by
    have := finer_whole x j W i1 i2 hx1 sx
    rw [jty, HM.out.2.1] at this
    exact this
  have K19b : Hid (∀ W, y.In W → j.In W → Calls Try.prog 19 #[.agg #[.int .i64 y.k, .slice y.a y.l.length y.c], .agg #[.int .i64 j.k, .slice j.a j.l.length j.c]] W fun e w' => e = .returned (.bool true) ∧ Below W.heap.size W w') := fun W i1 i2 => by
    have := finer_whole y j W i1 i2 hy1 sy
    rw [jty, HM.out.2.2.1] at this
    exact this
  have K21a : Hid (∀ W, y.In W → x.In W → Calls Try.prog 21 #[.agg #[.int .i64 y.k, .slice y.a y.l.length y.c], .agg #[.int .i64 x.k, .slice x.a x.l.length x.c]] W fun e w' => ∃ q : Tr, e = .returned (.agg #[.int .i64 q.k, .slice q.a q.l.length q.c]) ∧ q.In w' ∧ q.ty = j.ty ∧ Below W.heap.size W w') := fun W i1 i2 => by
    refine (join_whole y x W i1 i2 ry rx hy1).mono ?_
    rintro e w' ⟨q, rfl, qty, qin, _, hb⟩
    exact ⟨q, rfl, qin, by rw [qty, jty, HM.out.2.2.2.1], hb⟩
  have K10a : Hid (∀ (q : Tr) W, q.In W → j.In W → q.ty = j.ty → Calls Try.prog 10 #[.agg #[.int .i64 j.k, .slice j.a j.l.length j.c], .agg #[.int .i64 q.k, .slice q.a q.l.length q.c]] W fun e w' => e = .returned (.bool true) ∧ Below W.heap.size W w') := fun q W i1 i2 i3 => by
    have := same_whole j q W i2 i1 hj1 sj
    rw [i3, same_refl] at this
    exact this
  have K21b : Hid (∀ W, x.In W → Calls Try.prog 21 #[.agg #[.int .i64 x.k, .slice x.a x.l.length x.c], .agg #[.int .i64 x.k, .slice x.a x.l.length x.c]] W fun e w' => ∃ q : Tr, e = .returned (.agg #[.int .i64 q.k, .slice q.a q.l.length q.c]) ∧ q.In w' ∧ q.ty = x.ty ∧ q.hgt ≤ 1000 ∧ q.sm ∧ Below W.heap.size W w') := fun W i1 => by
    refine (join_whole x x W i1 i1 rx rx hx1).mono ?_
    rintro e w' ⟨q, rfl, qty, qin, _, hb⟩
    rw [HM.out.2.2.2.2] at qty
    have hqg : goodT 4 q = true := by rw [goodT_eq, qty]; exact yx
    obtain ⟨hq1, sq, _, _⟩ := lev_good hqg
    exact ⟨q, rfl, qin, qty, hq1, sq, hb⟩
  have K10b : Hid (∀ (q : Tr) W, q.In W → x.In W → q.ty = x.ty → q.hgt ≤ 1000 → q.sm → Calls Try.prog 10 #[.agg #[.int .i64 q.k, .slice q.a q.l.length q.c], .agg #[.int .i64 x.k, .slice x.a x.l.length x.c]] W fun e w' => e = .returned (.bool true) ∧ Below W.heap.size W w') := fun q W i1 i2 i3 i4 i5 => by
    have := same_whole q x W i1 i2 i4 i5
    rw [i3, same_refl] at this
    exact this
  obtain ⟨fa, hfa⟩ : ∃ f, relY escFiner x.ty z.ty = f := ⟨_, rfl⟩
  obtain ⟨fb, hfb⟩ : ∃ f, relY escFiner y.ty z.ty = f := ⟨_, rfl⟩
  have R1 : Hid (∀ W, x.In W → z.In W → Calls Try.prog 19 #[.agg #[.int .i64 x.k, .slice x.a x.l.length x.c], .agg #[.int .i64 z.k, .slice z.a z.l.length z.c]] W fun e w' => e = .returned (.bool fa) ∧ Below W.heap.size W w') := fun W i1 i2 => hfa ▸ finer_whole x z W i1 i2 hx1 sx
  have R2 : Hid (∀ W, y.In W → z.In W → Calls Try.prog 19 #[.agg #[.int .i64 y.k, .slice y.a y.l.length y.c], .agg #[.int .i64 z.k, .slice z.a z.l.length z.c]] W fun e w' => e = .returned (.bool fb) ∧ Below W.heap.size W w') := fun W i1 i2 => hfb ▸ finer_whole y z W i1 i2 hy1 sy
  have R3 : Hid (fa = true → fb = true → ∀ W, j.In W → z.In W → Calls Try.prog 19 #[.agg #[.int .i64 j.k, .slice j.a j.l.length j.c], .agg #[.int .i64 z.k, .slice z.a z.l.length z.c]] W fun e w' => e = .returned (.bool true) ∧ Below W.heap.size W w') := fun e1 e2 W i1 i2 => by
    have := finer_whole j z W i1 i2 hj1 sj
    rw [jty, HL.out (by rw [hfa, e1]) (by rw [hfb, e2])] at this
    exact this
  have hbb : Below w4.heap.size w4 (w4.alloc (.cells #[.int .i64 j.k, .slice j.a j.l.length j.c] 24)) := (Below.refl _ _).alloc (Nat.le_refl _) _
  have HF5 : Hid (Fx w x y z (w4.alloc (.cells #[.int .i64 j.k, .slice j.a j.l.length j.c] 24))) := HF4.out.later hbb
  have HJ5 : Hid (j.In (w4.alloc (.cells #[.int .i64 j.k, .slice j.a j.l.length j.c] 24))) := jin.below hbb
  obtain ⟨-, -, -, -, c1, c2, c3, c4, c5, c6⟩ := HF5.out
  clear HM HL hjg jty hbb jin hfa hfb hj1 sj rj yj hx1 sx rx yx hy1 sy ry yy hz1 sz rz yz HF4
  go_wp2_with fail
  go_region_held3 (fun w' => Below w.heap.size w w' ∧ x.In w' ∧ y.In w' ∧ z.In w' ∧ w'.cell? ⟨w.heap.size, 0, none⟩ = some (.int .i64 x.k) ∧ w'.cell? ⟨w.heap.size, 1, none⟩ = some (.slice x.a x.l.length x.c) ∧
      w'.cell? ⟨w.heap.size + 1, 0, none⟩ = some (.int .i64 y.k) ∧ w'.cell? ⟨w.heap.size + 1, 1, none⟩ = some (.slice y.a y.l.length y.c) ∧ w'.cell? ⟨w.heap.size + 1 + 1, 0, none⟩ = some (.int .i64 z.k) ∧ w'.cell? ⟨w.heap.size + 1 + 1, 1, none⟩ = some (.slice z.a z.l.length z.c) ∧
      j.In w' ∧ w'.cell? ⟨w4.heap.size, 0, none⟩ = some (.int .i64 j.k) ∧ w'.cell? ⟨w4.heap.size, 1, none⟩ = some (.slice j.a j.l.length j.c))
    (first
      | (obtain ⟨b0, i1, i2, i3, _⟩ := HF5.out; exact ⟨b0.drew, i1.below (Below.refl _ _).drew, i2.below (Below.refl _ _).drew, i3.below (Below.refl _ _).drew, c1, c2, c3, c4, c5, c6, HJ5.out.below (Below.refl _ _).drew, by simp [go_sem], by simp [go_sem]⟩)
      | (go_split_ands; refine ⟨?_, ?_, ?_, ?_, ?_, ?_, ?_, ?_, ?_, ?_, ?_, ?_, ?_⟩ <;> first | exact cell_later h10b (by assumption) | exact Tr.In.below h10b (by assumption) | exact Below.trans (by assumption) (Below.mono h10b (Below.size (by assumption))))
      | (go_split_ands; refine ⟨?_, ?_, ?_, ?_, ?_, ?_, ?_, ?_, ?_, ?_, ?_, ?_, ?_⟩ <;> first | exact cell_later h21b (by assumption) | exact Tr.In.below h21b (by assumption) | exact Below.trans (by assumption) (Below.mono h21b (Below.size (by assumption))))
      | (go_split_ands; refine ⟨?_, ?_, ?_, ?_, ?_, ?_, ?_, ?_, ?_, ?_, ?_, ?_, ?_⟩ <;> first | exact cell_later h10a (by assumption) | exact Tr.In.below h10a (by assumption) | exact Below.trans (by assumption) (Below.mono h10a (Below.size (by assumption))))
      | (go_split_ands; refine ⟨?_, ?_, ?_, ?_, ?_, ?_, ?_, ?_, ?_, ?_, ?_, ?_, ?_⟩ <;> first | exact cell_later h21a (by assumption) | exact Tr.In.below h21a (by assumption) | exact Below.trans (by assumption) (Below.mono h21a (Below.size (by assumption))))
      | (go_split_ands; refine ⟨?_, ?_, ?_, ?_, ?_, ?_, ?_, ?_, ?_, ?_, ?_, ?_, ?_⟩ <;> first | exact cell_later h19b (by assumption) | exact Tr.In.below h19b (by assumption) | exact Below.trans (by assumption) (Below.mono h19b (Below.size (by assumption))))
      | (go_split_ands; refine ⟨?_, ?_, ?_, ?_, ?_, ?_, ?_, ?_, ?_, ?_, ?_, ?_, ?_⟩ <;> first | exact cell_later h19a (by assumption) | exact Tr.In.below h19a (by assumption) | exact Below.trans (by assumption) (Below.mono h19a (Below.size (by assumption))))
      | (go_split_ands; refine ⟨?_, ?_, ?_, ?_, ?_, ?_, ?_, ?_, ?_, ?_, ?_, ?_, ?_⟩ <;> first | exact cell_later h7 (by assumption) | exact Tr.In.below h7 (by assumption) | exact Below.trans (by assumption) (Below.mono h7 (Below.size (by assumption))))
      | go_keep)
    (first
      | (go_at_call 7; go_split_ands; refine (K7.out _ (by assumption)).mono ?_; rintro e w7 ⟨rfl, h7⟩)
      | (go_at_call_of 19 (x.k); go_split_ands; refine (K19a.out _ (by assumption) (by assumption)).mono ?_; rintro e w19a ⟨rfl, h19a⟩)
      | (go_at_call 19; go_split_ands; refine (K19b.out _ (by assumption) (by assumption)).mono ?_; rintro e w19b ⟨rfl, h19b⟩)
      | (go_at_call_of 21 (y.k); go_split_ands; refine (K21a.out _ (by assumption) (by assumption)).mono ?_; rintro e w21a ⟨q, rfl, hq, qty, h21a⟩; have HQ : Hid (q.ty = j.ty) := qty; clear qty)
      | (go_at_call_of 10 (j.k); go_split_ands; refine (K10a.out q _ (by assumption) (by assumption) HQ.out).mono ?_; rintro e w10a ⟨rfl, h10a⟩)
      | (go_at_call 21; go_split_ands; refine (K21b.out _ (by assumption)).mono ?_; rintro e w21b ⟨p, rfl, hp, pty, ph, ps, h21b⟩; have HP : Hid (p.ty = x.ty) := pty; clear pty)
      | (go_at_call 10; go_split_ands; refine (K10b.out p _ (by assumption) (by assumption) HP.out ph ps).mono ?_; rintro e w10b ⟨rfl, h10b⟩))
  have HA : Hid (Fx w x y z w10b ∧ j.In w10b ∧ w10b.cell? ⟨w4.heap.size, 0, none⟩ = some (.int .i64 j.k) ∧ w10b.cell? ⟨w4.heap.size, 1, none⟩ = some (.slice j.a j.l.length j.c)) := by
    go_split_ands
    exact ⟨⟨by assumption, by assumption, by assumption, by assumption, by assumption, by assumption, by assumption, by assumption, by assumption, by assumption⟩, by assumption, by assumption, by assumption⟩
  clear HF5 HJ5 K7 K19a K19b K21a K10a K21b K10b c1 c2 c3 c4 c5 c6 h7 h19a h19b h21a h10a h21b h10b hq hp HQ HP ph ps
  obtain ⟨-, -, -, -, c1, c2, c3, c4, c5, c6⟩ := HA.out.1
  cases fa
  · clear R3 R2
    go_wp2_with fail
    refine (R1.out _ HA.out.1.2.1 HA.out.1.2.2.2.1).mono ?_
    rintro e v1 ⟨rfl, g1⟩
    have HB : Hid (Below w.heap.size w v1) := (HA.out.1.later g1).1
    clear HA g1 c1 c2 c3 c4 c5 c6
    go_wp2_with fail
    refine (types_any _).mono ?_
    rintro e v2 ⟨rfl, g2⟩
    have hb := HB.out.trans (g2.mono HB.out.size)
    clear HB g2
    go_wp2_with fail
    go_ret
    exact ⟨rfl, hb⟩
  · cases fb
    · clear R3
      go_wp2_with fail
      refine (R1.out _ HA.out.1.2.1 HA.out.1.2.2.2.1).mono ?_
      rintro e v1 ⟨rfl, g1⟩
      have HB : Hid (Fx w x y z v1) := HA.out.1.later g1
      clear HA g1 c1 c2 c3 c4 c5 c6
      obtain ⟨-, -, -, -, c1, c2, c3, c4, c5, c6⟩ := HB.out
      go_wp2_with fail
      refine (R2.out _ HB.out.2.2.1 HB.out.2.2.2.1).mono ?_
      rintro e v2 ⟨rfl, g2⟩
      have HC : Hid (Below w.heap.size w v2) := (HB.out.later g2).1
      clear HB g2 c1 c2 c3 c4 c5 c6
      go_wp2_with fail
      refine (types_any _).mono ?_
      rintro e v3 ⟨rfl, g3⟩
      have hb := HC.out.trans (g3.mono HC.out.size)
      clear HC g3
      go_wp2_with fail
      go_ret
      exact ⟨rfl, hb⟩
    · have R4 : Hid (∀ W, j.In W → z.In W → Calls Try.prog 19 #[.agg #[.int .i64 j.k, .slice j.a j.l.length j.c], .agg #[.int .i64 z.k, .slice z.a z.l.length z.c]] W fun e w' => e = .returned (.bool true) ∧ Below W.heap.size W w') := R3.out rfl rfl
      clear R3
      go_wp2_with fail
      refine (R1.out _ HA.out.1.2.1 HA.out.1.2.2.2.1).mono ?_
      rintro e v1 ⟨rfl, g1⟩
      have HB : Hid (Fx w x y z v1) := HA.out.1.later g1
      have HJ : Hid (j.In v1 ∧ v1.cell? ⟨w4.heap.size, 0, none⟩ = some (.int .i64 j.k) ∧ v1.cell? ⟨w4.heap.size, 1, none⟩ = some (.slice j.a j.l.length j.c)) := ⟨HA.out.2.1.below g1, cell_later g1 HA.out.2.2.1, cell_later g1 HA.out.2.2.2⟩
      clear HA g1 c1 c2 c3 c4 c5 c6
      obtain ⟨-, -, -, -, c1, c2, c3, c4, c5, c6⟩ := HB.out
      go_wp2_with fail
      refine (R2.out _ HB.out.2.2.1 HB.out.2.2.2.1).mono ?_
      rintro e v2 ⟨rfl, g2⟩
      have HC : Hid (Fx w x y z v2) := HB.out.later g2
      have HJ2 : Hid (j.In v2) := HJ.out.1.below g2
      have c7 := cell_later g2 HJ.out.2.1
      have c8 := cell_later g2 HJ.out.2.2
      clear HB g2 c1 c2 c3 c4 c5 c6 HJ
      obtain ⟨-, -, -, -, c1, c2, c3, c4, c5, c6⟩ := HC.out
      go_wp2_with fail
      refine (R4.out _ HJ2.out HC.out.2.2.2.1).mono ?_
      rintro e v3 ⟨rfl, g3⟩
      have HD : Hid (Below w.heap.size w v3) := (HC.out.later g3).1
      clear HC g3 c1 c2 c3 c4 c5 c6 c7 c8 HJ2
      go_wp2_with fail
      refine (types_any _).mono ?_
      rintro e v4 ⟨rfl, g4⟩
      have hb := HD.out.trans (g4.mono HD.out.size)
      clear HD g4
      go_wp2_with fail
      go_ret
      exact ⟨rfl, hb⟩

/-- chaperonekeep.KindJoins. -/
theorem joins_any (x y z : Tr) (w : World) (hx : x.In w) (hy : y.In w) (hz : z.In w) :
    Calls Try.prog 4 #[.agg #[.int .i64 x.k, .slice x.a x.l.length x.c], .agg #[.int .i64 y.k, .slice y.a y.l.length y.c], .agg #[.int .i64 z.k, .slice z.a z.l.length z.c]] w fun e w' => e = .returned (.bool true) ∧ Below w.heap.size w w' := by
  cases gx : goodT 4 x with
  | false => exact joins_else x y z w hx hy hz (.inl gx)
  | true =>
    cases gy : goodT 4 y with
    | false => exact joins_else x y z w hx hy hz (.inr (.inl ⟨gx, gy⟩))
    | true =>
      cases gz : goodT 4 z with
      | false => exact joins_else x y z w hx hy hz (.inr (.inr ⟨gx, gy, gz⟩))
      | true => exact joins_main x y z w hx hy hz gx gy gz
end Go.Proofs.Ytnddkmccagiclaa

/-
  Whatever can be read as data of the type 'Type{Kind int, L []Type}' is a tree that lies in memory.
-/
namespace Go.Proofs.Ytnddkmccagiclaa
open Go.ChangeShapes Go.WideShapes Go.ChangeAt Go.RowKit

theorem Try.cells24 : Try.prog.cellsOf 24 = 2 := by kernel_rfl
theorem Try.cells22 : Try.prog.cellsOf 22 = 1 := by kernel_rfl
theorem Try.cells3 : Try.prog.cellsOf 3 = 1 := by kernel_rfl

theorem cell_spot {w : World} {a : Addr} {v : Value} (h : w.cell? a = some v) : a = ⟨a.block, a.off, none⟩ := by
  obtain ⟨b, o, s⟩ := a
  cases s with
  | none => rfl
  | some s =>
    unfold World.cell? at h
    split at h <;> simp at h

theorem cells2 {w : World} {base : Nat} {a : Addr} {u v : Value} (h : w.cells? base a 2 = some [u, v]) : w.cell? a = some u ∧ w.cell? (a.add 1) = some v := by
  unfold World.cells? at h
  split at h
  · have h0 : a.add 0 = a := by simp [Addr.add]
    simp only [List.range_succ, List.range_zero, List.nil_append, List.cons_append, List.mapM_cons, List.mapM_nil, h0] at h
    cases hu : w.cell? a with
    | none => simp [hu] at h
    | some u' =>
      cases hv : w.cell? (a.add 1) with
      | none => simp [hu, hv] at h
      | some v' =>
        simp [hu, hv] at h
        exact ⟨by rw [h.1], by rw [h.2]⟩
  · cases h

theorem tr_of {H : Type} {enc : TypeId × Value → H} {W : World} {base : Nat} {spare : Nat → Bool} {held : Bool} : ∀ (fuel : Nat) (cs : List Value) (x : DataW H × List MemPlace),
    DataW.trod enc Try.prog W base spare held fuel 24 cs = some x → ∃ t : Tr, cs = [.int .i64 t.k, .slice t.a t.l.length t.c] ∧ t.In W := by
  intro fuel
  induction fuel using Nat.strongRecOn with
  | _ fuel ih =>
    intro cs x h
    obtain ⟨xs, n, rfl, _, hl, hlen, hf⟩ := DataW.trod_struct Try.underlying24 h
    rw [Try.cells24] at hl
    match cs, hl with
    | [c0, c1], _ =>
      have h0 := hf 0 { name := "Kind", type := 3, offset := 0, embedded := false, tag := "", pkgPath := "", byteOffset := 0 } rfl
      have h1 := hf 1 { name := "L", type := 22, offset := 1, embedded := false, tag := "", pkgPath := "", byteOffset := 8 } rfl
      simp only [List.drop_zero, List.drop_succ_cons, Try.cells3, Try.cells22, List.take_succ_cons, List.take_zero] at h0 h1
      match xs, hlen with
      | [y0, y1], _ =>
        simp only [List.getElem?_cons_zero, List.getElem?_cons_succ] at h0 h1
        obtain ⟨k, hc0, _, _⟩ := DataW.trod_int Try.underlying3 h0
        simp only [List.cons.injEq, and_true] at hc0
        subst hc0
        rcases DataW.trod_slice Try.underlying22 h1 with ⟨hc1, _⟩ | ⟨a, len, cap, elems, rest, m, rfl, hc1, _, _, _, _, hel, hat, _⟩
        · simp only [List.cons.injEq, and_true] at hc1
          subst hc1
          exact ⟨.mk k none 0 [], rfl, Tr.In_nil _ _ _ _⟩
        · simp only [List.cons.injEq, and_true] at hc1
          subst hc1
          have hex : ∀ i, i < len → ∃ t : Tr, W.cells? base (a.add (i * 2)) 2 = some [.int .i64 t.k, .slice t.a t.l.length t.c] ∧ t.In W := by
            intro i hi
            have hi' := hat i hi
            rw [Try.cells24, List.getElem?_eq_getElem (by omega)] at hi'
            obtain ⟨cs', hcs, htr⟩ := Option.bind_eq_some_iff.1 hi'
            obtain ⟨t, rfl, hin⟩ := ih m (by omega) cs' _ htr
            exact ⟨t, hcs, hin⟩
          haveI : Inhabited Tr := ⟨.mk 0 none 0 []⟩
          obtain ⟨T, hT⟩ := Go.Deep.choose_lt hex
          refine ⟨.mk k (some a) cap ((List.range len).map T), by simp, ?_⟩
          refine Tr.In_mk.2 ⟨fun j hj => ?_, fun t ht => ?_⟩
          rotate_left
          · obtain ⟨i, hi, rfl⟩ := List.mem_map.1 ht
            exact (hT i (by simpa using hi)).2
          have hj' : j < len := by simpa using hj
          obtain ⟨hz, _⟩ := cells2 (hT 0 (by omega)).1
          simp only [Nat.zero_mul] at hz
          have ha0 : a.add 0 = a := by simp [Addr.add]
          rw [ha0] at hz
          have ha := cell_spot hz
          have hc := (hT j hj').1
          obtain ⟨c0, c1⟩ := cells2 hc
          have hadd : ∀ q, a.add q = ⟨a.block, a.off + q, none⟩ := by
            intro q
            rw [ha]
            unfold Addr.add
            by_cases hq : q = 0 <;> simp [hq]
          refine ⟨a.block, a.off, by rw [← ha], ?_, ?_⟩
          · rw [hadd] at c0
            simpa using c0
          · rw [Go.Deep.add_add, hadd] at c1
            simp only [List.getElem_map, List.getElem_range, Tr.sl]
            rw [show a.off + j * 2 + 1 = a.off + (j * 2 + 1) by omega]
            exact c1

/-- An argument of the type is a tree. -/
theorem tr_arg {H : Type} {enc : TypeId × Value → H} {W : World} {base b0 : Nat} {spare : Nat → Bool} {held : Bool} {r : Reach} {v : Value} {d : DataW H} {p : List MemPlace} (hv : Value.okWide Try.prog W r b0 24 v) (h : DataW.Trod enc Try.prog W base spare held 24 v d p) :
    ∃ t : Tr, v = .agg #[.int .i64 t.k, .slice t.a t.l.length t.c] ∧ t.In W := by
  obtain ⟨cs, rfl, _⟩ := okWide_struct Try.underlying24 hv
  obtain ⟨fuel, hf⟩ := h
  obtain ⟨t, ht, hin⟩ := tr_of fuel _ _ hf
  refine ⟨t, ?_, hin⟩
  have : cs.toList = [.int .i64 t.k, .slice t.a t.l.length t.c] := by simpa [Value.cells] using ht
  rw [← this]
end Go.Proofs.Ytnddkmccagiclaa
