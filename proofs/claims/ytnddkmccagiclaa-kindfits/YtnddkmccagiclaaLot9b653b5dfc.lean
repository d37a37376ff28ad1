/-
  The call of chaperonekeep.KindJoins answers true at whatever three trees lie in memory, and nothing that was there has turned.
-/
import Derived.Test.YtnddkmccagiclaaLot2469cc7ec3
import Derived.BigQuiet
import Derived.Deep.DeepCutAuto
namespace Go.Proofs.Ytnddkmccagiclaa
open Go.RowKit

/-- Three trees that lie in memory, and the boxes in which they were handed in. -/
def Fx (w : World) (x y z : Tr) (W : World) : Prop :=
  Below w.heap.size w W ∧ x.In W ∧ y.In W ∧ z.In W ∧ W.cell? ⟨w.heap.size, 0, none⟩ = some (.int .i64 x.k) ∧ W.cell? ⟨w.heap.size, 1, none⟩ = some (.slice x.a x.l.length x.c) ∧
    W.cell? ⟨w.heap.size + 1, 0, none⟩ = some (.int .i64 y.k) ∧ W.cell? ⟨w.heap.size + 1, 1, none⟩ = some (.slice y.a y.l.length y.c) ∧ W.cell? ⟨w.heap.size + 1 + 1, 0, none⟩ = some (.int .i64 z.k) ∧ W.cell? ⟨w.heap.size + 1 + 1, 1, none⟩ = some (.slice z.a z.l.length z.c)

theorem Fx.later {w W W' : World} {x y z : Tr} (h : Fx w x y z W) (hb : Below W.heap.size W W') : Fx w x y z W' := by
  obtain ⟨h0, i1, i2, i3, c1, c2, c3, c4, c5, c6⟩ := h
  exact ⟨h0.trans (hb.mono h0.size), i1.below hb, i2.below hb, i3.below hb, cell_later hb c1, cell_later hb c2, cell_later hb c3, cell_later hb c4, cell_later hb c5, cell_later hb c6⟩

theorem Fx.start {w : World} {x y z : Tr} (hx : x.In w) (hy : y.In w) (hz : z.In w) :
    Fx w x y z (((w.alloc (.cells #[.int .i64 x.k, .slice x.a x.l.length x.c] 24)).alloc (.cells #[.int .i64 y.k, .slice y.a y.l.length y.c] 24)).alloc (.cells #[.int .i64 z.k, .slice z.a z.l.length z.c] 24)) := by
  have hb : Below w.heap.size w (((w.alloc (.cells #[.int .i64 x.k, .slice x.a x.l.length x.c] 24)).alloc (.cells #[.int .i64 y.k, .slice y.a y.l.length y.c] 24)).alloc (.cells #[.int .i64 z.k, .slice z.a z.l.length z.c] 24)) := (((Below.refl _ _).alloc (Nat.le_refl _) _).alloc (by simp) _).alloc (by simp; omega) _
  have h1 : Below (w.alloc (.cells #[.int .i64 x.k, .slice x.a x.l.length x.c] 24)).heap.size (w.alloc (.cells #[.int .i64 x.k, .slice x.a x.l.length x.c] 24)) (((w.alloc (.cells #[.int .i64 x.k, .slice x.a x.l.length x.c] 24)).alloc (.cells #[.int .i64 y.k, .slice y.a y.l.length y.c] 24)).alloc (.cells #[.int .i64 z.k, .slice z.a z.l.length z.c] 24)) := ((Below.refl _ _).alloc (Nat.le_refl _) _).alloc (by simp) _
  have h2 : Below ((w.alloc (.cells #[.int .i64 x.k, .slice x.a x.l.length x.c] 24)).alloc (.cells #[.int .i64 y.k, .slice y.a y.l.length y.c] 24)).heap.size ((w.alloc (.cells #[.int .i64 x.k, .slice x.a x.l.length x.c] 24)).alloc (.cells #[.int .i64 y.k, .slice y.a y.l.length y.c] 24)) (((w.alloc (.cells #[.int .i64 x.k, .slice x.a x.l.length x.c] 24)).alloc (.cells #[.int .i64 y.k, .slice y.a y.l.length y.c] 24)).alloc (.cells #[.int .i64 z.k, .slice z.a z.l.length z.c] 24)) := (Below.refl _ _).alloc (Nat.le_refl _) _
  refine ⟨hb, hx.below hb, hy.below hb, hz.below hb, cell_later h1 (by simp [go_sem]), cell_later h1 (by simp [go_sem]), cell_later h2 ?_, cell_later h2 ?_, ?_, ?_⟩
  all_goals simp [go_sem]

set_option maxHeartbeats 1000000 in
theorem joins_else (x y z : Tr) (w : World) (hx : x.In w) (hy : y.In w) (hz : z.In w) (hh : goodT 4 x = false ∨ goodT 4 x = true ∧ goodT 4 y = false ∨ goodT 4 x = true ∧ goodT 4 y = true ∧ goodT 4 z = false) :
    Calls Try.prog 4 #[.agg #[.int .i64 x.k, .slice x.a x.l.length x.c], .agg #[.int .i64 y.k, .slice y.a y.l.length y.c], .agg #[.int .i64 z.k, .slice z.a z.l.length z.c]] w fun e w' => e = .returned (.bool true) ∧ Below w.heap.size w w' := by
  have HF : Hid (Fx w x y z (((w.alloc (.cells #[.int .i64 x.k, .slice x.a x.l.length x.c] 24)).alloc (.cells #[.int .i64 y.k, .slice y.a y.l.length y.c] 24)).alloc (.cells #[.int .i64 z.k, .slice z.a z.l.length z.c] 24))) := Fx.start hx hy hz
  obtain ⟨gx, hgx⟩ : ∃ g, goodT 4 x = g := ⟨_, rfl⟩
  obtain ⟨gy, hgy⟩ : ∃ g, goodT 4 y = g := ⟨_, rfl⟩
  obtain ⟨gz, hgz⟩ : ∃ g, goodT 4 z = g := ⟨_, rfl⟩
  have G1 : Hid (∀ W, x.In W → Calls Try.prog 7 #[.agg #[.int .i64 x.k, .slice x.a x.l.length x.c]] W fun e w' => e = .returned (.bool gx) ∧ Below W.heap.size W w') := fun W h => hgx ▸ good_any x W h
  have G2 : Hid (∀ W, y.In W → Calls Try.prog 7 #[.agg #[.int .i64 y.k, .slice y.a y.l.length y.c]] W fun e w' => e = .returned (.bool gy) ∧ Below W.heap.size W w') := fun W h => hgy ▸ good_any y W h
  have G3 : Hid (∀ W, z.In W → Calls Try.prog 7 #[.agg #[.int .i64 z.k, .slice z.a z.l.length z.c]] W fun e w' => e = .returned (.bool gz) ∧ Below W.heap.size W w') := fun W h => hgz ▸ good_any z W h
  rw [hgx, hgy, hgz] at hh
  clear hgx hgy hgz hx hy hz
  rcases hh with rfl | ⟨rfl, rfl⟩ | ⟨rfl, rfl, rfl⟩
  · clear G2 G3
    go_enter Try.func4, Try.ntmps4
    go_wp2_with fail
    refine (G1.out _ HF.out.2.1).mono ?_
    rintro e w1 ⟨rfl, h1⟩
    have HF1 : Hid (Fx w x y z w1) := HF.out.later h1
    clear HF h1
    go_wp2_with fail
    refine (types_any _).mono ?_
    rintro e w2 ⟨rfl, h2⟩
    have hb := (HF1.out.later h2).1
    clear h2 HF1
    go_wp2_with fail
    go_ret
    exact ⟨rfl, hb⟩
  · clear G3
    go_enter Try.func4, Try.ntmps4
    go_wp2_with fail
    refine (G1.out _ HF.out.2.1).mono ?_
    rintro e w1 ⟨rfl, h1⟩
    have HF1 : Hid (Fx w x y z w1) := HF.out.later h1
    obtain ⟨_, _, _, _, _, _, c3, c4, _, _⟩ := HF1.out
    clear HF h1
    go_wp2_with fail
    refine (G2.out _ HF1.out.2.2.1).mono ?_
    rintro e w2 ⟨rfl, h2⟩
    have HF2 : Hid (Fx w x y z w2) := HF1.out.later h2
    clear HF1 h2 c3 c4
    go_wp2_with fail
    refine (types_any _).mono ?_
    rintro e w3 ⟨rfl, h3⟩
    have hb := (HF2.out.later h3).1
    clear h3 HF2
    go_wp2_with fail
    go_ret
    exact ⟨rfl, hb⟩
  · go_enter Try.func4, Try.ntmps4
    go_wp2_with fail
    refine (G1.out _ HF.out.2.1).mono ?_
    rintro e w1 ⟨rfl, h1⟩
    have HF1 : Hid (Fx w x y z w1) := HF.out.later h1
    obtain ⟨_, _, _, _, _, _, c3, c4, _, _⟩ := HF1.out
    clear HF h1
    go_wp2_with fail
    refine (G2.out _ HF1.out.2.2.1).mono ?_
    rintro e w2 ⟨rfl, h2⟩
    have HF2 : Hid (Fx w x y z w2) := HF1.out.later h2
    obtain ⟨_, _, _, _, _, _, _, _, c5, c6⟩ := HF2.out
    clear HF1 h2 c3 c4
    go_wp2_with fail
    refine (G3.out _ HF2.out.2.2.2.1).mono ?_
    rintro e w3 ⟨rfl, h3⟩
    have HF3 : Hid (Fx w x y z w3) := HF2.out.later h3
    clear HF2 h3 c5 c6
    go_wp2_with fail
    refine (types_any _).mono ?_
    rintro e w4 ⟨rfl, h4⟩
    have hb := (HF3.out.later h4).1
    clear h4 HF3
    go_wp2_with fail
    go_ret
    exact ⟨rfl, hb⟩
end Go.Proofs.Ytnddkmccagiclaa

/-
  The call of chaperonekeep.KindJoins answers true at three good trees, and nothing that was there has turned.
-/
namespace Go.Proofs.Ytnddkmccagiclaa
open Go.RowKit

theorem lev_good {t : Tr} (h : goodT 4 t = true) : t.hgt ≤ 1000 ∧ t.sm ∧ t.right ∧ goodY 4 t.ty = true :=
  ⟨Nat.le_trans (Tr.hgt_good 4 _ h) (by omega), Tr.sm_good 4 _ h, Tr.right_good 4 _ h, by rw [← goodT_eq]; exact h⟩

set_option maxHeartbeats 2000000 in
theorem joins_main (x y z : Tr) (w : World) (hx : x.In w) (hy : y.In w) (hz : z.In w) (gx : goodT 4 x = true) (gy : goodT 4 y = true) (gz : goodT 4 z = true) :
    Calls Try.prog 4 #[.agg #[.int .i64 x.k, .slice x.a x.l.length x.c], .agg #[.int .i64 y.k, .slice y.a y.l.length y.c], .agg #[.int .i64 z.k, .slice z.a z.l.length z.c]] w fun e w' => e = .returned (.bool true) ∧ Below w.heap.size w w' := by
  have HF : Hid (Fx w x y z (((w.alloc (.cells #[.int .i64 x.k, .slice x.a x.l.length x.c] 24)).alloc (.cells #[.int .i64 y.k, .slice y.a y.l.length y.c] 24)).alloc (.cells #[.int .i64 z.k, .slice z.a z.l.length z.c] 24))) := Fx.start hx hy hz
  have G1 : Hid (∀ W, x.In W → Calls Try.prog 7 #[.agg #[.int .i64 x.k, .slice x.a x.l.length x.c]] W fun e w' => e = .returned (.bool true) ∧ Below W.heap.size W w') := fun W h => gx ▸ good_any x W h
  have G2 : Hid (∀ W, y.In W → Calls Try.prog 7 #[.agg #[.int .i64 y.k, .slice y.a y.l.length y.c]] W fun e w' => e = .returned (.bool true) ∧ Below W.heap.size W w') := fun W h => gy ▸ good_any y W h
  have G3 : Hid (∀ W, z.In W → Calls Try.prog 7 #[.agg #[.int .i64 z.k, .slice z.a z.l.length z.c]] W fun e w' => e = .returned (.bool true) ∧ Below W.heap.size W w') := fun W h => gz ▸ good_any z W h
  obtain ⟨hx1, sx, rx, yx⟩ := lev_good gx
  obtain ⟨hy1, sy, ry, yy⟩ := lev_good gy
  obtain ⟨hz1, sz, rz, yz⟩ := lev_good gz
  obtain ⟨jg, jx, jy, jc, ji⟩ := join_facts 4 x.ty y.ty yx yy
  have HM : Hid (goodY 4 (joinY x.ty y.ty) = true ∧ relY escFiner x.ty (joinY x.ty y.ty) = true ∧ relY escFiner y.ty (joinY x.ty y.ty) = true ∧ joinY y.ty x.ty = joinY x.ty y.ty ∧ joinY x.ty x.ty = x.ty) := ⟨jg, jx, jy, jc, ji⟩
  have HL : Hid (relY escFiner x.ty z.ty = true → relY escFiner y.ty z.ty = true → relY escFiner (joinY x.ty y.ty) z.ty = true) := join_least 4 x.ty y.ty z.ty yx yy yz
  clear gx gy gz hx hy hz jg jx jy jc ji
  go_enter Try.func4, Try.ntmps4
  go_wp2_with fail
  refine (G1.out _ HF.out.2.1).mono ?_
  rintro e w1 ⟨rfl, h1⟩
  have HF1 : Hid (Fx w x y z w1) := HF.out.later h1
  obtain ⟨-, -, -, -, -, -, c3, c4, -, -⟩ := HF1.out
  clear HF h1
  go_wp2_with fail
  refine (G2.out _ HF1.out.2.2.1).mono ?_
  rintro e w2 ⟨rfl, h2⟩
  have HF2 : Hid (Fx w x y z w2) := HF1.out.later h2
  obtain ⟨-, -, -, -, -, -, -, -, c5, c6⟩ := HF2.out
  clear HF1 h2 c3 c4
  go_wp2_with fail
  refine (G3.out _ HF2.out.2.2.2.1).mono ?_
  rintro e w3 ⟨rfl, h3⟩
  have HF3 : Hid (Fx w x y z w3) := HF2.out.later h3
  obtain ⟨-, -, -, -, c1, c2, c3, c4, -, -⟩ := HF3.out
  clear HF2 h3 c5 c6 G1 G2 G3
  go_wp2_with fail
  refine (join_whole x y _ HF3.out.2.1 HF3.out.2.2.1 rx ry hx1).mono ?_
  rintro e w4 ⟨j, rfl, jty, jin, _, h4⟩
  have HF4 : Hid (Fx w x y z w4) := HF3.out.later h4
  clear HF3 h4 c1 c2 c3 c4
  have hjg : goodT 4 j = true := by rw [goodT_eq, jty]; exact HM.out.1
  obtain ⟨hj1, sj, rj, yj⟩ := lev_good hjg
  have K7 : Hid (∀ W, j.In W → Calls Try.prog 7 #[.agg #[.int .i64 j.k, .slice j.a j.l.length j.c]] W fun e w' => e = .returned (.bool true) ∧ Below W.heap.size W w') := fun W h => hjg ▸ good_any j W h
  have K19a : Hid (∀ W, x.In W → j.In W → Calls Try.prog 19 #[.agg #[.int .i64 x.k, .slice x.a x.l.length x.c], .agg #[.int .i64 j.k, .slice j.a j.l.length j.c]] W fun e w' => e = .returned (.bool true) ∧ Below W.heap.size W w') := fun W i1 i2 => by
    have := finer_whole x j W i1 i2 hx1 sx
    rw [jty, HM.out.2.1] at this
    exact this
  have K19b : Hid (∀ W, y.In W → j.In W → Calls Try.prog 19 #[.agg #[.int .i64 y.k, .slice y.a y.l.length y.c], .agg #[.int .i64 j.k, .slice j.a j.l.length j.c]] W fun e w' => e = .returned (.bool true) ∧ Below W.heap.size W w') := fun W i1 i2 => by
    have := finer_whole y j W i1 i2 hy1 sy
    rw [jty, HM.out.2.2.1] at this
    exact this
  have K21a : Hid (∀ W, y.In W → x.In W → Calls Try.prog 21 #[.agg #[.int .i64 y.k, .slice y.a y.l.length y.c], .agg #[.int .i64 x.k, .slice x.a x.l.length x.c]] W fun e w' => ∃ q : Tr, e = .returned (.agg #[.int .i64 q.k, .slice q.a q.l.length q.c]) ∧ q.In w' ∧ q.ty = j.ty ∧ Below W.heap.size W w') := fun W i1 i2 => by
    refine (join_whole y x W i1 i2 ry rx hy1).mono ?_
    rintro e w' ⟨q, rfl, qty, qin, _, hb⟩
    exact ⟨q, rfl, qin, by rw [qty, jty, HM.out.2.2.2.1], hb⟩
  have K10a : Hid (∀ (q : Tr) W, q.In W → j.In W → q.ty = j.ty → Calls Try.prog 10 #[.agg #[.int .i64 j.k, .slice j.a j.l.length j.c], .agg #[.int .i64 q.k, .slice q.a q.l.length q.c]] W fun e w' => e = .returned (.bool true) ∧ Below W.heap.size W w') := fun q W i1 i2 i3 => by
    have := same_whole j q W i2 i1 hj1 sj
    rw [i3, same_refl] at this
    exact this
  have K21b : Hid (∀ W, x.In W → Calls Try.prog 21 #[.agg #[.int .i64 x.k, .slice x.a x.l.length x.c], .agg #[.int .i64 x.k, .slice x.a x.l.length x.c]] W fun e w' => ∃ q : Tr, e = .returned (.agg #[.int .i64 q.k, .slice q.a q.l.length q.c]) ∧ q.In w' ∧ q.ty = x.ty ∧ q.hgt ≤ 1000 ∧ q.sm ∧ Below W.heap.size W w') := fun W i1 => by
    refine (join_whole x x W i1 i1 rx rx hx1).mono ?_
    rintro e w' ⟨q, rfl, qty, qin, _, hb⟩
    rw [HM.out.2.2.2.2] at qty
    have hqg : goodT 4 q = true := by rw [goodT_eq, qty]; exact yx
    obtain ⟨hq1, sq, _, _⟩ := lev_good hqg
    exact ⟨q, rfl, qin, qty, hq1, sq, hb⟩
  have K10b : Hid (∀ (q : Tr) W, q.In W → x.In W → q.ty = x.ty → q.hgt ≤ 1000 → q.sm → Calls Try.prog 10 #[.agg #[.int .i64 q.k, .slice q.a q.l.length q.c], .agg #[.int .i64 x.k, .slice x.a x.l.length x.c]] W fun e w' => e = .returned (.bool true) ∧ Below W.heap.size W w') := fun q W i1 i2 i3 i4 i5 => by
    have := same_whole q x W i1 i2 i4 i5
    rw [i3, same_refl] at this
    exact this
  obtain ⟨fa, hfa⟩ : ∃ f, relY escFiner x.ty z.ty = f := ⟨_, rfl⟩
  obtain ⟨fb, hfb⟩ : ∃ f, relY escFiner y.ty z.ty = f := ⟨_, rfl⟩
  have R1 : Hid (∀ W, x.In W → z.In W → Calls Try.prog 19 #[.agg #[.int .i64 x.k, .slice x.a x.l.length x.c], .agg #[.int .i64 z.k, .slice z.a z.l.length z.c]] W fun e w' => e = .returned (.bool fa) ∧ Below W.heap.size W w') := fun W i1 i2 => hfa ▸ finer_whole x z W i1 i2 hx1 sx
  have R2 : Hid (∀ W, y.In W → z.In W → Calls Try.prog 19 #[.agg #[.int .i64 y.k, .slice y.a y.l.length y.c], .agg #[.int .i64 z.k, .slice z.a z.l.length z.c]] W fun e w' => e = .returned (.bool fb) ∧ Below W.heap.size W w') := fun W i1 i2 => hfb ▸ finer_whole y z W i1 i2 hy1 sy
  have R3 : Hid (fa = true → fb = true → ∀ W, j.In W → z.In W → Calls Try.prog 19 #[.agg #[.int .i64 j.k, .slice j.a j.l.length j.c], .agg #[.int .i64 z.k, .slice z.a z.l.length z.c]] W fun e w' => e = .returned (.bool true) ∧ Below W.heap.size W w') := fun e1 e2 W i1 i2 => by
    have := finer_whole j z W i1 i2 hj1 sj
    rw [jty, HL.out (by rw [hfa, e1]) (by rw [hfb, e2])] at this
    exact this
  have hbb : Below w4.heap.size w4 (w4.alloc (.cells #[.int .i64 j.k, .slice j.a j.l.length j.c] 24)) := (Below.refl _ _).alloc (Nat.le_refl _) _
  have HF5 : Hid (Fx w x y z (w4.alloc (.cells #[.int .i64 j.k, .slice j.a j.l.length j.c] 24))) := HF4.out.later hbb
  have HJ5 : Hid (j.In (w4.alloc (.cells #[.int .i64 j.k, .slice j.a j.l.length j.c] 24))) := jin.below hbb
  obtain ⟨-, -, -, -, c1, c2, c3, c4, c5, c6⟩ := HF5.out
  clear HM HL hjg jty hbb jin hfa hfb hj1 sj rj yj hx1 sx rx yx hy1 sy ry yy hz1 sz rz yz HF4
  go_wp2_with fail
  go_region_held3 (fun w' => Below w.heap.size w w' ∧ x.In w' ∧ y.In w' ∧ z.In w' ∧ w'.cell? ⟨w.heap.size, 0, none⟩ = some (.int .i64 x.k) ∧ w'.cell? ⟨w.heap.size, 1, none⟩ = some (.slice x.a x.l.length x.c) ∧
      w'.cell? ⟨w.heap.size + 1, 0, none⟩ = some (.int .i64 y.k) ∧ w'.cell? ⟨w.heap.size + 1, 1, none⟩ = some (.slice y.a y.l.length y.c) ∧ w'.cell? ⟨w.heap.size + 1 + 1, 0, none⟩ = some (.int .i64 z.k) ∧ w'.cell? ⟨w.heap.size + 1 + 1, 1, none⟩ = some (.slice z.a z.l.length z.c) ∧
      j.In w' ∧ w'.cell? ⟨w4.heap.size, 0, none⟩ = some (.int .i64 j.k) ∧ w'.cell? ⟨w4.heap.size, 1, none⟩ = some (.slice j.a j.l.length j.c))
    (first
      | (obtain ⟨b0, i1, i2, i3, _⟩ := HF5.out; exact ⟨b0.drew, i1.below (Below.refl _ _).drew, i2.below (Below.refl _ _).drew, i3.below (Below.refl _ _).drew, c1, c2, c3, c4, c5, c6, HJ5.out.below (Below.refl _ _).drew, by simp [go_sem], by simp [go_sem]⟩)
      | (go_split_ands; refine ⟨?_, ?_, ?_, ?_, ?_, ?_, ?_, ?_, ?_, ?_, ?_, ?_, ?_⟩ <;> first | exact cell_later h10b (by assumption) | exact Tr.In.below h10b (by assumption) | exact Below.trans (by assumption) (Below.mono h10b (Below.size (by assumption))))
      | (go_split_ands; refine ⟨?_, ?_, ?_, ?_, ?_, ?_, ?_, ?_, ?_, ?_, ?_, ?_, ?_⟩ <;> first | exact cell_later h21b (by assumption) | exact Tr.In.below h21b (by assumption) | exact Below.trans (by assumption) (Below.mono h21b (Below.size (by assumption))))
      | (go_split_ands; refine ⟨?_, ?_, ?_, ?_, ?_, ?_, ?_, ?_, ?_, ?_, ?_, ?_, ?_⟩ <;> first | exact cell_later h10a (by assumption) | exact Tr.In.below h10a (by assumption) | exact Below.trans (by assumption) (Below.mono h10a (Below.size (by assumption))))
      | (go_split_ands; refine ⟨?_, ?_, ?_, ?_, ?_, ?_, ?_, ?_, ?_, ?_, ?_, ?_, ?_⟩ <;> first | exact cell_later h21a (by assumption) | exact Tr.In.below h21a (by assumption) | exact Below.trans (by assumption) (Below.mono h21a (Below.size (by assumption))))
      | (go_split_ands; refine ⟨?_, ?_, ?_, ?_, ?_, ?_, ?_, ?_, ?_, ?_, ?_, ?_, ?_⟩ <;> first | exact cell_later h19b (by assumption) | exact Tr.In.below h19b (by assumption) | exact Below.trans (by assumption) (Below.mono h19b (Below.size (by assumption))))
      | (go_split_ands; refine ⟨?_, ?_, ?_, ?_, ?_, ?_, ?_, ?_, ?_, ?_, ?_, ?_, ?_⟩ <;> first | exact cell_later h19a (by assumption) | exact Tr.In.below h19a (by assumption) | exact Below.trans (by assumption) (Below.mono h19a (Below.size (by assumption))))
      | (go_split_ands; refine ⟨?_, ?_, ?_, ?_, ?_, ?_, ?_, ?_, ?_, ?_, ?_, ?_, ?_⟩ <;> first | exact cell_later h7 (by assumption) | exact Tr.In.below h7 (by assumption) | exact Below.trans (by assumption) (Below.mono h7 (Below.size (by assumption))))
      | go_keep)
    (first
      | (go_at_call 7; go_split_ands; refine (K7.out _ (by assumption)).mono ?_; rintro e w7 ⟨rfl, h7⟩)
      | (go_at_call_of 19 (x.k); go_split_ands; refine (K19a.out _ (by assumption) (by assumption)).mono ?_; rintro e w19a ⟨rfl, h19a⟩)
      | (go_at_call 19; go_split_ands; refine (K19b.out _ (by assumption) (by assumption)).mono ?_; rintro e w19b ⟨rfl, h19b⟩)
      | (go_at_call_of 21 (y.k); go_split_ands; refine (K21a.out _ (by assumption) (by assumption)).mono ?_; rintro e w21a ⟨q, rfl, hq, qty, h21a⟩; have HQ : Hid (q.ty = j.ty) := qty; clear qty)
      | (go_at_call_of 10 (j.k); go_split_ands; refine (K10a.out q _ (by assumption) (by assumption) HQ.out).mono ?_; rintro e w10a ⟨rfl, h10a⟩)
      | (go_at_call 21; go_split_ands; refine (K21b.out _ (by assumption)).mono ?_; rintro e w21b ⟨p, rfl, hp, pty, ph, ps, h21b⟩; have HP : Hid (p.ty = x.ty) := pty; clear pty)
      | (go_at_call 10; go_split_ands; refine (K10b.out p _ (by assumption) (by assumption) HP.out ph ps).mono ?_; rintro e w10b ⟨rfl, h10b⟩))
  have HA : Hid (Fx w x y z w10b ∧ j.In w10b ∧ w10b.cell? ⟨w4.heap.size, 0, none⟩ = some (.int .i64 j.k) ∧ w10b.cell? ⟨w4.heap.size, 1, none⟩ = some (.slice j.a j.l.length j.c)) := by
    go_split_ands
    exact ⟨⟨by assumption, by assumption, by assumption, by assumption, by assumption, by assumption, by assumption, by assumption, by assumption, by assumption⟩, by assumption, by assumption, by assumption⟩
  clear HF5 HJ5 K7 K19a K19b K21a K10a K21b K10b c1 c2 c3 c4 c5 c6 h7 h19a h19b h21a h10a h21b h10b hq hp HQ HP ph ps
  obtain ⟨-, -, -, -, c1, c2, c3, c4, c5, c6⟩ := HA.out.1
  cases fa
  · clear R3 R2
    go_wp2_with fail
    refine (R1.out _ HA.out.1.2.1 HA.out.1.2.2.2.1).mono ?_
    rintro e v1 ⟨rfl, g1⟩
    have HB : Hid (Below w.heap.size w v1) := (HA.out.1.later g1).1
    clear HA g1 c1 c2 c3 c4 c5 c6
    go_wp2_with fail
    refine (types_any _).mono ?_
    rintro e v2 ⟨rfl, g2⟩
    have hb := HB.out.trans (g2.mono HB.out.size)
    clear HB g2
    go_wp2_with fail
    go_ret
    exact ⟨rfl, hb⟩
  · cases fb
    · clear R3
      go_wp2_with fail
      refine (R1.out _ HA.out.1.2.1 HA.out.1.2.2.2.1).mono ?_
      rintro e v1 ⟨rfl, g1⟩
      have HB : Hid (Fx w x y z v1) := HA.out.1.later g1
      clear HA g1 c1 c2 c3 c4 c5 c6
      obtain ⟨-, -, -, -, c1, c2, c3, c4, c5, c6⟩ := HB.out
      go_wp2_with fail
      refine (R2.out _ HB.out.2.2.1 HB.out.2.2.2.1).mono ?_
      rintro e v2 ⟨rfl, g2⟩
      have HC : Hid (Below w.heap.size w v2) := (HB.out.later g2).1
      clear HB g2 c1 c2 c3 c4 c5 c6
      go_wp2_with fail
      refine (types_any _).mono ?_
      rintro e v3 ⟨rfl, g3⟩
      have hb := HC.out.trans (g3.mono HC.out.size)
      clear HC g3
      go_wp2_with fail
      go_ret
      exact ⟨rfl, hb⟩
    · have R4 : Hid (∀ W, j.In W → z.In W → Calls Try.prog 19 #[.agg #[.int .i64 j.k, .slice j.a j.l.length j.c], .agg #[.int .i64 z.k, .slice z.a z.l.length z.c]] W fun e w' => e = .returned (.bool true) ∧ Below W.heap.size W w') := R3.out rfl rfl
      clear R3
      go_wp2_with fail
      refine (R1.out _ HA.out.1.2.1 HA.out.1.2.2.2.1).mono ?_
      rintro e v1 ⟨rfl, g1⟩
      have HB : Hid (Fx w x y z v1) := HA.out.1.later g1
      have HJ : Hid (j.In v1 ∧ v1.cell? ⟨w4.heap.size, 0, none⟩ = some (.int .i64 j.k) ∧ v1.cell? ⟨w4.heap.size, 1, none⟩ = some (.slice j.a j.l.length j.c)) := ⟨HA.out.2.1.below g1, cell_later g1 HA.out.2.2.1, cell_later g1 HA.out.2.2.2⟩
      clear HA g1 c1 c2 c3 c4 c5 c6
      obtain ⟨-, -, -, -, c1, c2, c3, c4, c5, c6⟩ := HB.out
      go_wp2_with fail
      refine (R2.out _ HB.out.2.2.1 HB.out.2.2.2.1).mono ?_
      rintro e v2 ⟨rfl, g2⟩
      have HC : Hid (Fx w x y z v2) := HB.out.later g2
      have HJ2 : Hid (j.In v2) := HJ.out.1.below g2
      have c7 := cell_later g2 HJ.out.2.1
      have c8 := cell_later g2 HJ.out.2.2
      clear HB g2 c1 c2 c3 c4 c5 c6 HJ
      obtain ⟨-, -, -, -, c1, c2, c3, c4, c5, c6⟩ := HC.out
      go_wp2_with fail
      refine (R4.out _ HJ2.out HC.out.2.2.2.1).mono ?_
      rintro e v3 ⟨rfl, g3⟩
      have HD : Hid (Below w.heap.size w v3) := (HC.out.later g3).1
      clear HC g3 c1 c2 c3 c4 c5 c6 c7 c8 HJ2
      go_wp2_with fail
      refine (types_any _).mono ?_
      rintro e v4 ⟨rfl, g4⟩
      have hb := HD.out.trans (g4.mono HD.out.size)
      clear HD g4
      go_wp2_with fail
      go_ret
      exact ⟨rfl, hb⟩

/-- chaperonekeep.KindJoins. -/
theorem joins_any (x y z : Tr) (w : World) (hx : x.In w) (hy : y.In w) (hz : z.In w) :
    Calls Try.prog 4 #[.agg #[.int .i64 x.k, .slice x.a x.l.length x.c], .agg #[.int .i64 y.k, .slice y.a y.l.length y.c], .agg #[.int .i64 z.k, .slice z.a z.l.length z.c]] w fun e w' => e = .returned (.bool true) ∧ Below w.heap.size w w' := by
  cases gx : goodT 4 x with
  | false => exact joins_else x y z w hx hy hz (.inl gx)
  | true =>
    cases gy : goodT 4 y with
    | false => exact joins_else x y z w hx hy hz (.inr (.inl ⟨gx, gy⟩))
    | true =>
      cases gz : goodT 4 z with
      | false => exact joins_else x y z w hx hy hz (.inr (.inr ⟨gx, gy, gz⟩))
      | true => exact joins_main x y z w hx hy hz gx gy gz
end Go.Proofs.Ytnddkmccagiclaa

/-
  A region that draws its order, all of whose operations yield one value in every world of a class and leave a world of that class: one walk in the order of the text serves every order.
-/
namespace Go.Proofs.Ytnddkmccagiclaa
open Go.RowKit

section
variable {P : Program} {C : World → Prop}

theorem wp_region_class {id : Nat} {Q : Exit → Act → World → Prop} {a : Act} {w : World} {l : List Oper} (hm : P.follows .mixedOrders = true) (hB : Region.lexB .any l.toArray = true) (hC : C { w with drawn := w.drawn + 1 })
    (h : wpQuiet P l.toArray C (fun a' => ∀ w', C w' → Q .normal a' w') l a) : (Code.region id l.toArray true).wp P Q a w :=
  wp_region_quiet (C := C) hm hB hC (by simpa using h)

variable {ops : Array Oper} {Q : Act → Prop} {a : Act} {o : Oper} {rest : List Oper}

/-- An operation that is wanted, and yields v in every world of the class. -/
theorem quiet_value (v : Value) (hw : Region.wanted o (yielded ops a.tmps) = true) (h : ∀ W, C W → (execOp a.eval o).run P W = .ok (.value v) W) (hk : wpQuiet P ops C Q rest (a.put o.dst v)) : wpQuiet P ops C Q (o :: rest) a :=
  wpQuiet_step fun K hK => by
    rw [if_pos hw]
    exact ⟨v, fun W hW => by unfold Oper.quietAt; rw [h W hW]; exact ⟨rfl, rfl⟩, hK _ hk⟩

/-- A call that is wanted, and hands back v in every world of the class. -/
theorem quiet_enter (v : Value) (f : FuncId) (args : Array Value) (hw : Region.wanted o (yielded ops a.tmps) = true) (h : ∀ W, C W → (execOp a.eval o).run P W = .ok (.enter f args) W) (hc : ∀ W, C W → Calls P f args W fun e w' => e = .returned v ∧ C w')
    (hk : wpQuiet P ops C Q rest (a.put o.dst v)) : wpQuiet P ops C Q (o :: rest) a :=
  wpQuiet_step fun K hK => by
    rw [if_pos hw]
    exact ⟨v, fun W hW => by unfold Oper.quietAt; rw [h W hW]; exact ⟨rfl, hc W hW⟩, hK _ hk⟩

/-- An operation that is not wanted. -/
theorem quiet_skip (hw : Region.wanted o (yielded ops a.tmps) = false) (hk : wpQuiet P ops C Q rest (a.put o.dst undef)) : wpQuiet P ops C Q (o :: rest) a :=
  wpQuiet_step fun K hK => by rw [if_neg (by rw [hw]; exact Bool.false_ne_true)]; exact hK _ hk
end
end Go.Proofs.Ytnddkmccagiclaa

/-
  The call of chaperonekeep.KindFits answers true at whatever three trees lie in memory, and nothing that was there has turned.
-/
namespace Go.Proofs.Ytnddkmccagiclaa
open Go.RowKit

set_option maxHeartbeats 1000000 in
theorem kfits_else (x y z : Tr) (w : World) (hx : x.In w) (hy : y.In w) (hz : z.In w) (hh : goodT 4 x = false ∨ goodT 4 x = true ∧ goodT 4 y = false ∨ goodT 4 x = true ∧ goodT 4 y = true ∧ goodT 4 z = false) :
    Calls Try.prog 5 #[.agg #[.int .i64 x.k, .slice x.a x.l.length x.c], .agg #[.int .i64 y.k, .slice y.a y.l.length y.c], .agg #[.int .i64 z.k, .slice z.a z.l.length z.c]] w fun e w' => e = .returned (.bool true) ∧ Below w.heap.size w w' := by
  have HF : Hid (Fx w x y z (((w.alloc (.cells #[.int .i64 x.k, .slice x.a x.l.length x.c] 24)).alloc (.cells #[.int .i64 y.k, .slice y.a y.l.length y.c] 24)).alloc (.cells #[.int .i64 z.k, .slice z.a z.l.length z.c] 24))) := Fx.start hx hy hz
  obtain ⟨gx, hgx⟩ : ∃ g, goodT 4 x = g := ⟨_, rfl⟩
  obtain ⟨gy, hgy⟩ : ∃ g, goodT 4 y = g := ⟨_, rfl⟩
  obtain ⟨gz, hgz⟩ : ∃ g, goodT 4 z = g := ⟨_, rfl⟩
  have G1 : Hid (∀ W, x.In W → Calls Try.prog 7 #[.agg #[.int .i64 x.k, .slice x.a x.l.length x.c]] W fun e w' => e = .returned (.bool gx) ∧ Below W.heap.size W w') := fun W h => hgx ▸ good_any x W h
  have G2 : Hid (∀ W, y.In W → Calls Try.prog 7 #[.agg #[.int .i64 y.k, .slice y.a y.l.length y.c]] W fun e w' => e = .returned (.bool gy) ∧ Below W.heap.size W w') := fun W h => hgy ▸ good_any y W h
  have G3 : Hid (∀ W, z.In W → Calls Try.prog 7 #[.agg #[.int .i64 z.k, .slice z.a z.l.length z.c]] W fun e w' => e = .returned (.bool gz) ∧ Below W.heap.size W w') := fun W h => hgz ▸ good_any z W h
  rw [hgx, hgy, hgz] at hh
  clear hgx hgy hgz hx hy hz
  rcases hh with rfl | ⟨rfl, rfl⟩ | ⟨rfl, rfl, rfl⟩
  · clear G2 G3
    go_enter Try.func5, Try.ntmps5
    go_wp2_with fail
    refine (G1.out _ HF.out.2.1).mono ?_
    rintro e w1 ⟨rfl, h1⟩
    have HF1 : Hid (Fx w x y z w1) := HF.out.later h1
    clear HF h1
    go_wp2_with fail
    refine (types_any _).mono ?_
    rintro e w2 ⟨rfl, h2⟩
    have hb := (HF1.out.later h2).1
    clear h2 HF1
    go_wp2_with fail
    go_ret
    exact ⟨rfl, hb⟩
  · clear G3
    go_enter Try.func5, Try.ntmps5
    go_wp2_with fail
    refine (G1.out _ HF.out.2.1).mono ?_
    rintro e w1 ⟨rfl, h1⟩
    have HF1 : Hid (Fx w x y z w1) := HF.out.later h1
    obtain ⟨_, _, _, _, _, _, c3, c4, _, _⟩ := HF1.out
    clear HF h1
    go_wp2_with fail
    refine (G2.out _ HF1.out.2.2.1).mono ?_
    rintro e w2 ⟨rfl, h2⟩
    have HF2 : Hid (Fx w x y z w2) := HF1.out.later h2
    clear HF1 h2 c3 c4
    go_wp2_with fail
    refine (types_any _).mono ?_
    rintro e w3 ⟨rfl, h3⟩
    have hb := (HF2.out.later h3).1
    clear h3 HF2
    go_wp2_with fail
    go_ret
    exact ⟨rfl, hb⟩
  · go_enter Try.func5, Try.ntmps5
    go_wp2_with fail
    refine (G1.out _ HF.out.2.1).mono ?_
    rintro e w1 ⟨rfl, h1⟩
    have HF1 : Hid (Fx w x y z w1) := HF.out.later h1
    obtain ⟨_, _, _, _, _, _, c3, c4, _, _⟩ := HF1.out
    clear HF h1
    go_wp2_with fail
    refine (G2.out _ HF1.out.2.2.1).mono ?_
    rintro e w2 ⟨rfl, h2⟩
    have HF2 : Hid (Fx w x y z w2) := HF1.out.later h2
    obtain ⟨_, _, _, _, _, _, _, _, c5, c6⟩ := HF2.out
    clear HF1 h2 c3 c4
    go_wp2_with fail
    refine (G3.out _ HF2.out.2.2.2.1).mono ?_
    rintro e w3 ⟨rfl, h3⟩
    have HF3 : Hid (Fx w x y z w3) := HF2.out.later h3
    clear HF2 h3 c5 c6
    go_wp2_with fail
    refine (types_any _).mono ?_
    rintro e w4 ⟨rfl, h4⟩
    have hb := (HF3.out.later h4).1
    clear h4 HF3
    go_wp2_with fail
    go_ret
    exact ⟨rfl, hb⟩
set_option maxHeartbeats 8000000 in
set_option maxRecDepth 100000 in
theorem kfits_main (x y z : Tr) (w : World) (hx : x.In w) (hy : y.In w) (hz : z.In w) (gx : goodT 4 x = true) (gy : goodT 4 y = true) (gz : goodT 4 z = true) :
    Calls Try.prog 5 #[.agg #[.int .i64 x.k, .slice x.a x.l.length x.c], .agg #[.int .i64 y.k, .slice y.a y.l.length y.c], .agg #[.int .i64 z.k, .slice z.a z.l.length z.c]] w fun e w' => e = .returned (.bool true) ∧ Below w.heap.size w w' := by
  have HF : Hid (Fx w x y z (((w.alloc (.cells #[.int .i64 x.k, .slice x.a x.l.length x.c] 24)).alloc (.cells #[.int .i64 y.k, .slice y.a y.l.length y.c] 24)).alloc (.cells #[.int .i64 z.k, .slice z.a z.l.length z.c] 24))) := Fx.start hx hy hz
  have G1 : Hid (∀ W, x.In W → Calls Try.prog 7 #[.agg #[.int .i64 x.k, .slice x.a x.l.length x.c]] W fun e w' => e = .returned (.bool true) ∧ Below W.heap.size W w') := fun W h => gx ▸ good_any x W h
  have G2 : Hid (∀ W, y.In W → Calls Try.prog 7 #[.agg #[.int .i64 y.k, .slice y.a y.l.length y.c]] W fun e w' => e = .returned (.bool true) ∧ Below W.heap.size W w') := fun W h => gy ▸ good_any y W h
  have G3 : Hid (∀ W, z.In W → Calls Try.prog 7 #[.agg #[.int .i64 z.k, .slice z.a z.l.length z.c]] W fun e w' => e = .returned (.bool true) ∧ Below W.heap.size W w') := fun W h => gz ▸ good_any z W h
  obtain ⟨hx1, sx, rx, yx⟩ := lev_good gx
  obtain ⟨hy1, sy, ry, yy⟩ := lev_good gy
  obtain ⟨hz1, sz, rz, yz⟩ := lev_good gz
  obtain ⟨r, hr⟩ : ∃ f, relY escFits x.ty y.ty = f := ⟨_, rfl⟩
  obtain ⟨s, hs⟩ : ∃ f, relY escFiner x.ty y.ty = f := ⟨_, rfl⟩
  obtain ⟨t, ht⟩ : ∃ f, relY escFiner y.ty z.ty = f := ⟨_, rfl⟩
  obtain ⟨u, hu⟩ : ∃ f, relY escFits x.ty z.ty = f := ⟨_, rfl⟩
  obtain ⟨v, hv⟩ : ∃ f, sureY x.ty = f := ⟨_, rfl⟩
  obtain ⟨p, hp⟩ : ∃ f, relY escFiner x.ty z.ty = f := ⟨_, rfl⟩
  obtain ⟨q, hq⟩ : ∃ f, relY escFiner y.ty x.ty = f := ⟨_, rfl⟩
  obtain ⟨m, hm⟩ : ∃ f, relY escSame x.ty y.ty = f := ⟨_, rfl⟩
  have L1 : Hid (s = true → r = true) := fun h => by rw [← hr]; exact finer_fits 4 x.ty y.ty yx yy (by rw [hs, h])
  have L2 : Hid (r = true → t = true → u = true) := fun h g => by rw [← hu]; exact fits_coarser 4 x.ty y.ty z.ty yx yy yz (by rw [hr, h]) (by rw [ht, g])
  have L3 : Hid (v = true → r = s) := fun h => by rw [← hr, ← hs]; exact sure_fits 4 x.ty y.ty yx yy (by rw [hv, h])
  have L4 : Hid (s = true → t = true → p = true) := fun h g => by rw [← hp]; exact finer_trans 4 x.ty y.ty z.ty yx yy yz (by rw [hs, h]) (by rw [ht, g])
  have L5 : Hid (s = true → q = true → m = true) := fun h g => by rw [← hm]; exact finer_both 4 x.ty y.ty yx yy (by rw [hs, h]) (by rw [hq, g])
  have Kxy : Hid (∀ W, x.In W → y.In W → Calls Try.prog 17 #[.agg #[.int .i64 x.k, .slice x.a x.l.length x.c], .agg #[.int .i64 y.k, .slice y.a y.l.length y.c]] W fun e w' => e = .returned (.bool r) ∧ Below W.heap.size W w') := fun W i1 i2 => hr ▸ fits_whole x y W i1 i2 hx1 sx
  have Kyx : Hid (∀ W, y.In W → x.In W → Calls Try.prog 17 #[.agg #[.int .i64 y.k, .slice y.a y.l.length y.c], .agg #[.int .i64 x.k, .slice x.a x.l.length x.c]] W fun e w' => e = .returned (.bool r) ∧ Below W.heap.size W w') := fun W i1 i2 => by
    have h := fits_whole y x W i1 i2 hy1 sy
    rw [← fits_sym 4 x.ty y.ty yx yy, hr] at h
    exact h
  have Kxx : Hid (∀ W, x.In W → Calls Try.prog 17 #[.agg #[.int .i64 x.k, .slice x.a x.l.length x.c], .agg #[.int .i64 x.k, .slice x.a x.l.length x.c]] W fun e w' => e = .returned (.bool true) ∧ Below W.heap.size W w') := fun W i1 => fits_refl 4 x.ty yx ▸ fits_whole x x W i1 i1 hx1 sx
  have Kxz : Hid (∀ W, x.In W → z.In W → Calls Try.prog 17 #[.agg #[.int .i64 x.k, .slice x.a x.l.length x.c], .agg #[.int .i64 z.k, .slice z.a z.l.length z.c]] W fun e w' => e = .returned (.bool u) ∧ Below W.heap.size W w') := fun W i1 i2 => hu ▸ fits_whole x z W i1 i2 hx1 sx
  have Nxy : Hid (∀ W, x.In W → y.In W → Calls Try.prog 19 #[.agg #[.int .i64 x.k, .slice x.a x.l.length x.c], .agg #[.int .i64 y.k, .slice y.a y.l.length y.c]] W fun e w' => e = .returned (.bool s) ∧ Below W.heap.size W w') := fun W i1 i2 => hs ▸ finer_whole x y W i1 i2 hx1 sx
  have Nyz : Hid (∀ W, y.In W → z.In W → Calls Try.prog 19 #[.agg #[.int .i64 y.k, .slice y.a y.l.length y.c], .agg #[.int .i64 z.k, .slice z.a z.l.length z.c]] W fun e w' => e = .returned (.bool t) ∧ Below W.heap.size W w') := fun W i1 i2 => ht ▸ finer_whole y z W i1 i2 hy1 sy
  have Nxz : Hid (∀ W, x.In W → z.In W → Calls Try.prog 19 #[.agg #[.int .i64 x.k, .slice x.a x.l.length x.c], .agg #[.int .i64 z.k, .slice z.a z.l.length z.c]] W fun e w' => e = .returned (.bool p) ∧ Below W.heap.size W w') := fun W i1 i2 => hp ▸ finer_whole x z W i1 i2 hx1 sx
  have Nyx : Hid (∀ W, y.In W → x.In W → Calls Try.prog 19 #[.agg #[.int .i64 y.k, .slice y.a y.l.length y.c], .agg #[.int .i64 x.k, .slice x.a x.l.length x.c]] W fun e w' => e = .returned (.bool q) ∧ Below W.heap.size W w') := fun W i1 i2 => hq ▸ finer_whole y x W i1 i2 hy1 sy
  have Mxy : Hid (∀ W, x.In W → y.In W → Calls Try.prog 10 #[.agg #[.int .i64 x.k, .slice x.a x.l.length x.c], .agg #[.int .i64 y.k, .slice y.a y.l.length y.c]] W fun e w' => e = .returned (.bool m) ∧ Below W.heap.size W w') := fun W i1 i2 => hm ▸ same_whole x y W i1 i2 hx1 sx
  have Vx : Hid (∀ W, x.In W → Calls Try.prog 25 #[.agg #[.int .i64 x.k, .slice x.a x.l.length x.c]] W fun e w' => e = .returned (.bool v) ∧ Below W.heap.size W w') := fun W i1 => hv ▸ sure_any x W i1 rx (by have := Tr.sz_good 4 x gx; omega)
  clear hr hs ht hu hv hp hq hm hx1 sx rx yx hy1 sy ry yy hz1 sz rz yz gx gy gz hx hy hz
  go_enter Try.func5, Try.ntmps5
  go_wp2_with fail
  refine (G1.out _ HF.out.2.1).mono ?_
  rintro e w1 ⟨rfl, h1⟩
  have HF1 : Hid (Fx w x y z w1) := HF.out.later h1
  obtain ⟨-, -, -, -, -, -, c3, c4, -, -⟩ := HF1.out
  clear HF h1
  go_wp2_with fail
  refine (G2.out _ HF1.out.2.2.1).mono ?_
  rintro e w2 ⟨rfl, h2⟩
  have HF2 : Hid (Fx w x y z w2) := HF1.out.later h2
  obtain ⟨-, -, -, -, -, -, -, -, c5, c6⟩ := HF2.out
  clear HF1 h2 c3 c4
  go_wp2_with fail
  refine (G3.out _ HF2.out.2.2.2.1).mono ?_
  rintro e w3 ⟨rfl, h3⟩
  have HF3 : Hid (Fx w x y z w3) := HF2.out.later h3
  clear HF2 h3 c5 c6 G1 G2 G3
  go_wp2_with fail
  go_cut [44] (fun s44 wx => s44 = .bool false ∧ Hid (Fx w x y z wx))
  case first =>
    refine wp_region_class (C := Fx w x y z) (by kernel_rfl) (by kernel_rfl) (HF3.out.later ((Below.refl _ _).drew)) ?_
    cases s
    · iterate 24 (first
        | go_big_quiet_skip
        | (refine quiet_value (v := ?_) (by rfl) ?_ ?_; rotate_left; (focus (intro W hW; obtain ⟨-, -, -, -, d1, d2, d3, d4, d5, d6⟩ := hW; first | (go_simp; done) | (go_simp; with_reducible rfl))); simp only [Act.put, List.setIfInBounds_toArray, List.set_cons_zero, List.set_cons_succ])
        | (refine quiet_enter (.bool r) 17 #[.agg #[.int .i64 x.k, .slice x.a x.l.length x.c], .agg #[.int .i64 y.k, .slice y.a y.l.length y.c]] (by rfl) ?_ (fun W hW => (Kxy.out W hW.2.1 hW.2.2.1).mono fun e w' ⟨he, hb⟩ => ⟨he, hW.later hb⟩) ?_; (focus (intro W _; go_simp; done)); simp only [Act.put, List.setIfInBounds_toArray, List.set_cons_zero, List.set_cons_succ])
        | (refine quiet_enter (.bool r) 17 #[.agg #[.int .i64 y.k, .slice y.a y.l.length y.c], .agg #[.int .i64 x.k, .slice x.a x.l.length x.c]] (by rfl) ?_ (fun W hW => (Kyx.out W hW.2.2.1 hW.2.1).mono fun e w' ⟨he, hb⟩ => ⟨he, hW.later hb⟩) ?_; (focus (intro W _; go_simp; done)); simp only [Act.put, List.setIfInBounds_toArray, List.set_cons_zero, List.set_cons_succ])
        | (refine quiet_enter (.bool true) 17 #[.agg #[.int .i64 x.k, .slice x.a x.l.length x.c], .agg #[.int .i64 x.k, .slice x.a x.l.length x.c]] (by rfl) ?_ (fun W hW => (Kxx.out W hW.2.1).mono fun e w' ⟨he, hb⟩ => ⟨he, hW.later hb⟩) ?_; (focus (intro W _; go_simp; done)); simp only [Act.put, List.setIfInBounds_toArray, List.set_cons_zero, List.set_cons_succ])
        | (refine quiet_enter (.bool false) 19 #[.agg #[.int .i64 x.k, .slice x.a x.l.length x.c], .agg #[.int .i64 y.k, .slice y.a y.l.length y.c]] (by rfl) ?_ (fun W hW => (Nxy.out W hW.2.1 hW.2.2.1).mono fun e w' ⟨he, hb⟩ => ⟨he, hW.later hb⟩) ?_; (focus (intro W _; go_simp; done)); simp only [Act.put, List.setIfInBounds_toArray, List.set_cons_zero, List.set_cons_succ]))
      refine wpQuiet_nil ?_
      intro wq hq
      have HQ : Hid (Fx w x y z wq) := hq
      clear hq
      go_wp2_with fail
      go_meet
      case rel => exact ⟨rfl, HQ⟩
    · obtain rfl := L1.out rfl
      iterate 24 (first
        | go_big_quiet_skip
        | (refine quiet_value (v := ?_) (by rfl) ?_ ?_; rotate_left; (focus (intro W hW; obtain ⟨-, -, -, -, d1, d2, d3, d4, d5, d6⟩ := hW; first | (go_simp; done) | (go_simp; with_reducible rfl))); simp only [Act.put, List.setIfInBounds_toArray, List.set_cons_zero, List.set_cons_succ])
        | (refine quiet_enter (.bool true) 17 #[.agg #[.int .i64 x.k, .slice x.a x.l.length x.c], .agg #[.int .i64 y.k, .slice y.a y.l.length y.c]] (by rfl) ?_ (fun W hW => (Kxy.out W hW.2.1 hW.2.2.1).mono fun e w' ⟨he, hb⟩ => ⟨he, hW.later hb⟩) ?_; (focus (intro W _; go_simp; done)); simp only [Act.put, List.setIfInBounds_toArray, List.set_cons_zero, List.set_cons_succ])
        | (refine quiet_enter (.bool true) 17 #[.agg #[.int .i64 y.k, .slice y.a y.l.length y.c], .agg #[.int .i64 x.k, .slice x.a x.l.length x.c]] (by rfl) ?_ (fun W hW => (Kyx.out W hW.2.2.1 hW.2.1).mono fun e w' ⟨he, hb⟩ => ⟨he, hW.later hb⟩) ?_; (focus (intro W _; go_simp; done)); simp only [Act.put, List.setIfInBounds_toArray, List.set_cons_zero, List.set_cons_succ])
        | (refine quiet_enter (.bool true) 17 #[.agg #[.int .i64 x.k, .slice x.a x.l.length x.c], .agg #[.int .i64 x.k, .slice x.a x.l.length x.c]] (by rfl) ?_ (fun W hW => (Kxx.out W hW.2.1).mono fun e w' ⟨he, hb⟩ => ⟨he, hW.later hb⟩) ?_; (focus (intro W _; go_simp; done)); simp only [Act.put, List.setIfInBounds_toArray, List.set_cons_zero, List.set_cons_succ])
        | (refine quiet_enter (.bool true) 19 #[.agg #[.int .i64 x.k, .slice x.a x.l.length x.c], .agg #[.int .i64 y.k, .slice y.a y.l.length y.c]] (by rfl) ?_ (fun W hW => (Nxy.out W hW.2.1 hW.2.2.1).mono fun e w' ⟨he, hb⟩ => ⟨he, hW.later hb⟩) ?_; (focus (intro W _; go_simp; done)); simp only [Act.put, List.setIfInBounds_toArray, List.set_cons_zero, List.set_cons_succ]))
      refine wpQuiet_nil ?_
      intro wq hq
      have HQ : Hid (Fx w x y z wq) := hq
      clear hq
      go_wp2_with fail
      go_meet
      case rel => exact ⟨rfl, HQ⟩
  case rest =>
    obtain ⟨h44, HF4⟩ := hcut
    subst h44
    clear HF3 Kyx Kxx
    go_wp2_with fail
    go_cut [71] (fun s71 wx => s71 = .bool false ∧ Hid (Fx w x y z wx))
    case first =>
      refine wp_region_class (C := Fx w x y z) (by kernel_rfl) (by kernel_rfl) (HF4.out.later ((Below.refl _ _).drew)) ?_
      cases r
      · cases v
        · iterate 27 (first
            | go_big_quiet_skip
            | (refine quiet_value (v := ?_) (by rfl) ?_ ?_; rotate_left; (focus (intro W hW; obtain ⟨-, -, -, -, d1, d2, d3, d4, d5, d6⟩ := hW; first | (go_simp; done) | (go_simp; with_reducible rfl))); simp only [Act.put, List.setIfInBounds_toArray, List.set_cons_zero, List.set_cons_succ])
            | (refine quiet_enter (.bool false) 17 #[.agg #[.int .i64 x.k, .slice x.a x.l.length x.c], .agg #[.int .i64 y.k, .slice y.a y.l.length y.c]] (by rfl) ?_ (fun W hW => (Kxy.out W hW.2.1 hW.2.2.1).mono fun e w' ⟨he, hb⟩ => ⟨he, hW.later hb⟩) ?_; (focus (intro W _; go_simp; done)); simp only [Act.put, List.setIfInBounds_toArray, List.set_cons_zero, List.set_cons_succ])
            | (refine quiet_enter (.bool false) 25 #[.agg #[.int .i64 x.k, .slice x.a x.l.length x.c]] (by rfl) ?_ (fun W hW => (Vx.out W hW.2.1).mono fun e w' ⟨he, hb⟩ => ⟨he, hW.later hb⟩) ?_; (focus (intro W _; go_simp; done)); simp only [Act.put, List.setIfInBounds_toArray, List.set_cons_zero, List.set_cons_succ]))
          refine wpQuiet_nil ?_
          intro wq hq
          have HQ : Hid (Fx w x y z wq) := hq
          clear hq
          go_wp2_with fail
          go_meet
          case rel => exact ⟨rfl, HQ⟩
        · obtain rfl := L3.out rfl
          iterate 27 (first
            | go_big_quiet_skip
            | (refine quiet_value (v := ?_) (by rfl) ?_ ?_; rotate_left; (focus (intro W hW; obtain ⟨-, -, -, -, d1, d2, d3, d4, d5, d6⟩ := hW; first | (go_simp; done) | (go_simp; with_reducible rfl))); simp only [Act.put, List.setIfInBounds_toArray, List.set_cons_zero, List.set_cons_succ])
            | (refine quiet_enter (.bool false) 17 #[.agg #[.int .i64 x.k, .slice x.a x.l.length x.c], .agg #[.int .i64 y.k, .slice y.a y.l.length y.c]] (by rfl) ?_ (fun W hW => (Kxy.out W hW.2.1 hW.2.2.1).mono fun e w' ⟨he, hb⟩ => ⟨he, hW.later hb⟩) ?_; (focus (intro W _; go_simp; done)); simp only [Act.put, List.setIfInBounds_toArray, List.set_cons_zero, List.set_cons_succ])
            | (refine quiet_enter (.bool false) 19 #[.agg #[.int .i64 x.k, .slice x.a x.l.length x.c], .agg #[.int .i64 y.k, .slice y.a y.l.length y.c]] (by rfl) ?_ (fun W hW => (Nxy.out W hW.2.1 hW.2.2.1).mono fun e w' ⟨he, hb⟩ => ⟨he, hW.later hb⟩) ?_; (focus (intro W _; go_simp; done)); simp only [Act.put, List.setIfInBounds_toArray, List.set_cons_zero, List.set_cons_succ])
            | (refine quiet_enter (.bool true) 25 #[.agg #[.int .i64 x.k, .slice x.a x.l.length x.c]] (by rfl) ?_ (fun W hW => (Vx.out W hW.2.1).mono fun e w' ⟨he, hb⟩ => ⟨he, hW.later hb⟩) ?_; (focus (intro W _; go_simp; done)); simp only [Act.put, List.setIfInBounds_toArray, List.set_cons_zero, List.set_cons_succ]))
          refine wpQuiet_nil ?_
          intro wq hq
          have HQ : Hid (Fx w x y z wq) := hq
          clear hq
          go_wp2_with fail
          go_meet
          case rel => exact ⟨rfl, HQ⟩
      · cases t
        · cases v
          · iterate 27 (first
              | go_big_quiet_skip
              | (refine quiet_value (v := ?_) (by rfl) ?_ ?_; rotate_left; (focus (intro W hW; obtain ⟨-, -, -, -, d1, d2, d3, d4, d5, d6⟩ := hW; first | (go_simp; done) | (go_simp; with_reducible rfl))); simp only [Act.put, List.setIfInBounds_toArray, List.set_cons_zero, List.set_cons_succ])
              | (refine quiet_enter (.bool true) 17 #[.agg #[.int .i64 x.k, .slice x.a x.l.length x.c], .agg #[.int .i64 y.k, .slice y.a y.l.length y.c]] (by rfl) ?_ (fun W hW => (Kxy.out W hW.2.1 hW.2.2.1).mono fun e w' ⟨he, hb⟩ => ⟨he, hW.later hb⟩) ?_; (focus (intro W _; go_simp; done)); simp only [Act.put, List.setIfInBounds_toArray, List.set_cons_zero, List.set_cons_succ])
              | (refine quiet_enter (.bool false) 19 #[.agg #[.int .i64 y.k, .slice y.a y.l.length y.c], .agg #[.int .i64 z.k, .slice z.a z.l.length z.c]] (by rfl) ?_ (fun W hW => (Nyz.out W hW.2.2.1 hW.2.2.2.1).mono fun e w' ⟨he, hb⟩ => ⟨he, hW.later hb⟩) ?_; (focus (intro W _; go_simp; done)); simp only [Act.put, List.setIfInBounds_toArray, List.set_cons_zero, List.set_cons_succ])
              | (refine quiet_enter (.bool false) 25 #[.agg #[.int .i64 x.k, .slice x.a x.l.length x.c]] (by rfl) ?_ (fun W hW => (Vx.out W hW.2.1).mono fun e w' ⟨he, hb⟩ => ⟨he, hW.later hb⟩) ?_; (focus (intro W _; go_simp; done)); simp only [Act.put, List.setIfInBounds_toArray, List.set_cons_zero, List.set_cons_succ]))
            refine wpQuiet_nil ?_
            intro wq hq
            have HQ : Hid (Fx w x y z wq) := hq
            clear hq
            go_wp2_with fail
            go_meet
            case rel => exact ⟨rfl, HQ⟩
          · obtain rfl := L3.out rfl
            iterate 27 (first
              | go_big_quiet_skip
              | (refine quiet_value (v := ?_) (by rfl) ?_ ?_; rotate_left; (focus (intro W hW; obtain ⟨-, -, -, -, d1, d2, d3, d4, d5, d6⟩ := hW; first | (go_simp; done) | (go_simp; with_reducible rfl))); simp only [Act.put, List.setIfInBounds_toArray, List.set_cons_zero, List.set_cons_succ])
              | (refine quiet_enter (.bool true) 17 #[.agg #[.int .i64 x.k, .slice x.a x.l.length x.c], .agg #[.int .i64 y.k, .slice y.a y.l.length y.c]] (by rfl) ?_ (fun W hW => (Kxy.out W hW.2.1 hW.2.2.1).mono fun e w' ⟨he, hb⟩ => ⟨he, hW.later hb⟩) ?_; (focus (intro W _; go_simp; done)); simp only [Act.put, List.setIfInBounds_toArray, List.set_cons_zero, List.set_cons_succ])
              | (refine quiet_enter (.bool true) 19 #[.agg #[.int .i64 x.k, .slice x.a x.l.length x.c], .agg #[.int .i64 y.k, .slice y.a y.l.length y.c]] (by rfl) ?_ (fun W hW => (Nxy.out W hW.2.1 hW.2.2.1).mono fun e w' ⟨he, hb⟩ => ⟨he, hW.later hb⟩) ?_; (focus (intro W _; go_simp; done)); simp only [Act.put, List.setIfInBounds_toArray, List.set_cons_zero, List.set_cons_succ])
              | (refine quiet_enter (.bool false) 19 #[.agg #[.int .i64 y.k, .slice y.a y.l.length y.c], .agg #[.int .i64 z.k, .slice z.a z.l.length z.c]] (by rfl) ?_ (fun W hW => (Nyz.out W hW.2.2.1 hW.2.2.2.1).mono fun e w' ⟨he, hb⟩ => ⟨he, hW.later hb⟩) ?_; (focus (intro W _; go_simp; done)); simp only [Act.put, List.setIfInBounds_toArray, List.set_cons_zero, List.set_cons_succ])
              | (refine quiet_enter (.bool true) 25 #[.agg #[.int .i64 x.k, .slice x.a x.l.length x.c]] (by rfl) ?_ (fun W hW => (Vx.out W hW.2.1).mono fun e w' ⟨he, hb⟩ => ⟨he, hW.later hb⟩) ?_; (focus (intro W _; go_simp; done)); simp only [Act.put, List.setIfInBounds_toArray, List.set_cons_zero, List.set_cons_succ]))
            refine wpQuiet_nil ?_
            intro wq hq
            have HQ : Hid (Fx w x y z wq) := hq
            clear hq
            go_wp2_with fail
            go_meet
            case rel => exact ⟨rfl, HQ⟩
        · obtain rfl := L2.out rfl rfl
          cases v
          · iterate 27 (first
              | go_big_quiet_skip
              | (refine quiet_value (v := ?_) (by rfl) ?_ ?_; rotate_left; (focus (intro W hW; obtain ⟨-, -, -, -, d1, d2, d3, d4, d5, d6⟩ := hW; first | (go_simp; done) | (go_simp; with_reducible rfl))); simp only [Act.put, List.setIfInBounds_toArray, List.set_cons_zero, List.set_cons_succ])
              | (refine quiet_enter (.bool true) 17 #[.agg #[.int .i64 x.k, .slice x.a x.l.length x.c], .agg #[.int .i64 y.k, .slice y.a y.l.length y.c]] (by rfl) ?_ (fun W hW => (Kxy.out W hW.2.1 hW.2.2.1).mono fun e w' ⟨he, hb⟩ => ⟨he, hW.later hb⟩) ?_; (focus (intro W _; go_simp; done)); simp only [Act.put, List.setIfInBounds_toArray, List.set_cons_zero, List.set_cons_succ])
              | (refine quiet_enter (.bool true) 17 #[.agg #[.int .i64 x.k, .slice x.a x.l.length x.c], .agg #[.int .i64 z.k, .slice z.a z.l.length z.c]] (by rfl) ?_ (fun W hW => (Kxz.out W hW.2.1 hW.2.2.2.1).mono fun e w' ⟨he, hb⟩ => ⟨he, hW.later hb⟩) ?_; (focus (intro W _; go_simp; done)); simp only [Act.put, List.setIfInBounds_toArray, List.set_cons_zero, List.set_cons_succ])
              | (refine quiet_enter (.bool true) 19 #[.agg #[.int .i64 y.k, .slice y.a y.l.length y.c], .agg #[.int .i64 z.k, .slice z.a z.l.length z.c]] (by rfl) ?_ (fun W hW => (Nyz.out W hW.2.2.1 hW.2.2.2.1).mono fun e w' ⟨he, hb⟩ => ⟨he, hW.later hb⟩) ?_; (focus (intro W _; go_simp; done)); simp only [Act.put, List.setIfInBounds_toArray, List.set_cons_zero, List.set_cons_succ])
              | (refine quiet_enter (.bool false) 25 #[.agg #[.int .i64 x.k, .slice x.a x.l.length x.c]] (by rfl) ?_ (fun W hW => (Vx.out W hW.2.1).mono fun e w' ⟨he, hb⟩ => ⟨he, hW.later hb⟩) ?_; (focus (intro W _; go_simp; done)); simp only [Act.put, List.setIfInBounds_toArray, List.set_cons_zero, List.set_cons_succ]))
            refine wpQuiet_nil ?_
            intro wq hq
            have HQ : Hid (Fx w x y z wq) := hq
            clear hq
            go_wp2_with fail
            go_meet
            case rel => exact ⟨rfl, HQ⟩
          · obtain rfl := L3.out rfl
            iterate 27 (first
              | go_big_quiet_skip
              | (refine quiet_value (v := ?_) (by rfl) ?_ ?_; rotate_left; (focus (intro W hW; obtain ⟨-, -, -, -, d1, d2, d3, d4, d5, d6⟩ := hW; first | (go_simp; done) | (go_simp; with_reducible rfl))); simp only [Act.put, List.setIfInBounds_toArray, List.set_cons_zero, List.set_cons_succ])
              | (refine quiet_enter (.bool true) 17 #[.agg #[.int .i64 x.k, .slice x.a x.l.length x.c], .agg #[.int .i64 y.k, .slice y.a y.l.length y.c]] (by rfl) ?_ (fun W hW => (Kxy.out W hW.2.1 hW.2.2.1).mono fun e w' ⟨he, hb⟩ => ⟨he, hW.later hb⟩) ?_; (focus (intro W _; go_simp; done)); simp only [Act.put, List.setIfInBounds_toArray, List.set_cons_zero, List.set_cons_succ])
              | (refine quiet_enter (.bool true) 17 #[.agg #[.int .i64 x.k, .slice x.a x.l.length x.c], .agg #[.int .i64 z.k, .slice z.a z.l.length z.c]] (by rfl) ?_ (fun W hW => (Kxz.out W hW.2.1 hW.2.2.2.1).mono fun e w' ⟨he, hb⟩ => ⟨he, hW.later hb⟩) ?_; (focus (intro W _; go_simp; done)); simp only [Act.put, List.setIfInBounds_toArray, List.set_cons_zero, List.set_cons_succ])
              | (refine quiet_enter (.bool true) 19 #[.agg #[.int .i64 x.k, .slice x.a x.l.length x.c], .agg #[.int .i64 y.k, .slice y.a y.l.length y.c]] (by rfl) ?_ (fun W hW => (Nxy.out W hW.2.1 hW.2.2.1).mono fun e w' ⟨he, hb⟩ => ⟨he, hW.later hb⟩) ?_; (focus (intro W _; go_simp; done)); simp only [Act.put, List.setIfInBounds_toArray, List.set_cons_zero, List.set_cons_succ])
              | (refine quiet_enter (.bool true) 19 #[.agg #[.int .i64 y.k, .slice y.a y.l.length y.c], .agg #[.int .i64 z.k, .slice z.a z.l.length z.c]] (by rfl) ?_ (fun W hW => (Nyz.out W hW.2.2.1 hW.2.2.2.1).mono fun e w' ⟨he, hb⟩ => ⟨he, hW.later hb⟩) ?_; (focus (intro W _; go_simp; done)); simp only [Act.put, List.setIfInBounds_toArray, List.set_cons_zero, List.set_cons_succ])
              | (refine quiet_enter (.bool true) 25 #[.agg #[.int .i64 x.k, .slice x.a x.l.length x.c]] (by rfl) ?_ (fun W hW => (Vx.out W hW.2.1).mono fun e w' ⟨he, hb⟩ => ⟨he, hW.later hb⟩) ?_; (focus (intro W _; go_simp; done)); simp only [Act.put, List.setIfInBounds_toArray, List.set_cons_zero, List.set_cons_succ]))
            refine wpQuiet_nil ?_
            intro wq hq
            have HQ : Hid (Fx w x y z wq) := hq
            clear hq
            go_wp2_with fail
            go_meet
            case rel => exact ⟨rfl, HQ⟩
    case rest =>
      obtain ⟨h71, HG⟩ := hcut
      subst h71
      clear HF4 Kxy Kxz Vx L1 L2 L3
      obtain ⟨-, -, -, -, c1, c2, c3, c4, c5, c6⟩ := HG.out
      cases s
      · go_wp2_with (first
          | (go_at_call 27; refine (types_any _).mono ?_; rintro e wn ⟨rfl, hn⟩; replace HG : Hid (Fx w x y z wn) := HG.out.later hn; clear hn)
          | (go_at_call 10; (refine (Mxy.out _ HG.out.2.1 HG.out.2.2.1).mono ?_; rintro e wn ⟨rfl, hn⟩; replace HG : Hid (Fx w x y z wn) := HG.out.later hn; clear hn; obtain ⟨-, -, -, -, c1, c2, c3, c4, c5, c6⟩ := HG.out))
          | (go_at_call_of 19 (z.k); first | (refine (Nyz.out _ HG.out.2.2.1 HG.out.2.2.2.1).mono ?_; rintro e wn ⟨rfl, hn⟩; replace HG : Hid (Fx w x y z wn) := HG.out.later hn; clear hn; obtain ⟨-, -, -, -, c1, c2, c3, c4, c5, c6⟩ := HG.out) | (refine (Nxz.out _ HG.out.2.1 HG.out.2.2.2.1).mono ?_; rintro e wn ⟨rfl, hn⟩; replace HG : Hid (Fx w x y z wn) := HG.out.later hn; clear hn; obtain ⟨-, -, -, -, c1, c2, c3, c4, c5, c6⟩ := HG.out))
          | (go_at_call 19; first | (refine (Nxy.out _ HG.out.2.1 HG.out.2.2.1).mono ?_; rintro e wn ⟨rfl, hn⟩; replace HG : Hid (Fx w x y z wn) := HG.out.later hn; clear hn; obtain ⟨-, -, -, -, c1, c2, c3, c4, c5, c6⟩ := HG.out) | (refine (Nyx.out _ HG.out.2.2.1 HG.out.2.1).mono ?_; rintro e wn ⟨rfl, hn⟩; replace HG : Hid (Fx w x y z wn) := HG.out.later hn; clear hn; obtain ⟨-, -, -, -, c1, c2, c3, c4, c5, c6⟩ := HG.out)))
        go_ret
        exact ⟨rfl, HG.out.1⟩
      · cases t
        · cases q
          · go_wp2_with (first
              | (go_at_call 27; refine (types_any _).mono ?_; rintro e wn ⟨rfl, hn⟩; replace HG : Hid (Fx w x y z wn) := HG.out.later hn; clear hn)
              | (go_at_call 10; (refine (Mxy.out _ HG.out.2.1 HG.out.2.2.1).mono ?_; rintro e wn ⟨rfl, hn⟩; replace HG : Hid (Fx w x y z wn) := HG.out.later hn; clear hn; obtain ⟨-, -, -, -, c1, c2, c3, c4, c5, c6⟩ := HG.out))
              | (go_at_call_of 19 (z.k); first | (refine (Nyz.out _ HG.out.2.2.1 HG.out.2.2.2.1).mono ?_; rintro e wn ⟨rfl, hn⟩; replace HG : Hid (Fx w x y z wn) := HG.out.later hn; clear hn; obtain ⟨-, -, -, -, c1, c2, c3, c4, c5, c6⟩ := HG.out) | (refine (Nxz.out _ HG.out.2.1 HG.out.2.2.2.1).mono ?_; rintro e wn ⟨rfl, hn⟩; replace HG : Hid (Fx w x y z wn) := HG.out.later hn; clear hn; obtain ⟨-, -, -, -, c1, c2, c3, c4, c5, c6⟩ := HG.out))
              | (go_at_call 19; first | (refine (Nxy.out _ HG.out.2.1 HG.out.2.2.1).mono ?_; rintro e wn ⟨rfl, hn⟩; replace HG : Hid (Fx w x y z wn) := HG.out.later hn; clear hn; obtain ⟨-, -, -, -, c1, c2, c3, c4, c5, c6⟩ := HG.out) | (refine (Nyx.out _ HG.out.2.2.1 HG.out.2.1).mono ?_; rintro e wn ⟨rfl, hn⟩; replace HG : Hid (Fx w x y z wn) := HG.out.later hn; clear hn; obtain ⟨-, -, -, -, c1, c2, c3, c4, c5, c6⟩ := HG.out)))
            go_ret
            exact ⟨rfl, HG.out.1⟩
          · obtain rfl := L5.out rfl rfl
            go_wp2_with (first
              | (go_at_call 27; refine (types_any _).mono ?_; rintro e wn ⟨rfl, hn⟩; replace HG : Hid (Fx w x y z wn) := HG.out.later hn; clear hn)
              | (go_at_call 10; (refine (Mxy.out _ HG.out.2.1 HG.out.2.2.1).mono ?_; rintro e wn ⟨rfl, hn⟩; replace HG : Hid (Fx w x y z wn) := HG.out.later hn; clear hn; obtain ⟨-, -, -, -, c1, c2, c3, c4, c5, c6⟩ := HG.out))
              | (go_at_call_of 19 (z.k); first | (refine (Nyz.out _ HG.out.2.2.1 HG.out.2.2.2.1).mono ?_; rintro e wn ⟨rfl, hn⟩; replace HG : Hid (Fx w x y z wn) := HG.out.later hn; clear hn; obtain ⟨-, -, -, -, c1, c2, c3, c4, c5, c6⟩ := HG.out) | (refine (Nxz.out _ HG.out.2.1 HG.out.2.2.2.1).mono ?_; rintro e wn ⟨rfl, hn⟩; replace HG : Hid (Fx w x y z wn) := HG.out.later hn; clear hn; obtain ⟨-, -, -, -, c1, c2, c3, c4, c5, c6⟩ := HG.out))
              | (go_at_call 19; first | (refine (Nxy.out _ HG.out.2.1 HG.out.2.2.1).mono ?_; rintro e wn ⟨rfl, hn⟩; replace HG : Hid (Fx w x y z wn) := HG.out.later hn; clear hn; obtain ⟨-, -, -, -, c1, c2, c3, c4, c5, c6⟩ := HG.out) | (refine (Nyx.out _ HG.out.2.2.1 HG.out.2.1).mono ?_; rintro e wn ⟨rfl, hn⟩; replace HG : Hid (Fx w x y z wn) := HG.out.later hn; clear hn; obtain ⟨-, -, -, -, c1, c2, c3, c4, c5, c6⟩ := HG.out)))
            go_ret
            exact ⟨rfl, HG.out.1⟩
        · obtain rfl := L4.out rfl rfl
          cases q
          · go_wp2_with (first
              | (go_at_call 27; refine (types_any _).mono ?_; rintro e wn ⟨rfl, hn⟩; replace HG : Hid (Fx w x y z wn) := HG.out.later hn; clear hn)
              | (go_at_call 10; (refine (Mxy.out _ HG.out.2.1 HG.out.2.2.1).mono ?_; rintro e wn ⟨rfl, hn⟩; replace HG : Hid (Fx w x y z wn) := HG.out.later hn; clear hn; obtain ⟨-, -, -, -, c1, c2, c3, c4, c5, c6⟩ := HG.out))
              | (go_at_call_of 19 (z.k); first | (refine (Nyz.out _ HG.out.2.2.1 HG.out.2.2.2.1).mono ?_; rintro e wn ⟨rfl, hn⟩; replace HG : Hid (Fx w x y z wn) := HG.out.later hn; clear hn; obtain ⟨-, -, -, -, c1, c2, c3, c4, c5, c6⟩ := HG.out) | (refine (Nxz.out _ HG.out.2.1 HG.out.2.2.2.1).mono ?_; rintro e wn ⟨rfl, hn⟩; replace HG : Hid (Fx w x y z wn) := HG.out.later hn; clear hn; obtain ⟨-, -, -, -, c1, c2, c3, c4, c5, c6⟩ := HG.out))
              | (go_at_call 19; first | (refine (Nxy.out _ HG.out.2.1 HG.out.2.2.1).mono ?_; rintro e wn ⟨rfl, hn⟩; replace HG : Hid (Fx w x y z wn) := HG.out.later hn; clear hn; obtain ⟨-, -, -, -, c1, c2, c3, c4, c5, c6⟩ := HG.out) | (refine (Nyx.out _ HG.out.2.2.1 HG.out.2.1).mono ?_; rintro e wn ⟨rfl, hn⟩; replace HG : Hid (Fx w x y z wn) := HG.out.later hn; clear hn; obtain ⟨-, -, -, -, c1, c2, c3, c4, c5, c6⟩ := HG.out)))
            go_ret
            exact ⟨rfl, HG.out.1⟩
          · obtain rfl := L5.out rfl rfl
            go_wp2_with (first
              | (go_at_call 27; refine (types_any _).mono ?_; rintro e wn ⟨rfl, hn⟩; replace HG : Hid (Fx w x y z wn) := HG.out.later hn; clear hn)
              | (go_at_call 10; (refine (Mxy.out _ HG.out.2.1 HG.out.2.2.1).mono ?_; rintro e wn ⟨rfl, hn⟩; replace HG : Hid (Fx w x y z wn) := HG.out.later hn; clear hn; obtain ⟨-, -, -, -, c1, c2, c3, c4, c5, c6⟩ := HG.out))
              | (go_at_call_of 19 (z.k); first | (refine (Nyz.out _ HG.out.2.2.1 HG.out.2.2.2.1).mono ?_; rintro e wn ⟨rfl, hn⟩; replace HG : Hid (Fx w x y z wn) := HG.out.later hn; clear hn; obtain ⟨-, -, -, -, c1, c2, c3, c4, c5, c6⟩ := HG.out) | (refine (Nxz.out _ HG.out.2.1 HG.out.2.2.2.1).mono ?_; rintro e wn ⟨rfl, hn⟩; replace HG : Hid (Fx w x y z wn) := HG.out.later hn; clear hn; obtain ⟨-, -, -, -, c1, c2, c3, c4, c5, c6⟩ := HG.out))
              | (go_at_call 19; first | (refine (Nxy.out _ HG.out.2.1 HG.out.2.2.1).mono ?_; rintro e wn ⟨rfl, hn⟩; replace HG : Hid (Fx w x y z wn) := HG.out.later hn; clear hn; obtain ⟨-, -, -, -, c1, c2, c3, c4, c5, c6⟩ := HG.out) | (refine (Nyx.out _ HG.out.2.2.1 HG.out.2.1).mono ?_; rintro e wn ⟨rfl, hn⟩; replace HG : Hid (Fx w x y z wn) := HG.out.later hn; clear hn; obtain ⟨-, -, -, -, c1, c2, c3, c4, c5, c6⟩ := HG.out)))
            go_ret
            exact ⟨rfl, HG.out.1⟩

/-- chaperonekeep.KindFits. -/
theorem kfits_any (x y z : Tr) (w : World) (hx : x.In w) (hy : y.In w) (hz : z.In w) :
    Calls Try.prog 5 #[.agg #[.int .i64 x.k, .slice x.a x.l.length x.c], .agg #[.int .i64 y.k, .slice y.a y.l.length y.c], .agg #[.int .i64 z.k, .slice z.a z.l.length z.c]] w fun e w' => e = .returned (.bool true) ∧ Below w.heap.size w w' := by
  cases gx : goodT 4 x with
  | false => exact kfits_else x y z w hx hy hz (.inl gx)
  | true =>
    cases gy : goodT 4 y with
    | false => exact kfits_else x y z w hx hy hz (.inr (.inl ⟨gx, gy⟩))
    | true =>
      cases gz : goodT 4 z with
      | false => exact kfits_else x y z w hx hy hz (.inr (.inr ⟨gx, gy, gz⟩))
      | true => exact kfits_main x y z w hx hy hz gx gy gz
end Go.Proofs.Ytnddkmccagiclaa
