/-
  The call of chaperonekeep.KindJoins answers true at three good trees, and nothing that was there has turned.
-/
import Derived.Test.YtaaplpcpifdnfaaJoins
namespace Go.Proofs.Ytaaplpcpifdnfaa
open Go.RowKit

theorem lev_good {t : Tr} (h : goodT 4 t = true) : t.hgt ≤ 1000 ∧ t.sm ∧ t.right ∧ goodY 4 t.ty = true :=
  ⟨Nat.le_trans (Tr.hgt_good 4 _ h) (by omega), Tr.sm_good 4 _ h, Tr.right_good 4 _ h, by rw [← goodT_eq]; exact h⟩

set_option maxHeartbeats 2000000 in
theorem joins_main (x y z : Tr) (w : World) (hx : x.In w) (hy : y.In w) (hz : z.In w) (gx : goodT 4 x = true) (gy : goodT 4 y = true) (gz : goodT 4 z = true) :
    Calls Try.prog 4 #[.agg #[.int .i64 x.k, .slice x.a x.l.length x.c], .agg #[.int .i64 y.k, .slice y.a y.l.length y.c], .agg #[.int .i64 z.k, .slice z.a z.l.length z.c]] w fun e w' => e = .returned (.bool true) ∧ Below w.heap.size w w' := by
  have HF : Hid (Fx w x y z (((w.alloc (.cells #[.int .i64 x.k, .slice x.a x.l.length x.c] 24)).alloc (.cells #[.int .i64 y.k, .slice y.a y.l.length y.c] 24)).alloc (.cells #[.int .i64 z.k, .slice z.a z.l.length z.c] 24))) := Fx.start hx hy hz
  have G1 : Hid (∀ W, x.In W → Calls Try.prog 7 #[.agg #[.int .i64 x.k, .slice x.a x.l.length x.c]] W fun e w' => e = .returned (.bool true) ∧ Below W.heap.size W w') := fun W h => gx ▸ good_any x W h
  have G2 : Hid (∀ W, y.In W → Calls Try.prog 7 #[.agg #[.int .i64 y.k, .slice y.a y.l.length y.c]] W fun e w' => e = .returned (.bool true) ∧ Below W.heap.size W w') := fun W h => gy ▸ good_any y W h
  have G3 : Hid (∀ W, z.In W → Calls Try.prog 7 #[.agg #[.int .i64 z.k, .slice z.a z.l.length z.c]] W fun e w' => e = .returned (.bool true) ∧ Below W.heap.size W w') := fun W h => gz ▸ good_any z W h
  obtain ⟨hx1, sx, rx, yx⟩ := lev_good gx
  obtain ⟨hy1, sy, ry, yy⟩ := lev_good gy
  obtain ⟨hz1, sz, rz, yz⟩ := lev_good gz
  obtain ⟨jg, jx, jy, jc, ji⟩ := join_facts 4 x.ty y.ty yx yy
  have HM : Hid (goodY 4 (joinY x.ty y.ty) = true ∧ relY escFiner x.ty (joinY x.ty y.ty) = true ∧ relY escFiner y.ty (joinY x.ty y.ty) = true ∧ joinY y.ty x.ty = joinY x.ty y.ty ∧ joinY x.ty x.ty = x.ty) := ⟨jg, jx, jy, jc, ji⟩
  have HL : Hid (relY escFiner x.ty z.ty = true → relY escFiner y.ty z.ty = true → relY escFiner (joinY x.ty y.ty) z.ty = true) := join_least 4 x.ty y.ty z.ty yx yy yz
  clear gx gy gz hx hy hz jg jx jy jc ji
  go_enter Try.func4, Try.ntmps4
  go_wp2_with fail
  refine (G1.out _ HF.out.2.1).mono ?_
  rintro e w1 ⟨rfl, h1⟩
  have HF1 : Hid (Fx w x y z w1) := HF.out.later h1
  obtain ⟨-, -, -, -, -, -, c3, c4, -, -⟩ := HF1.out
  clear HF h1
  go_wp2_with fail
  refine (G2.out _ HF1.out.2.2.1).mono ?_
  rintro e w2 ⟨rfl, h2⟩
  have HF2 : Hid (Fx w x y z w2) := HF1.out.later h2
  obtain ⟨-, -, -, -, -, -, -, -, c5, c6⟩ := HF2.out
  clear HF1 h2 c3 c4
  go_wp2_with fail
  refine (G3.out _ HF2.out.2.2.2.1).mono ?_
  rintro e w3 ⟨rfl, h3⟩
  have HF3 : Hid (Fx w x y z w3) := HF2.out.later h3
  obtain ⟨-, -, -, -, c1, c2, c3, c4, -, -⟩ := HF3.out
  clear HF2 h3 c5 c6 G1 G2 G3
  go_wp2_with fail
  refine (join_whole x y _ HF3.out.2.1 HF3.out.2.2.1 rx ry hx1).mono ?_
  rintro e w4 ⟨j, rfl, jty, jin, _, h4⟩
  have HF4 : Hid (Fx w x y z w4) := HF3.out.later h4
  clear HF3 h4 c1 c2 c3 c4
  have hjg : goodT 4 j = true := by rw [goodT_eq, jty]; exact HM.out.1
  obtain ⟨hj1, sj, rj, yj⟩ := lev_good hjg
  have K7 : Hid (∀ W, j.In W → Calls Try.prog 7 #[.agg #[.int .i64 j.k, .slice j.a j.l.length j.c]] W fun e w' => e = .returned (.bool true) ∧ Below W.heap.size W w') := fun W h => hjg ▸ good_any j W h
  have K19a : Hid (∀ W, x.In W → j.In W → Calls Try.prog 19 #[.agg #[.int .i64 x.k, .slice x.a x.l.length x.c], .agg #[.int .i64 j.k, .slice j.a j.l.length j.c]] W fun e w' => e = .returned (.bool true) ∧ Below W.heap.size W w') := fun W i1 i2 => by
    have := finer_whole x j W i1 i2 hx1 sx
    rw [jty, HM.out.2.1] at this
    exact this
  have K19b : Hid (∀ W, y.In W → j.In W → Calls Try.prog 19 #[.agg #[.int .i64 y.k, .slice y.a y.l.length y.c], .agg #[.int .i64 j.k, .slice j.a j.l.length j.c]] W fun e w' => e = .returned (.bool true) ∧ Below W.heap.size W w') := fun W i1 i2 => by
    have := finer_whole y j W i1 i2 hy1 sy
    rw [jty, HM.out.2.2.1] at this
    exact this
  have K21a : Hid (∀ W, y.In W → x.In W → Calls Try.prog 21 #[.agg #[.int .i64 y.k, .slice y.a y.l.length y.c], .agg #[.int .i64 x.k, .slice x.a x.l.length x.c]] W fun e w' => ∃ q : Tr, e = .returned (.agg #[.int .i64 q.k, .slice q.a q.l.length q.c]) ∧ q.In w' ∧ q.ty = j.ty ∧ Below W.heap.size W w') := fun W i1 i2 => by
    refine (join_whole y x W i1 i2 ry rx hy1).mono ?_
    rintro e w' ⟨q, rfl, qty, qin, _, hb⟩
    exact ⟨q, rfl, qin, by rw [qty, jty, HM.out.2.2.2.1], hb⟩
  have K10a : Hid (∀ (q : Tr) W, q.In W → j.In W → q.ty = j.ty → Calls Try.prog 10 #[.agg #[.int .i64 j.k, .slice j.a j.l.length j.c], .agg #[.int .i64 q.k, .slice q.a q.l.length q.c]] W fun e w' => e = .returned (.bool true) ∧ Below W.heap.size W w') := fun q W i1 i2 i3 => by
    have := same_whole j q W i2 i1 hj1 sj
    rw [i3, same_refl] at this
    exact this
  have K21b : Hid (∀ W, x.In W → Calls Try.prog 21 #[.agg #[.int .i64 x.k, .slice x.a x.l.length x.c], .agg #[.int .i64 x.k, .slice x.a x.l.length x.c]] W fun e w' => ∃ q : Tr, e = .returned (.agg #[.int .i64 q.k, .slice q.a q.l.length q.c]) ∧ q.In w' ∧ q.ty = x.ty ∧ q.hgt ≤ 1000 ∧ q.sm ∧ Below W.heap.size W w') := fun W i1 => by
    refine (join_whole x x W i1 i1 rx rx hx1).mono ?_
    rintro e w' ⟨q, rfl, qty, qin, _, hb⟩
    rw [HM.out.2.2.2.2] at qty
    have hqg : goodT 4 q = true := by rw [goodT_eq, qty]; exact yx
    obtain ⟨hq1, sq, _, _⟩ := lev_good hqg
    exact ⟨q, rfl, qin, qty, hq1, sq, hb⟩
  have K10b : Hid (∀ (q : Tr) W, q.In W → x.In W → q.ty = x.ty → q.hgt ≤ 1000 → q.sm → Calls Try.prog 10 #[.agg #[.int .i64 q.k, .slice q.a q.l.length q.c], .agg #[.int .i64 x.k, .slice x.a x.l.length x.c]] W fun e w' => e = .returned (.bool true) ∧ Below W.heap.size W w') := fun q W i1 i2 i3 i4 i5 => by
    have := same_whole q x W i1 i2 i4 i5
    rw [i3, same_refl] at this
    exact this
  obtain ⟨fa, hfa⟩ : ∃ f, relY escFiner x.ty z.ty = f := ⟨_, rfl⟩
  obtain ⟨fb, hfb⟩ : ∃ f, relY escFiner y.ty z.ty = f := ⟨_, rfl⟩
  have R1 : Hid (∀ W, x.In W → z.In W → Calls Try.prog 19 #[.agg #[.int .i64 x.k, .slice x.a x.l.length x.c], .agg #[.int .i64 z.k, .slice z.a z.l.length z.c]] W fun e w' => e = .returned (.bool fa) ∧ Below W.heap.size W w') := fun W i1 i2 => hfa ▸ finer_whole x z W i1 i2 hx1 sx
  have R2 : Hid (∀ W, y.In W → z.In W → Calls Try.prog 19 #[.agg #[.int .i64 y.k, .slice y.a y.l.length y.c], .agg #[.int .i64 z.k, .slice z.a z.l.length z.c]] W fun e w' => e = .returned (.bool fb) ∧ Below W.heap.size W w') := fun W i1 i2 => hfb ▸ finer_whole y z W i1 i2 hy1 sy
  have R3 : Hid (fa = true → fb = true → ∀ W, j.In W → z.In W → Calls Try.prog 19 #[.agg #[.int .i64 j.k, .slice j.a j.l.length j.c], .agg #[.int .i64 z.k, .slice z.a z.l.length z.c]] W fun e w' => e = .returned (.bool true) ∧ Below W.heap.size W w') := fun e1 e2 W i1 i2 => by
    have := finer_whole j z W i1 i2 hj1 sj
    rw [jty, HL.out (by rw [hfa, e1]) (by rw [hfb, e2])] at this
    exact this
  have hbb : Below w4.heap.size w4 (w4.alloc (.cells #[.int .i64 j.k, .slice j.a j.l.length j.c] 24)) := (Below.refl _ _).alloc (Nat.le_refl _) _
  have HF5 : Hid (Fx w x y z (w4.alloc (.cells #[.int .i64 j.k, .slice j.a j.l.length j.c] 24))) := HF4.out.later hbb
  have HJ5 : Hid (j.In (w4.alloc (.cells #[.int .i64 j.k, .slice j.a j.l.length j.c] 24))) := jin.below hbb
  obtain ⟨-, -, -, -, c1, c2, c3, c4, c5, c6⟩ := HF5.out
  clear HM HL hjg jty hbb jin hfa hfb hj1 sj rj yj hx1 sx rx yx hy1 sy ry yy hz1 sz rz yz HF4
  go_wp2_with fail
  go_region_held3 (fun w' => Below w.heap.size w w' ∧ x.In w' ∧ y.In w' ∧ z.In w' ∧ w'.cell? ⟨w.heap.size, 0, none⟩ = some (.int .i64 x.k) ∧ w'.cell? ⟨w.heap.size, 1, none⟩ = some (.slice x.a x.l.length x.c) ∧
      w'.cell? ⟨w.heap.size + 1, 0, none⟩ = some (.int .i64 y.k) ∧ w'.cell? ⟨w.heap.size + 1, 1, none⟩ = some (.slice y.a y.l.length y.c) ∧ w'.cell? ⟨w.heap.size + 1 + 1, 0, none⟩ = some (.int .i64 z.k) ∧ w'.cell? ⟨w.heap.size + 1 + 1, 1, none⟩ = some (.slice z.a z.l.length z.c) ∧
      j.In w' ∧ w'.cell? ⟨w4.heap.size, 0, none⟩ = some (.int .i64 j.k) ∧ w'.cell? ⟨w4.heap.size, 1, none⟩ = some (.slice j.a j.l.length j.c))
    (first
      | (obtain ⟨b0, i1, i2, i3, _⟩ := HF5.out; exact ⟨b0.drew, i1.below (Below.refl _ _).drew, i2.below (Below.refl _ _).drew, i3.below (Below.refl _ _).drew, c1, c2, c3, c4, c5, c6, HJ5.out.below (Below.refl _ _).drew, by simp [go_sem], by simp [go_sem]⟩)
      | (go_split_ands; refine ⟨?_, ?_, ?_, ?_, ?_, ?_, ?_, ?_, ?_, ?_, ?_, ?_, ?_⟩ <;> first | exact cell_later h10b (by assumption) | exact Tr.In.below h10b (by assumption) | exact Below.trans (by assumption) (Below.mono h10b (Below.size (by assumption))))
      | (go_split_ands; refine ⟨?_, ?_, ?_, ?_, ?_, ?_, ?_, ?_, ?_, ?_, ?_, ?_, ?_⟩ <;> first | exact cell_later h21b (by assumption) | exact Tr.In.below h21b (by assumption) | exact Below.trans (by assumption) (Below.mono h21b (Below.size (by assumption))))
      | (go_split_ands; refine ⟨?_, ?_, ?_, ?_, ?_, ?_, ?_, ?_, ?_, ?_, ?_, ?_, ?_⟩ <;> first | exact cell_later h10a (by assumption) | exact Tr.In.below h10a (by assumption) | exact Below.trans (by assumption) (Below.mono h10a (Below.size (by assumption))))
      | (go_split_ands; refine ⟨?_, ?_, ?_, ?_, ?_, ?_, ?_, ?_, ?_, ?_, ?_, ?_, ?_⟩ <;> first | exact cell_later h21a (by assumption) | exact Tr.In.below h21a (by assumption) | exact Below.trans (by assumption) (Below.mono h21a (Below.size (by assumption))))
      | (go_split_ands; refine ⟨?_, ?_, ?_, ?_, ?_, ?_, ?_, ?_, ?_, ?_, ?_, ?_, ?_⟩ <;> first | exact cell_later h19b (by assumption) | exact Tr.In.below h19b (by assumption) | exact Below.trans (by assumption) (Below.mono h19b (Below.size (by assumption))))
      | (go_split_ands; refine ⟨?_, ?_, ?_, ?_, ?_, ?_, ?_, ?_, ?_, ?_, ?_, ?_, ?_⟩ <;> first | exact cell_later h19a (by assumption) | exact Tr.In.below h19a (by assumption) | exact Below.trans (by assumption) (Below.mono h19a (Below.size (by assumption))))
      | (go_split_ands; refine ⟨?_, ?_, ?_, ?_, ?_, ?_, ?_, ?_, ?_, ?_, ?_, ?_, ?_⟩ <;> first | exact cell_later h7 (by assumption) | exact Tr.In.below h7 (by assumption) | exact Below.trans (by assumption) (Below.mono h7 (Below.size (by assumption))))
      | go_keep)
    (first
      | (go_at_call 7; go_split_ands; refine (K7.out _ (by assumption)).mono ?_; rintro e w7 ⟨rfl, h7⟩)
      | (go_at_call_of 19 (x.k); go_split_ands; refine (K19a.out _ (by assumption) (by assumption)).mono ?_; rintro e w19a ⟨rfl, h19a⟩)
      | (go_at_call 19; go_split_ands; refine (K19b.out _ (by assumption) (by assumption)).mono ?_; rintro e w19b ⟨rfl, h19b⟩)
      | (go_at_call_of 21 (y.k); go_split_ands; refine (K21a.out _ (by assumption) (by assumption)).mono ?_; rintro e w21a ⟨q, rfl, hq, qty, h21a⟩; have HQ : Hid (q.ty = j.ty) := qty; clear qty)
      | (go_at_call_of 10 (j.k); go_split_ands; refine (K10a.out q _ (by assumption) (by assumption) HQ.out).mono ?_; rintro e w10a ⟨rfl, h10a⟩)
      | (go_at_call 21; go_split_ands; refine (K21b.out _ (by assumption)).mono ?_; rintro e w21b ⟨p, rfl, hp, pty, ph, ps, h21b⟩; have HP : Hid (p.ty = x.ty) := pty; clear pty)
      | (go_at_call 10; go_split_ands; refine (K10b.out p _ (by assumption) (by assumption) HP.out ph ps).mono ?_; rintro e w10b ⟨rfl, h10b⟩))
  have HA : Hid (Fx w x y z w10b ∧ j.In w10b ∧ w10b.cell? ⟨w4.heap.size, 0, none⟩ = some (.int .i64 j.k) ∧ w10b.cell? ⟨w4.heap.size, 1, none⟩ = some (.slice j.a j.l.length j.c)) := by
    go_split_ands
    exact ⟨⟨by assumption, by assumption, by assumption, by assumption, by assumption, by assumption, by assumption, by assumption, by assumption, by assumption⟩, by assumption, by assumption, by assumption⟩
  clear HF5 HJ5 K7 K19a K19b K21a K10a K21b K10b c1 c2 c3 c4 c5 c6 h7 h19a h19b h21a h10a h21b h10b hq hp HQ HP ph ps
  obtain ⟨-, -, -, -, c1, c2, c3, c4, c5, c6⟩ := HA.out.1
  cases fa
  · clear R3 R2
    go_wp2_with fail
    refine (R1.out _ HA.out.1.2.1 HA.out.1.2.2.2.1).mono ?_
    rintro e v1 ⟨rfl, g1⟩
    have HB : Hid (Below w.heap.size w v1) := (HA.out.1.later g1).1
    clear HA g1 c1 c2 c3 c4 c5 c6
    go_wp2_with fail
    refine (types_any _).mono ?_
    rintro e v2 ⟨rfl, g2⟩
    have hb := HB.out.trans (g2.mono HB.out.size)
    clear HB g2
    go_wp2_with fail
    go_ret
    exact ⟨rfl, hb⟩
  · cases fb
    · clear R3
      go_wp2_with fail
      refine (R1.out _ HA.out.1.2.1 HA.out.1.2.2.2.1).mono ?_
      rintro e v1 ⟨rfl, g1⟩
      have HB : Hid (Fx w x y z v1) := HA.out.1.later g1
      clear HA g1 c1 c2 c3 c4 c5 c6
      obtain ⟨-, -, -, -, c1, c2, c3, c4, c5, c6⟩ := HB.out
      go_wp2_with fail
      refine (R2.out _ HB.out.2.2.1 HB.out.2.2.2.1).mono ?_
      rintro e v2 ⟨rfl, g2⟩
      have HC : Hid (Below w.heap.size w v2) := (HB.out.later g2).1
      clear HB g2 c1 c2 c3 c4 c5 c6
      go_wp2_with fail
      refine (types_any _).mono ?_
      rintro e v3 ⟨rfl, g3⟩
      have hb := HC.out.trans (g3.mono HC.out.size)
      clear HC g3
      go_wp2_with fail
      go_ret
      exact ⟨rfl, hb⟩
    · have R4 : Hid (∀ W, j.In W → z.In W → Calls Try.prog 19 #[.agg #[.int .i64 j.k, .slice j.a j.l.length j.c], .agg #[.int .i64 z.k, .slice z.a z.l.length z.c]] W fun e w' => e = .returned (.bool true) ∧ Below W.heap.size W w') := R3.out rfl rfl
      clear R3
      go_wp2_with fail
      refine (R1.out _ HA.out.1.2.1 HA.out.1.2.2.2.1).mono ?_
      rintro e v1 ⟨rfl, g1⟩
      have HB : Hid (Fx w x y z v1) := HA.out.1.later g1
      have HJ : Hid (j.In v1 ∧ v1.cell? ⟨w4.heap.size, 0, none⟩ = some (.int .i64 j.k) ∧ v1.cell? ⟨w4.heap.size, 1, none⟩ = some (.slice j.a j.l.length j.c)) := ⟨HA.out.2.1.below g1, cell_later g1 HA.out.2.2.1, cell_later g1 HA.out.2.2.2⟩
      clear HA g1 c1 c2 c3 c4 c5 c6
      obtain ⟨-, -, -, -, c1, c2, c3, c4, c5, c6⟩ := HB.out
      go_wp2_with fail
      refine (R2.out _ HB.out.2.2.1 HB.out.2.2.2.1).mono ?_
      rintro e v2 ⟨rfl, g2⟩
      have HC : Hid (Fx w x y z v2) := HB.out.later g2
      have HJ2 : Hid (j.In v2) := HJ.out.1.below g2
      have c7 := cell_later g2 HJ.out.2.1
      have c8 := cell_later g2 HJ.out.2.2
      clear HB g2 c1 c2 c3 c4 c5 c6 HJ
      obtain ⟨-, -, -, -, c1, c2, c3, c4, c5, c6⟩ := HC.out
      go_wp2_with fail
      refine (R4.out _ HJ2.out HC.out.2.2.2.1).mono ?_
      rintro e v3 ⟨rfl, g3⟩
      have HD : Hid (Below w.heap.size w v3) := (HC.out.later g3).1
      clear HC g3 c1 c2 c3 c4 c5 c6 c7 c8 HJ2
      go_wp2_with fail
      refine (types_any _).mono ?_
      rintro e v4 ⟨rfl, g4⟩
      have hb := HD.out.trans (g4.mono HD.out.size)
      clear HD g4
      go_wp2_with fail
      go_ret
      exact ⟨rfl, hb⟩

/-- chaperonekeep.KindJoins. -/
theorem joins_any (x y z : Tr) (w : World) (hx : x.In w) (hy : y.In w) (hz : z.In w) :
    Calls Try.prog 4 #[.agg #[.int .i64 x.k, .slice x.a x.l.length x.c], .agg #[.int .i64 y.k, .slice y.a y.l.length y.c], .agg #[.int .i64 z.k, .slice z.a z.l.length z.c]] w fun e w' => e = .returned (.bool true) ∧ Below w.heap.size w w' := by
  cases gx : goodT 4 x with
  | false => exact joins_else x y z w hx hy hz (.inl gx)
  | true =>
    cases gy : goodT 4 y with
    | false => exact joins_else x y z w hx hy hz (.inr (.inl ⟨gx, gy⟩))
    | true =>
      cases gz : goodT 4 z with
      | false => exact joins_else x y z w hx hy hz (.inr (.inr ⟨gx, gy, gz⟩))
      | true => exact joins_main x y z w hx hy hz gx gy gz
end Go.Proofs.Ytaaplpcpifdnfaa
