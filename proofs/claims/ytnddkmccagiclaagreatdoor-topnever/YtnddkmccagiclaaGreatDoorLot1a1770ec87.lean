/-
  What the call of check's Check answers.
-/
import Derived.Test.YtnddkmccagiclaaGreatDoorLotf8f50581bb
import Derived.Test.YtnddkmccagiclaaGreatDoorLotb19f3f36a9
import Derived.Test.YtnddkmccagiclaaGreatDoorLot0558bdb606
namespace Go.Proofs.YtnddkmccagiclaaGreatDoor
open Go.RowKit
/-- read. -/
theorem read_any (R : Nat) : ∀ (m : Nat) (Q : Nat → Prop) (x : TT) (c : Nat) (T : Tr) (w : World), x.sz ≤ m → RdPre Q R x c T w →
    Calls Tryz.prog 34 #[.pointer (some ⟨R, 0, none⟩), .agg #[.int .i64 x.k, .int .i64 x.n, .int .i64 x.t.k, .slice x.t.a x.t.l.length x.t.c, .int .i64 x.f.k, .slice x.f.a x.f.l.length x.f.c, .slice x.a x.l.length x.c], .slice T.a T.l.length T.c] w (RdPost Q R x c (T.l.map Tr.ty) w) := by
  intro m
  induction m with
  | zero => intro Q x c T w h _; have := x.sz_pos; omega
  | succ m ih =>
    intro Q x c T w h hp
    refine read_step Q R x c T w hp fun y hy Q' c' T' W hp' => ih Q' y c' T' W ?_ hp'
    have h1 := x.sz_eq
    have h2 : y.sz ≤ (x.l.map TT.sz).sum := by
      have := sz_mem (x.l.map TT.tm) y.tm (List.mem_map.2 ⟨y, hy, rfl⟩)
      rw [sz_map, ← y.sz_tm] at this
      exact this
    omega
/-- What Check answers. -/
def CkPost (x : TT) (w : World) (e : Ending) (w' : World) : Prop :=
  Below w.heap.size w w' ∧ ((goodM 0 x.tm = false ∧ e = .returned (.tuple #[.agg #[.int .i64 0, .int .i64 0, .int .i64 0, .slice none 0 0, .int .i64 0, .slice none 0 0, .slice none 0 0], .agg #[.int .i64 0, .slice none 0 0], .int .i64 1])) ∨
    (goodM 0 x.tm = true ∧ readS x.tm [] 0 = none ∧ e = .returned (.tuple #[.agg #[.int .i64 0, .int .i64 0, .int .i64 0, .slice none 0 0, .int .i64 0, .slice none 0 0, .slice none 0 0], .agg #[.int .i64 0, .slice none 0 0], .int .i64 2])) ∨
    (goodM 0 x.tm = true ∧ ∃ (y : TT) (i : Tr), readS x.tm [] 0 = some (y.tm, i.ty) ∧ e = .returned (.tuple #[.agg #[.int .i64 y.k, .int .i64 y.n, .int .i64 y.t.k, .slice y.t.a y.t.l.length y.t.c, .int .i64 y.f.k, .slice y.f.a y.f.l.length y.f.c, .slice y.a y.l.length y.c], .agg #[.int .i64 i.k, .slice i.a i.l.length i.c], .int .i64 0]) ∧ y.In w' ∧ i.In w' ∧ goodT 44 i = true))
/-- The frame of Check: the term's box, the places of its answers. -/
structure CF (H : Nat) (x : TT) (W : World) : Prop where
  at7 : At7 W H 0 x
  z : ZB7 W (H + 1)
  u0 : W.cell? ⟨H + 1 + 1, 0, none⟩ = some (.int .i64 0)
  u1 : W.cell? ⟨H + 1 + 1, 1, none⟩ = some (.slice none 0 0)
  g0 : W.frozen? ⟨H + 1 + 1, 0, none⟩ = false
  g1 : W.frozen? ⟨H + 1 + 1, 1, none⟩ = false
theorem CF.lt {H : Nat} {x : TT} {W : World} (h : CF H x W) : H + 1 + 1 < W.heap.size := World.block_lt_of_cell? _ _ h.u0
theorem CF.below {H : Nat} {x : TT} {W W' : World} (h : CF H x W) (hb : Below W.heap.size W W') : CF H x W' :=
  ⟨h.at7.below hb, h.z.later hb, cell_later hb h.u0, cell_later hb h.u1, (hb.frozen (p := ⟨H + 1 + 1, 0, none⟩) h.lt).trans h.g0, (hb.frozen (p := ⟨H + 1 + 1, 1, none⟩) h.lt).trans h.g1⟩
theorem ZB7.low {V w : World} {b B : Nat} (hb : Below B V w) (hB : b < B) (h : ZB7 V b) : ZB7 w b := by
  obtain ⟨⟨h0, h1, h2, h3, h4, h5, h6⟩, f0, f1, f2, f3, f4, f5, f6⟩ := h
  have c : ∀ i, w.cell? ⟨b, i, none⟩ = V.cell? ⟨b, i, none⟩ := fun i => hb.cell (p := ⟨b, i, none⟩) hB
  have f : ∀ i, w.frozen? ⟨b, i, none⟩ = V.frozen? ⟨b, i, none⟩ := fun i => hb.frozen (p := ⟨b, i, none⟩) hB
  exact ⟨⟨(c 0).trans h0, (c 1).trans h1, (c 2).trans h2, (c 3).trans h3, (c 4).trans h4, (c 5).trans h5, (c 6).trans h6⟩, (f 0).trans f0, (f 1).trans f1, (f 2).trans f2, (f 3).trans f3, (f 4).trans f4, (f 5).trans f5, (f 6).trans f6⟩
theorem CF.low {H B : Nat} {x : TT} {W W' : World} (h : CF H x W) (hb : Below B W W') (hB : H + 1 + 1 < B) : CF H x W' :=
  ⟨h.at7.of fun i => hb.cell (p := ⟨H, i, none⟩) (show H < B by omega), h.z.low hb (by omega), (hb.cell (p := ⟨H + 1 + 1, 0, none⟩) hB).trans h.u0, (hb.cell (p := ⟨H + 1 + 1, 1, none⟩) hB).trans h.u1, (hb.frozen (p := ⟨H + 1 + 1, 0, none⟩) hB).trans h.g0, (hb.frozen (p := ⟨H + 1 + 1, 1, none⟩) hB).trans h.g1⟩
theorem CF.start (x : TT) (w : World) : CF w.heap.size x (((w.alloc (.cells #[.int .i64 x.k, .int .i64 x.n, .int .i64 x.t.k, .slice x.t.a x.t.l.length x.t.c, .int .i64 x.f.k, .slice x.f.a x.f.l.length x.f.c, .slice x.a x.l.length x.c] 27)).alloc (.cells #[.int .i64 0, .int .i64 0, .int .i64 0, .slice none 0 0, .int .i64 0, .slice none 0 0, .slice none 0 0] 27)).alloc (.cells #[.int .i64 0, .slice none 0 0] 24)) := by
  refine ⟨⟨?_, ?_, ?_, ?_, ?_, ?_, ?_⟩, ⟨⟨?_, ?_, ?_, ?_, ?_, ?_, ?_⟩, ?_, ?_, ?_, ?_, ?_, ?_, ?_⟩, ?_, ?_, ?_, ?_⟩ <;> simp [go_sem]
def ckEnd (W : World) (H : Nat) (y : TT) (i : Tr) : World := ((put7 W (H + 1) y).setCell ⟨H + 1 + 1, 0, none⟩ (.int .i64 i.k)).setCell ⟨H + 1 + 1, 1, none⟩ (.slice i.a i.l.length i.c)
theorem ckEnd_below (W : World) (H : Nat) (y : TT) (i : Tr) (h : H + 1 + 1 < W.heap.size) : Below H W (ckEnd W H y i) :=
  (((put7_kept (w := W) (J := H + 1) (x := y)).below (by simp) (by omega)).mono (by omega)).trans (((Below.refl _ _).setCell (by show H ≤ H + 1 + 1; omega) _).setCell (by show H ≤ H + 1 + 1; omega) _)
theorem CF.ends {H : Nat} {x : TT} {W : World} (h : CF H x W) (y : TT) (i : Tr) :
    (ckEnd W H y i).cell? ⟨H + 1, 0, none⟩ = some (.int .i64 y.k) ∧ (ckEnd W H y i).cell? ⟨H + 1, 1, none⟩ = some (.int .i64 y.n) ∧ (ckEnd W H y i).cell? ⟨H + 1, 2, none⟩ = some (.int .i64 y.t.k) ∧ (ckEnd W H y i).cell? ⟨H + 1, 3, none⟩ = some (.slice y.t.a y.t.l.length y.t.c) ∧ (ckEnd W H y i).cell? ⟨H + 1, 4, none⟩ = some (.int .i64 y.f.k) ∧ (ckEnd W H y i).cell? ⟨H + 1, 5, none⟩ = some (.slice y.f.a y.f.l.length y.f.c) ∧ (ckEnd W H y i).cell? ⟨H + 1, 6, none⟩ = some (.slice y.a y.l.length y.c) ∧ (ckEnd W H y i).cell? ⟨H + 1 + 1, 0, none⟩ = some (.int .i64 i.k) ∧ (ckEnd W H y i).cell? ⟨H + 1 + 1, 1, none⟩ = some (.slice i.a i.l.length i.c) := by
  have h7 := (put7_box (x := y) h.z.box).at7
  have hk : Kept (H + 1 + 1) none (put7 W (H + 1) y) (ckEnd W H y i) := setR_kept.trans setR_kept
  have h8 := h7.keptR hk (by omega)
  obtain ⟨c0, c1, c2, c3, c4, c5, c6⟩ := h8
  simp only [Nat.zero_add] at c0 c1 c2 c3 c4 c5 c6
  have p0 := (put7_kept (w := W) (J := H + 1) (x := y)).cell h.u0 (by omega)
  have p1 := (put7_kept (w := W) (J := H + 1) (x := y)).cell h.u1 (by omega)
  refine ⟨c0, c1, c2, c3, c4, c5, c6, ?_, ?_⟩
  · simpa [ckEnd] using set_get (j := 1) (v := .slice i.a i.l.length i.c) (set_get (j := 0) (v := .int .i64 i.k) p0)
  · simpa [ckEnd] using set_get (j := 1) (v := .slice i.a i.l.length i.c) (set_get (j := 0) (v := .int .i64 i.k) p1)
set_option maxRecDepth 20000 in
set_option maxHeartbeats 8000000 in
/-- Check. -/
theorem check_any (x : TT) (w : World) (hg : Gp w) (hx : x.In w) (hnb : x.nb) : Calls Tryz.prog 20 #[.agg #[.int .i64 x.k, .int .i64 x.n, .int .i64 x.t.k, .slice x.t.a x.t.l.length x.t.c, .int .i64 x.f.k, .slice x.f.a x.f.l.length x.f.c, .slice x.a x.l.length x.c]] w (CkPost x w) := by
  have hst := CF.start x w
  obtain ⟨W1, hW1⟩ : ∃ W1, W1 = (((w.alloc (.cells #[.int .i64 x.k, .int .i64 x.n, .int .i64 x.t.k, .slice x.t.a x.t.l.length x.t.c, .int .i64 x.f.k, .slice x.f.a x.f.l.length x.f.c, .slice x.a x.l.length x.c] 27)).alloc (.cells #[.int .i64 0, .int .i64 0, .int .i64 0, .slice none 0 0, .int .i64 0, .slice none 0 0, .slice none 0 0] 27)).alloc (.cells #[.int .i64 0, .slice none 0 0] 24)) := ⟨_, rfl⟩
  have hb1 : Below w.heap.size w W1 := by rw [hW1]; exact (((Below.refl _ _).alloc (Nat.le_refl _) _).alloc (by simp) _).alloc (by simp; omega) _
  rw [← hW1] at hst
  obtain ⟨gd, hgd⟩ : ∃ gd, goodM 0 x.tm = gd := ⟨_, rfl⟩
  have HG : Hid (Calls Tryz.prog 9 #[.agg #[.int .i64 x.k, .int .i64 x.n, .int .i64 x.t.k, .slice x.t.a x.t.l.length x.t.c, .int .i64 x.f.k, .slice x.f.a x.f.l.length x.f.c, .slice x.a x.l.length x.c], .int .i64 0] W1 fun e w' => e = .returned (.bool gd) ∧ Below W1.heap.size W1 w') := by
    have := goodTm_any x 0 W1 (hg.below hb1) (hx.below hb1) hnb
    rw [hgd] at this
    exact this
  have HX : Hid (x.In w ∧ goodM 0 x.tm = gd ∧ Below w.heap.size w W1 ∧ CF w.heap.size x W1) := ⟨hx, hgd, hb1, hst⟩
  obtain ⟨p0, p1, p2, p3, p4, p5, p6⟩ := hst.at7
  simp only [Nat.zero_add] at p0 p1 p2 p3 p4 p5 p6
  clear hg hx hnb hst hgd hb1
  go_enter Tryz.func20, Tryz.ntmps20
  go_wp2_with fail
  rw [← hW1]
  refine HG.out.mono ?_
  rintro e w2 ⟨rfl, hb2⟩
  have hcf : CF w.heap.size x w2 := HX.out.2.2.2.below hb2
  have hbw : Below w.heap.size w w2 := HX.out.2.2.1.trans (hb2.mono HX.out.2.2.1.size)
  have HX2 : Hid (x.In w ∧ goodM 0 x.tm = gd) := ⟨HX.out.1, HX.out.2.1⟩
  clear p0 p1 p2 p3 p4 p5 p6 HG HX hb2 hW1
  cases gd
  · have HN : Hid (CkPost x w (.returned (.tuple #[.agg #[.int .i64 0, .int .i64 0, .int .i64 0, .slice none 0 0, .int .i64 0, .slice none 0 0, .slice none 0 0], .agg #[.int .i64 0, .slice none 0 0], .int .i64 1])) (ckEnd w2 w.heap.size (tleaf 0 0) (leaf 0))) := ⟨hbw.trans ((ckEnd_below w2 w.heap.size (tleaf 0 0) (leaf 0) hcf.lt).mono (Nat.le_refl _)), .inl ⟨HX2.out.2, rfl⟩⟩
    obtain ⟨e0, e1, e2, e3, e4, e5, e6, e7, e8⟩ := hcf.ends (tleaf 0 0) (leaf 0)
    obtain ⟨_, ⟨⟨y0, y1, y2, y3, y4, y5, y6⟩, f0, f1, f2, f3, f4, f5, f6⟩, u0, u1, g0, g1⟩ := hcf
    clear hbw
    go_wp2_with fail
    refine bodyPost_ret (v := .tuple #[.agg #[.int .i64 0, .int .i64 0, .int .i64 0, .slice none 0 0, .int .i64 0, .slice none 0 0, .slice none 0 0], .agg #[.int .i64 0, .slice none 0 0], .int .i64 1]) ?_ rfl HN.out
    unfold ckEnd put7 at e0 e1 e2 e3 e4 e5 e6 e7 e8
    simp only [tleaf, leaf, List.length_nil] at e0 e1 e2 e3 e4 e5 e6 e7 e8
    simp [results, Tryz.results20, go_sem, e0, e1, e2, e3, e4, e5, e6, e7, e8]
  · obtain ⟨hok, hsz⟩ := goodM_ok HX2.out.2
    have hlt := hcf.lt
    have hbR : Below w2.heap.size w2 (w2.alloc (.cells #[.int .i64 0] 75)) := (Below.refl _ _).alloc (Nat.le_refl _) _
    have hbwR := hbw.trans (hbR.mono hbw.size)
    have hxsz : x.sz ≤ 40 := by rw [x.sz_tm]; exact hsz
    have HC : Hid (Calls Tryz.prog 34 #[.pointer (some ⟨w2.heap.size, 0, none⟩), .agg #[.int .i64 x.k, .int .i64 x.n, .int .i64 x.t.k, .slice x.t.a x.t.l.length x.t.c, .int .i64 x.f.k, .slice x.f.a x.f.l.length x.f.c, .slice x.a x.l.length x.c], .slice none 0 0] (w2.alloc (.cells #[.int .i64 0] 75)) (RdPost (fun b => b ≠ w2.heap.size ∧ b ≠ w.heap.size + 1 ∧ b ≠ w.heap.size + 1 + 1) w2.heap.size x 0 [] (w2.alloc (.cells #[.int .i64 0] 75)))) := by
      refine read_any w2.heap.size 900 _ x 0 (leaf 0) _ (by omega) ⟨hok, fun t h => (by cases h), ⟨by omega, by simp [leaf]; omega⟩, HX2.out.1.below hbwR, leaf_in _ _, ⟨by simp [go_sem], by simp [go_sem]⟩, HX2.out.1.bl.mono fun b hb => ⟨by omega, by omega, by omega⟩, leaf_bl _ _, fun b hb => ?_, fun b hb => hb.1⟩
      simp only [World.size_alloc] at hb
      exact ⟨by omega, by omega, by omega⟩
    have HB : Hid (Below w.heap.size w (w2.alloc (.cells #[.int .i64 0] 75)) ∧ CF w.heap.size x (w2.alloc (.cells #[.int .i64 0] 75)) ∧ x.sz ≤ 40 ∧ okTm x.tm 0) := ⟨hbwR, hcf.below hbR, hxsz, hok⟩
    obtain ⟨p0, p1, p2, p3, p4, p5, p6⟩ := hcf.at7
    simp only [Nat.zero_add] at p0 p1 p2 p3 p4 p5 p6
    obtain ⟨q0, q1, q2, q3, q4, q5, q6⟩ := (hcf.below hbR).at7
    simp only [Nat.zero_add] at q0 q1 q2 q3 q4 q5 q6
    clear hok hsz hbwR hxsz hbw hbR hcf
    go_wp2_with fail
    refine HC.out.mono ?_
    rintro e w3 ⟨hk3, ⟨hno, rfl⟩ | ⟨r, hyes, rfl, hn, hyi, hii, hyb, hib, hcs⟩⟩
    · have hbk : Below w2.heap.size (w2.alloc (.cells #[.int .i64 0] 75)) w3 := hk3.below (by simp) (by simp)
      have hb3 : Below w.heap.size w w3 := HB.out.1.trans (hbk.mono (by omega))
      have hA : Below w3.heap.size w3 (w3.alloc (.cells #[.int .i64 0, .int .i64 0, .int .i64 0, .int .i64 0, .slice none 0 0, .int .i64 0, .slice none 0 0, .slice none 0 0, .int .i64 0, .slice none 0 0] 71)) := (Below.refl _ _).alloc (Nat.le_refl _) _
      have hb4 : Below w.heap.size w (w3.alloc (.cells #[.int .i64 0, .int .i64 0, .int .i64 0, .int .i64 0, .slice none 0 0, .int .i64 0, .slice none 0 0, .slice none 0 0, .int .i64 0, .slice none 0 0] 71)) := hb3.trans (hA.mono hb3.size)
      have hcf : CF w.heap.size x (w3.alloc (.cells #[.int .i64 0, .int .i64 0, .int .i64 0, .int .i64 0, .slice none 0 0, .int .i64 0, .slice none 0 0, .slice none 0 0, .int .i64 0, .slice none 0 0] 71)) := (HB.out.2.1.low hbk hlt).below hA
      obtain ⟨W4, hW4⟩ : ∃ W4, W4 = (w3.alloc (.cells #[.int .i64 0, .int .i64 0, .int .i64 0, .int .i64 0, .slice none 0 0, .int .i64 0, .slice none 0 0, .slice none 0 0, .int .i64 0, .slice none 0 0] 71)) := ⟨_, rfl⟩
      rw [← hW4] at hb4 hcf
      have HN : Hid (CkPost x w (.returned (.tuple #[.agg #[.int .i64 0, .int .i64 0, .int .i64 0, .slice none 0 0, .int .i64 0, .slice none 0 0, .slice none 0 0], .agg #[.int .i64 0, .slice none 0 0], .int .i64 2])) (ckEnd W4 w.heap.size (tleaf 0 0) (leaf 0))) := ⟨hb4.trans ((ckEnd_below W4 w.heap.size (tleaf 0 0) (leaf 0) hcf.lt).mono (Nat.le_refl _)), .inr (.inl ⟨HX2.out.2, hno, rfl⟩)⟩
      obtain ⟨e0, e1, e2, e3, e4, e5, e6, e7, e8⟩ := hcf.ends (tleaf 0 0) (leaf 0)
      obtain ⟨_, ⟨⟨y0, y1, y2, y3, y4, y5, y6⟩, f0, f1, f2, f3, f4, f5, f6⟩, u0, u1, g0, g1⟩ := hcf
      clear hb4 hb3 hbk hk3 hno hA HC HB p0 p1 p2 p3 p4 p5 p6 q0 q1 q2 q3 q4 q5 q6
      subst hW4
      go_wp2_with fail
      refine bodyPost_ret (v := .tuple #[.agg #[.int .i64 0, .int .i64 0, .int .i64 0, .slice none 0 0, .int .i64 0, .slice none 0 0, .slice none 0 0], .agg #[.int .i64 0, .slice none 0 0], .int .i64 2]) ?_ rfl HN.out
      unfold ckEnd put7 at e0 e1 e2 e3 e4 e5 e6 e7 e8
      simp only [tleaf, leaf, List.length_nil] at e0 e1 e2 e3 e4 e5 e6 e7 e8
      simp [results, Tryz.results20, go_sem, e0, e1, e2, e3, e4, e5, e6, e7, e8]
    · obtain ⟨OR, hOR⟩ : ∃ O, O = Obj.cells #[.int .i64 r.n, .int .i64 r.y.k, .int .i64 r.y.n, .int .i64 r.y.t.k, .slice r.y.t.a r.y.t.l.length r.y.t.c, .int .i64 r.y.f.k, .slice r.y.f.a r.y.f.l.length r.y.f.c, .slice r.y.a r.y.l.length r.y.c, .int .i64 r.i.k, .slice r.i.a r.i.l.length r.i.c] 71 := ⟨_, rfl⟩
      have hbk : Below w2.heap.size (w2.alloc (.cells #[.int .i64 0] 75)) w3 := hk3.below (by simp) (by simp)
      have hb3 : Below w.heap.size w w3 := HB.out.1.trans (hbk.mono (by omega))
      have hA : Below w3.heap.size w3 (w3.alloc OR) := (Below.refl _ _).alloc (Nat.le_refl _) _
      have hb4 : Below w.heap.size w (w3.alloc OR) := hb3.trans (hA.mono hb3.size)
      have hcf : CF w.heap.size x (w3.alloc OR) := (HB.out.2.1.low hbk hlt).below hA
      have hg44 : goodT 44 r.i = true := by
        rw [goodT_eq]
        have := read_good x.tm [] 0 r.y.tm r.i.ty HB.out.2.2.2 (fun u h => by cases h) hyes
        have h40 := HB.out.2.2.1
        rw [x.sz_tm] at h40
        exact goodY_more _ 44 _ (by omega) this
      have hgf := good_facts (n := 44) (by omega) hg44
      have hS0 : (w3.alloc OR).cell? ⟨w3.heap.size, 1, none⟩ = some (.int .i64 r.y.k) ∧ (w3.alloc OR).cell? ⟨w3.heap.size, 2, none⟩ = some (.int .i64 r.y.n) ∧ (w3.alloc OR).cell? ⟨w3.heap.size, 3, none⟩ = some (.int .i64 r.y.t.k) ∧ (w3.alloc OR).cell? ⟨w3.heap.size, 4, none⟩ = some (.slice r.y.t.a r.y.t.l.length r.y.t.c) ∧ (w3.alloc OR).cell? ⟨w3.heap.size, 5, none⟩ = some (.int .i64 r.y.f.k) ∧ (w3.alloc OR).cell? ⟨w3.heap.size, 6, none⟩ = some (.slice r.y.f.a r.y.f.l.length r.y.f.c) ∧ (w3.alloc OR).cell? ⟨w3.heap.size, 7, none⟩ = some (.slice r.y.a r.y.l.length r.y.c) ∧ (w3.alloc OR).cell? ⟨w3.heap.size, 8, none⟩ = some (.int .i64 r.i.k) ∧ (w3.alloc OR).cell? ⟨w3.heap.size, 9, none⟩ = some (.slice r.i.a r.i.l.length r.i.c) := by
        subst hOR
        refine ⟨?_, ?_, ?_, ?_, ?_, ?_, ?_, ?_, ?_⟩ <;> simp [go_sem]
      have hlt4 : w.heap.size + 1 + 1 < w3.heap.size := Nat.lt_of_lt_of_le hlt (by have := hbk.size; simp at this; omega)
      obtain ⟨WB, hWB⟩ : ∃ WB, WB = w3.alloc OR := ⟨_, rfl⟩
      rw [← hWB] at hA hb4 hcf hS0
      have HS : Hid (∀ W', Below WB.heap.size WB W' → W'.cell? ⟨w3.heap.size, 1, none⟩ = some (.int .i64 r.y.k) ∧ W'.cell? ⟨w3.heap.size, 2, none⟩ = some (.int .i64 r.y.n) ∧ W'.cell? ⟨w3.heap.size, 3, none⟩ = some (.int .i64 r.y.t.k) ∧ W'.cell? ⟨w3.heap.size, 4, none⟩ = some (.slice r.y.t.a r.y.t.l.length r.y.t.c) ∧ W'.cell? ⟨w3.heap.size, 5, none⟩ = some (.int .i64 r.y.f.k) ∧ W'.cell? ⟨w3.heap.size, 6, none⟩ = some (.slice r.y.f.a r.y.f.l.length r.y.f.c) ∧ W'.cell? ⟨w3.heap.size, 7, none⟩ = some (.slice r.y.a r.y.l.length r.y.c) ∧ W'.cell? ⟨w3.heap.size, 8, none⟩ = some (.int .i64 r.i.k) ∧ W'.cell? ⟨w3.heap.size, 9, none⟩ = some (.slice r.i.a r.i.l.length r.i.c)) := by
        intro W' hb
        obtain ⟨h1, h2, h3, h4, h5, h6, h7, h8, h9⟩ := hS0
        exact ⟨cell_later hb h1, cell_later hb h2, cell_later hb h3, cell_later hb h4, cell_later hb h5, cell_later hb h6, cell_later hb h7, cell_later hb h8, cell_later hb h9⟩
      have H39 : Hid (Calls Tryz.prog 35 #[.agg #[.int .i64 r.i.k, .slice r.i.a r.i.l.length r.i.c]] WB.drew fun e wE => ∃ t : Tr, e = .returned (.agg #[.int .i64 t.k, .slice t.a t.l.length t.c]) ∧ Hid (t.ty = r.i.ty ∧ t.In wE ∧ t.Bl (WB.heap.size ≤ ·)) ∧ Below WB.heap.size WB wE ∧ CF w.heap.size x wE) := by
        refine (fresh_any r.i WB.drew ((hii.below hA).below ((Below.refl _ _).drew)) hgf.1 hgf.2.1).mono ?_
        rintro e wE ⟨t, rfl, h1, h2, h3, h4⟩
        have h5 : Below WB.heap.size WB wE := ((Below.refl _ _).drew).trans (h4.mono (Nat.le_refl _))
        exact ⟨t, rfl, ⟨h1, h2, h3⟩, h5, hcf.below h5⟩
      have HD : Hid (Below w.heap.size w WB ∧ r.y.In WB ∧ r.y.Bl (fun b => b ≠ w2.heap.size ∧ b ≠ w.heap.size + 1 ∧ b ≠ w.heap.size + 1 + 1) ∧ goodT 44 r.i = true ∧ readS x.tm [] 0 = some (r.y.tm, r.i.ty) ∧ w.heap.size + 1 + 1 < WB.heap.size) := ⟨hb4, hyi.below hA, hyb, hg44, hyes, hcf.lt⟩
      have hS1 : WB.drew.cell? ⟨w3.heap.size, 1, none⟩ = some (.int .i64 r.y.k) ∧ WB.drew.cell? ⟨w3.heap.size, 2, none⟩ = some (.int .i64 r.y.n) ∧ WB.drew.cell? ⟨w3.heap.size, 3, none⟩ = some (.int .i64 r.y.t.k) ∧ WB.drew.cell? ⟨w3.heap.size, 4, none⟩ = some (.slice r.y.t.a r.y.t.l.length r.y.t.c) ∧ WB.drew.cell? ⟨w3.heap.size, 5, none⟩ = some (.int .i64 r.y.f.k) ∧ WB.drew.cell? ⟨w3.heap.size, 6, none⟩ = some (.slice r.y.f.a r.y.f.l.length r.y.f.c) ∧ WB.drew.cell? ⟨w3.heap.size, 7, none⟩ = some (.slice r.y.a r.y.l.length r.y.c) ∧ WB.drew.cell? ⟨w3.heap.size, 8, none⟩ = some (.int .i64 r.i.k) ∧ WB.drew.cell? ⟨w3.heap.size, 9, none⟩ = some (.slice r.i.a r.i.l.length r.i.c) := HS.out _ ((Below.refl _ _).drew)
      have HS1 : Hid (WB.drew.cell? ⟨w3.heap.size, 1, none⟩ = some (.int .i64 r.y.k) ∧ WB.drew.cell? ⟨w3.heap.size, 2, none⟩ = some (.int .i64 r.y.n) ∧ WB.drew.cell? ⟨w3.heap.size, 3, none⟩ = some (.int .i64 r.y.t.k) ∧ WB.drew.cell? ⟨w3.heap.size, 4, none⟩ = some (.slice r.y.t.a r.y.t.l.length r.y.t.c) ∧ WB.drew.cell? ⟨w3.heap.size, 5, none⟩ = some (.int .i64 r.y.f.k) ∧ WB.drew.cell? ⟨w3.heap.size, 6, none⟩ = some (.slice r.y.f.a r.y.f.l.length r.y.f.c) ∧ WB.drew.cell? ⟨w3.heap.size, 7, none⟩ = some (.slice r.y.a r.y.l.length r.y.c) ∧ WB.drew.cell? ⟨w3.heap.size, 8, none⟩ = some (.int .i64 r.i.k) ∧ WB.drew.cell? ⟨w3.heap.size, 9, none⟩ = some (.slice r.i.a r.i.l.length r.i.c)) := hS1
      clear hbk hb3 hA hb4 hcf hg44 hgf hS1 hn hyi hii hyb hib hcs hyes hk3 HC HB p0 p1 p2 p3 p4 p5 p6 q0 q1 q2 q3 q4 q5 q6 hlt
      subst hOR
      go_upto_region 6 with fail
      rw [← hWB]
      have HS0 : Hid (WB.cell? ⟨w3.heap.size, 1, none⟩ = some (.int .i64 r.y.k) ∧ WB.cell? ⟨w3.heap.size, 2, none⟩ = some (.int .i64 r.y.n) ∧ WB.cell? ⟨w3.heap.size, 3, none⟩ = some (.int .i64 r.y.t.k) ∧ WB.cell? ⟨w3.heap.size, 4, none⟩ = some (.slice r.y.t.a r.y.t.l.length r.y.t.c) ∧ WB.cell? ⟨w3.heap.size, 5, none⟩ = some (.int .i64 r.y.f.k) ∧ WB.cell? ⟨w3.heap.size, 6, none⟩ = some (.slice r.y.f.a r.y.f.l.length r.y.f.c) ∧ WB.cell? ⟨w3.heap.size, 7, none⟩ = some (.slice r.y.a r.y.l.length r.y.c) ∧ WB.cell? ⟨w3.heap.size, 8, none⟩ = some (.int .i64 r.i.k) ∧ WB.cell? ⟨w3.heap.size, 9, none⟩ = some (.slice r.i.a r.i.l.length r.i.c)) := hS0
      have HSP7 : Hid (∀ (W' : World) (a0 a1 a2 a3 a4 a5 a6 : Value), (W'.cell? ⟨w3.heap.size, 1, none⟩ = some (.int .i64 r.y.k) ∧ W'.cell? ⟨w3.heap.size, 2, none⟩ = some (.int .i64 r.y.n) ∧ W'.cell? ⟨w3.heap.size, 3, none⟩ = some (.int .i64 r.y.t.k) ∧ W'.cell? ⟨w3.heap.size, 4, none⟩ = some (.slice r.y.t.a r.y.t.l.length r.y.t.c) ∧ W'.cell? ⟨w3.heap.size, 5, none⟩ = some (.int .i64 r.y.f.k) ∧ W'.cell? ⟨w3.heap.size, 6, none⟩ = some (.slice r.y.f.a r.y.f.l.length r.y.f.c) ∧ W'.cell? ⟨w3.heap.size, 7, none⟩ = some (.slice r.y.a r.y.l.length r.y.c) ∧ W'.cell? ⟨w3.heap.size, 8, none⟩ = some (.int .i64 r.i.k) ∧ W'.cell? ⟨w3.heap.size, 9, none⟩ = some (.slice r.i.a r.i.l.length r.i.c)) → (((((((W'.setCell ⟨w.heap.size + 1, 0, none⟩ a0).setCell ⟨w.heap.size + 1, 1, none⟩ a1).setCell ⟨w.heap.size + 1, 2, none⟩ a2).setCell ⟨w.heap.size + 1, 3, none⟩ a3).setCell ⟨w.heap.size + 1, 4, none⟩ a4).setCell ⟨w.heap.size + 1, 5, none⟩ a5).setCell ⟨w.heap.size + 1, 6, none⟩ a6).cell? ⟨w3.heap.size, 1, none⟩ = some (.int .i64 r.y.k) ∧ (((((((W'.setCell ⟨w.heap.size + 1, 0, none⟩ a0).setCell ⟨w.heap.size + 1, 1, none⟩ a1).setCell ⟨w.heap.size + 1, 2, none⟩ a2).setCell ⟨w.heap.size + 1, 3, none⟩ a3).setCell ⟨w.heap.size + 1, 4, none⟩ a4).setCell ⟨w.heap.size + 1, 5, none⟩ a5).setCell ⟨w.heap.size + 1, 6, none⟩ a6).cell? ⟨w3.heap.size, 2, none⟩ = some (.int .i64 r.y.n) ∧ (((((((W'.setCell ⟨w.heap.size + 1, 0, none⟩ a0).setCell ⟨w.heap.size + 1, 1, none⟩ a1).setCell ⟨w.heap.size + 1, 2, none⟩ a2).setCell ⟨w.heap.size + 1, 3, none⟩ a3).setCell ⟨w.heap.size + 1, 4, none⟩ a4).setCell ⟨w.heap.size + 1, 5, none⟩ a5).setCell ⟨w.heap.size + 1, 6, none⟩ a6).cell? ⟨w3.heap.size, 3, none⟩ = some (.int .i64 r.y.t.k) ∧ (((((((W'.setCell ⟨w.heap.size + 1, 0, none⟩ a0).setCell ⟨w.heap.size + 1, 1, none⟩ a1).setCell ⟨w.heap.size + 1, 2, none⟩ a2).setCell ⟨w.heap.size + 1, 3, none⟩ a3).setCell ⟨w.heap.size + 1, 4, none⟩ a4).setCell ⟨w.heap.size + 1, 5, none⟩ a5).setCell ⟨w.heap.size + 1, 6, none⟩ a6).cell? ⟨w3.heap.size, 4, none⟩ = some (.slice r.y.t.a r.y.t.l.length r.y.t.c) ∧ (((((((W'.setCell ⟨w.heap.size + 1, 0, none⟩ a0).setCell ⟨w.heap.size + 1, 1, none⟩ a1).setCell ⟨w.heap.size + 1, 2, none⟩ a2).setCell ⟨w.heap.size + 1, 3, none⟩ a3).setCell ⟨w.heap.size + 1, 4, none⟩ a4).setCell ⟨w.heap.size + 1, 5, none⟩ a5).setCell ⟨w.heap.size + 1, 6, none⟩ a6).cell? ⟨w3.heap.size, 5, none⟩ = some (.int .i64 r.y.f.k) ∧ (((((((W'.setCell ⟨w.heap.size + 1, 0, none⟩ a0).setCell ⟨w.heap.size + 1, 1, none⟩ a1).setCell ⟨w.heap.size + 1, 2, none⟩ a2).setCell ⟨w.heap.size + 1, 3, none⟩ a3).setCell ⟨w.heap.size + 1, 4, none⟩ a4).setCell ⟨w.heap.size + 1, 5, none⟩ a5).setCell ⟨w.heap.size + 1, 6, none⟩ a6).cell? ⟨w3.heap.size, 6, none⟩ = some (.slice r.y.f.a r.y.f.l.length r.y.f.c) ∧ (((((((W'.setCell ⟨w.heap.size + 1, 0, none⟩ a0).setCell ⟨w.heap.size + 1, 1, none⟩ a1).setCell ⟨w.heap.size + 1, 2, none⟩ a2).setCell ⟨w.heap.size + 1, 3, none⟩ a3).setCell ⟨w.heap.size + 1, 4, none⟩ a4).setCell ⟨w.heap.size + 1, 5, none⟩ a5).setCell ⟨w.heap.size + 1, 6, none⟩ a6).cell? ⟨w3.heap.size, 7, none⟩ = some (.slice r.y.a r.y.l.length r.y.c) ∧ (((((((W'.setCell ⟨w.heap.size + 1, 0, none⟩ a0).setCell ⟨w.heap.size + 1, 1, none⟩ a1).setCell ⟨w.heap.size + 1, 2, none⟩ a2).setCell ⟨w.heap.size + 1, 3, none⟩ a3).setCell ⟨w.heap.size + 1, 4, none⟩ a4).setCell ⟨w.heap.size + 1, 5, none⟩ a5).setCell ⟨w.heap.size + 1, 6, none⟩ a6).cell? ⟨w3.heap.size, 8, none⟩ = some (.int .i64 r.i.k) ∧ (((((((W'.setCell ⟨w.heap.size + 1, 0, none⟩ a0).setCell ⟨w.heap.size + 1, 1, none⟩ a1).setCell ⟨w.heap.size + 1, 2, none⟩ a2).setCell ⟨w.heap.size + 1, 3, none⟩ a3).setCell ⟨w.heap.size + 1, 4, none⟩ a4).setCell ⟨w.heap.size + 1, 5, none⟩ a5).setCell ⟨w.heap.size + 1, 6, none⟩ a6).cell? ⟨w3.heap.size, 9, none⟩ = some (.slice r.i.a r.i.l.length r.i.c)) := by
        intro W' a0 a1 a2 a3 a4 a5 a6 h
        have hp : ∀ k, (((((((W'.setCell ⟨w.heap.size + 1, 0, none⟩ a0).setCell ⟨w.heap.size + 1, 1, none⟩ a1).setCell ⟨w.heap.size + 1, 2, none⟩ a2).setCell ⟨w.heap.size + 1, 3, none⟩ a3).setCell ⟨w.heap.size + 1, 4, none⟩ a4).setCell ⟨w.heap.size + 1, 5, none⟩ a5).setCell ⟨w.heap.size + 1, 6, none⟩ a6).cell? ⟨w3.heap.size, k, none⟩ = W'.cell? ⟨w3.heap.size, k, none⟩ := by
          intro k
          have hk : w.heap.size + 1 ≠ w3.heap.size := by omega
          rw [World.cell?_setCell_other _ _ _ _ (fun e => hk (congrArg Addr.block e)), World.cell?_setCell_other _ _ _ _ (fun e => hk (congrArg Addr.block e)), World.cell?_setCell_other _ _ _ _ (fun e => hk (congrArg Addr.block e)), World.cell?_setCell_other _ _ _ _ (fun e => hk (congrArg Addr.block e)), World.cell?_setCell_other _ _ _ _ (fun e => hk (congrArg Addr.block e)), World.cell?_setCell_other _ _ _ _ (fun e => hk (congrArg Addr.block e)), World.cell?_setCell_other _ _ _ _ (fun e => hk (congrArg Addr.block e))]
        obtain ⟨h1, h2, h3, h4, h5, h6, h7, h8, h9⟩ := h
        exact ⟨(hp _).trans h1, (hp _).trans h2, (hp _).trans h3, (hp _).trans h4, (hp _).trans h5, (hp _).trans h6, (hp _).trans h7, (hp _).trans h8, (hp _).trans h9⟩
      have HSP2 : Hid (∀ (W' : World) (a0 a1 : Value), (W'.cell? ⟨w3.heap.size, 1, none⟩ = some (.int .i64 r.y.k) ∧ W'.cell? ⟨w3.heap.size, 2, none⟩ = some (.int .i64 r.y.n) ∧ W'.cell? ⟨w3.heap.size, 3, none⟩ = some (.int .i64 r.y.t.k) ∧ W'.cell? ⟨w3.heap.size, 4, none⟩ = some (.slice r.y.t.a r.y.t.l.length r.y.t.c) ∧ W'.cell? ⟨w3.heap.size, 5, none⟩ = some (.int .i64 r.y.f.k) ∧ W'.cell? ⟨w3.heap.size, 6, none⟩ = some (.slice r.y.f.a r.y.f.l.length r.y.f.c) ∧ W'.cell? ⟨w3.heap.size, 7, none⟩ = some (.slice r.y.a r.y.l.length r.y.c) ∧ W'.cell? ⟨w3.heap.size, 8, none⟩ = some (.int .i64 r.i.k) ∧ W'.cell? ⟨w3.heap.size, 9, none⟩ = some (.slice r.i.a r.i.l.length r.i.c)) → ((W'.setCell ⟨w.heap.size + 1 + 1, 0, none⟩ a0).setCell ⟨w.heap.size + 1 + 1, 1, none⟩ a1).cell? ⟨w3.heap.size, 1, none⟩ = some (.int .i64 r.y.k) ∧ ((W'.setCell ⟨w.heap.size + 1 + 1, 0, none⟩ a0).setCell ⟨w.heap.size + 1 + 1, 1, none⟩ a1).cell? ⟨w3.heap.size, 2, none⟩ = some (.int .i64 r.y.n) ∧ ((W'.setCell ⟨w.heap.size + 1 + 1, 0, none⟩ a0).setCell ⟨w.heap.size + 1 + 1, 1, none⟩ a1).cell? ⟨w3.heap.size, 3, none⟩ = some (.int .i64 r.y.t.k) ∧ ((W'.setCell ⟨w.heap.size + 1 + 1, 0, none⟩ a0).setCell ⟨w.heap.size + 1 + 1, 1, none⟩ a1).cell? ⟨w3.heap.size, 4, none⟩ = some (.slice r.y.t.a r.y.t.l.length r.y.t.c) ∧ ((W'.setCell ⟨w.heap.size + 1 + 1, 0, none⟩ a0).setCell ⟨w.heap.size + 1 + 1, 1, none⟩ a1).cell? ⟨w3.heap.size, 5, none⟩ = some (.int .i64 r.y.f.k) ∧ ((W'.setCell ⟨w.heap.size + 1 + 1, 0, none⟩ a0).setCell ⟨w.heap.size + 1 + 1, 1, none⟩ a1).cell? ⟨w3.heap.size, 6, none⟩ = some (.slice r.y.f.a r.y.f.l.length r.y.f.c) ∧ ((W'.setCell ⟨w.heap.size + 1 + 1, 0, none⟩ a0).setCell ⟨w.heap.size + 1 + 1, 1, none⟩ a1).cell? ⟨w3.heap.size, 7, none⟩ = some (.slice r.y.a r.y.l.length r.y.c) ∧ ((W'.setCell ⟨w.heap.size + 1 + 1, 0, none⟩ a0).setCell ⟨w.heap.size + 1 + 1, 1, none⟩ a1).cell? ⟨w3.heap.size, 8, none⟩ = some (.int .i64 r.i.k) ∧ ((W'.setCell ⟨w.heap.size + 1 + 1, 0, none⟩ a0).setCell ⟨w.heap.size + 1 + 1, 1, none⟩ a1).cell? ⟨w3.heap.size, 9, none⟩ = some (.slice r.i.a r.i.l.length r.i.c)) := by
        intro W' a0 a1 h
        have hp : ∀ k, ((W'.setCell ⟨w.heap.size + 1 + 1, 0, none⟩ a0).setCell ⟨w.heap.size + 1 + 1, 1, none⟩ a1).cell? ⟨w3.heap.size, k, none⟩ = W'.cell? ⟨w3.heap.size, k, none⟩ := by
          intro k
          have hk : w.heap.size + 1 + 1 ≠ w3.heap.size := by omega
          rw [World.cell?_setCell_other _ _ _ _ (fun e => hk (congrArg Addr.block e)), World.cell?_setCell_other _ _ _ _ (fun e => hk (congrArg Addr.block e))]
        obtain ⟨h1, h2, h3, h4, h5, h6, h7, h8, h9⟩ := h
        exact ⟨(hp _).trans h1, (hp _).trans h2, (hp _).trans h3, (hp _).trans h4, (hp _).trans h5, (hp _).trans h6, (hp _).trans h7, (hp _).trans h8, (hp _).trans h9⟩
      have HSE : Hid (∀ W', Below WB.heap.size WB W' → W'.cell? ⟨w3.heap.size, 1, none⟩ = some (.int .i64 r.y.k) ∧ W'.cell? ⟨w3.heap.size, 2, none⟩ = some (.int .i64 r.y.n) ∧ W'.cell? ⟨w3.heap.size, 3, none⟩ = some (.int .i64 r.y.t.k) ∧ W'.cell? ⟨w3.heap.size, 4, none⟩ = some (.slice r.y.t.a r.y.t.l.length r.y.t.c) ∧ W'.cell? ⟨w3.heap.size, 5, none⟩ = some (.int .i64 r.y.f.k) ∧ W'.cell? ⟨w3.heap.size, 6, none⟩ = some (.slice r.y.f.a r.y.f.l.length r.y.f.c) ∧ W'.cell? ⟨w3.heap.size, 7, none⟩ = some (.slice r.y.a r.y.l.length r.y.c) ∧ W'.cell? ⟨w3.heap.size, 8, none⟩ = some (.int .i64 r.i.k) ∧ W'.cell? ⟨w3.heap.size, 9, none⟩ = some (.slice r.i.a r.i.l.length r.i.c)) := HS
      clear hWB
      go_region_held3 (fun W' => W'.cell? ⟨w3.heap.size, 1, none⟩ = some (.int .i64 r.y.k) ∧ W'.cell? ⟨w3.heap.size, 2, none⟩ = some (.int .i64 r.y.n) ∧ W'.cell? ⟨w3.heap.size, 3, none⟩ = some (.int .i64 r.y.t.k) ∧ W'.cell? ⟨w3.heap.size, 4, none⟩ = some (.slice r.y.t.a r.y.t.l.length r.y.t.c) ∧ W'.cell? ⟨w3.heap.size, 5, none⟩ = some (.int .i64 r.y.f.k) ∧ W'.cell? ⟨w3.heap.size, 6, none⟩ = some (.slice r.y.f.a r.y.f.l.length r.y.f.c) ∧ W'.cell? ⟨w3.heap.size, 7, none⟩ = some (.slice r.y.a r.y.l.length r.y.c) ∧ W'.cell? ⟨w3.heap.size, 8, none⟩ = some (.int .i64 r.i.k) ∧ W'.cell? ⟨w3.heap.size, 9, none⟩ = some (.slice r.i.a r.i.l.length r.i.c))
        (first
          | (with_reducible exact HS0.out)
          | (with_reducible exact HS1.out)
          | (with_reducible exact HSE.out _ hbE)
          | (with_reducible exact HSP7.out _ _ _ _ _ _ _ _ (HSE.out _ hbE))
          | (with_reducible exact HSP2.out _ _ _ (HSE.out _ hbE))
          | (with_reducible exact HSP2.out _ _ _ (HSP7.out _ _ _ _ _ _ _ _ (HSE.out _ hbE)))
          | (with_reducible exact HSP7.out _ _ _ _ _ _ _ _ (HSP2.out _ _ _ (HSE.out _ hbE)))
          | fail)
        (first
          | (go_at_call 35; (with_reducible refine H39.out.mono ?_); rintro e wE ⟨t, rfl, HT, hbE, hcfE⟩; have HCE : Hid (CF w.heap.size x wE) := hcfE; obtain ⟨_, ⟨⟨y0, y1, y2, y3, y4, y5, y6⟩, f0, f1, f2, f3, f4, f5, f6⟩, u0, u1, g0, g1⟩ := hcfE)
          | fail)
      have HN : Hid (CkPost x w (.returned (.tuple #[.agg #[.int .i64 r.y.k, .int .i64 r.y.n, .int .i64 r.y.t.k, .slice r.y.t.a r.y.t.l.length r.y.t.c, .int .i64 r.y.f.k, .slice r.y.f.a r.y.f.l.length r.y.f.c, .slice r.y.a r.y.l.length r.y.c], .agg #[.int .i64 t.k, .slice t.a t.l.length t.c], .int .i64 0])) (ckEnd wE w.heap.size r.y t)) := by
        obtain ⟨hbB, hyB, hyb, hg44, hyes, hlB⟩ := HD.out
        have hk7 := put7_kept (w := wE) (J := w.heap.size + 1) (x := r.y)
        have hk2 : Kept (w.heap.size + 1 + 1) none (put7 wE (w.heap.size + 1) r.y) (ckEnd wE w.heap.size r.y t) := setR_kept.trans setR_kept
        refine ⟨(hbB.trans (hbE.mono hbB.size)).trans (ckEnd_below wE w.heap.size r.y t HCE.out.lt), .inr (.inr ⟨HX2.out.2, r.y, t, ?_, rfl, ?_, ?_, ?_⟩)⟩
        · rw [HT.out.1]; exact hyes
        · exact ((hyB.below hbE).keptR hk7 (hyb.mono fun b hb => hb.2.1)).keptR hk2 (hyb.mono fun b hb => hb.2.2)
        · exact (HT.out.2.1.keptR hk7 (HT.out.2.2.mono fun b hb => by omega)).keptR hk2 (HT.out.2.2.mono fun b hb => by omega)
        · rw [goodT_eq, HT.out.1, ← goodT_eq]; exact hg44
      obtain ⟨e0, e1, e2, e3, e4, e5, e6, e7, e8⟩ := HCE.out.ends r.y t
      clear y0 y1 y2 y3 y4 y5 y6 f0 f1 f2 f3 f4 f5 f6 u0 u1 g0 g1 HS0 HS1 HSE HSP7 HSP2 HS H39 HD HCE HT hbE
      go_wp2_with fail
      refine bodyPost_ret (v := .tuple #[.agg #[.int .i64 r.y.k, .int .i64 r.y.n, .int .i64 r.y.t.k, .slice r.y.t.a r.y.t.l.length r.y.t.c, .int .i64 r.y.f.k, .slice r.y.f.a r.y.f.l.length r.y.f.c, .slice r.y.a r.y.l.length r.y.c], .agg #[.int .i64 t.k, .slice t.a t.l.length t.c], .int .i64 0]) ?_ rfl HN.out
      unfold ckEnd put7 at e0 e1 e2 e3 e4 e5 e6 e7 e8
      simp [results, Tryz.results20, go_sem, e0, e1, e2, e3, e4, e5, e6, e7, e8]
end Go.Proofs.YtnddkmccagiclaaGreatDoor

/-
  What the calls of (*reader).readType and (*reader).readTypeInBrackets do: the type that the words tell, or something went wrong.
-/
namespace Go.Proofs.YtnddkmccagiclaaGreatDoor
open Go.RowKit
/-- The state behind a step: the words left, or none and something went wrong. -/
def After (R : Nat) (b : Bool) (o : Option (List ByteArray)) (w' : World) : Prop := (∃ r, o = some r ∧ RS R r b w') ∨ (o = none ∧ RS R [] true w')
theorem want_any (R : Nat) (word : ByteArray) (hw : (⟨#[]⟩ : ByteArray) ≠ word) (ws : List ByteArray) (b : Bool) (w : World) (h : RS R ws b w) :
    Calls Tryz.prog 85 #[.pointer (some ⟨R, 0, none⟩), .string word] w fun e w' => e = .returned (.tuple #[]) ∧ After R b (behind word ws) w' ∧ Kept R none w w' := by
  cases ws with
  | nil =>
    refine (want_nil R word hw b w h).mono ?_
    rintro e w' ⟨rfl, hr, hk⟩
    exact ⟨rfl, .inr ⟨rfl, hr⟩, hk⟩
  | cons x r =>
    refine (want_walk R x word r b w h).mono ?_
    rintro e w' ⟨rfl, ⟨hx, hr⟩ | ⟨hx, hr⟩, hk⟩
    · exact ⟨rfl, .inl ⟨r, by simp [behind, hx], hr⟩, hk⟩
    · exact ⟨rfl, .inr ⟨by simp [behind, hx], hr⟩, hk⟩
/-- What the call leaves: a tree, and the state. -/
def TyPost (R : Nat) (b : Bool) (o : Option (Ty × List ByteArray)) (w : World) (e : Ending) (w' : World) : Prop :=
  ∃ t : Tr, e = .returned (.agg #[.int .i64 t.k, .slice t.a t.l.length t.c]) ∧ t.In w' ∧ t.Bl (w.heap.size ≤ ·) ∧ Kept R none w w' ∧ After R b (o.map (·.2)) w' ∧ ∀ p, o = some p → t.ty = p.1
theorem set_two {k : Nat} {w : World} {u v u' v' : Value} (h0 : w.cell? ⟨k, 0, none⟩ = some u') (h1 : w.cell? ⟨k, 1, none⟩ = some v') :
    ((w.setCell ⟨k, 0, none⟩ u).setCell ⟨k, 1, none⟩ v).cell? ⟨k, 0, none⟩ = some u ∧ ((w.setCell ⟨k, 0, none⟩ u).setCell ⟨k, 1, none⟩ v).cell? ⟨k, 1, none⟩ = some v := by
  constructor
  · rw [World.cell?_setCell_other _ _ _ _ (by simp)]
    exact World.cell?_setCell_same _ _ _ h0
  · refine World.cell?_setCell_same _ _ _ (u := v') ?_
    rw [World.cell?_setCell_other _ _ _ _ (by simp)]
    exact h1
theorem kept_set2 {R k : Nat} {w w' : World} {u v : Value} (h : Kept R none w w') (hk : w.heap.size ≤ k) : Kept R none w ((w'.setCell ⟨k, 0, none⟩ u).setCell ⟨k, 1, none⟩ v) :=
  ⟨h.os, h.tape, h.output, by have := h.size; simpa [World.setCell] using this, fun q hq h1 h2 => by
    have hn : q ≠ k := by omega
    rw [Below.heap_setCell _ _ _ _ hn, Below.heap_setCell _ _ _ _ hn]
    exact h.block q hq h1 h2⟩
set_option maxRecDepth 20000 in
set_option maxHeartbeats 1000000 in
/-- (*reader).readType at a word that opens no brackets. -/
theorem readType_word (R n : Nat) (x : ByteArray) (r : List ByteArray) (hx : x ≠ opB) (b : Bool) (w : World) (hg : Gl w) (hR : 12 ≤ R) (h : RS R (x :: r) b w) :
    Calls Tryz.prog 84 #[.pointer (some ⟨R, 0, none⟩)] w (TyPost R b (readTy (n + 1) (x :: r)) w) := by
  have hb0 : Below w.heap.size w (w.alloc (.cells #[.int .i64 0, .slice none 0 0] 24)) := (Below.refl _ _).alloc (Nat.le_refl _) _
  have HN : Hid (Calls Tryz.prog 52 #[.pointer (some ⟨R, 0, none⟩)] (w.alloc (.cells #[.int .i64 0, .slice none 0 0] 24)) fun e w' => e = .returned (.string x) ∧ RS R r b w' ∧ Kept R none (w.alloc (.cells #[.int .i64 0, .slice none 0 0] 24)) w') := next_cons R x r b _ (h.below hb0)
  have hRl := h.lt
  have hq : (x.toList == [40]) = false := by
    have := (Lib.bytes_beq_false_iff x opB).2 hx
    rw [opB, Lib.toList_data ⟨#[40]⟩] at this
    exact this
  have HG : Hid (Gl (w.alloc (.cells #[.int .i64 0, .slice none 0 0] 24))) := hg.below hb0
  have HX : Hid (readTy (n + 1) (x :: r) = (atWord x typeWs 0).map fun (k : Nat) => (Ty.mk (k : Int) [], r)) := by
    have e : readTy (n + 1) (x :: r) = if x = opB then (behind toB r).bind fun r1 => (readTy n r1).bind fun p => (readTy n p.2).bind fun q => (behind clB q.2).map fun r4 => (⟨3, [p.1, q.1]⟩, r4) else (atWord x typeWs 0).map fun (k : Nat) => (Ty.mk (k : Int) [], r) := rfl
    exact e.trans (if_neg hx)
  clear h hx hg
  go_enter Tryz.func84, Tryz.ntmps84
  go_wp2_with fail
  refine HN.out.mono ?_
  rintro e w1 ⟨rfl, hr, hk⟩
  have z0 : w1.cell? ⟨w.heap.size, 0, none⟩ = some (.int .i64 0) := hk.cell (by simp [go_sem]) (by omega)
  have z1 : w1.cell? ⟨w.heap.size, 1, none⟩ = some (.slice none 0 0) := hk.cell (by simp [go_sem]) (by omega)
  have hzb := hk.block w.heap.size (by simp) (by omega) (by simp)
  have z2 : w1.frozen? ⟨w.heap.size, 0, none⟩ = false := (World.frozen?_of_block (a := ⟨w.heap.size, 0, none⟩) hzb).trans (by simp [go_sem])
  have z3 : w1.frozen? ⟨w.heap.size, 1, none⟩ = false := (World.frozen?_of_block (a := ⟨w.heap.size, 1, none⟩) hzb).trans (by simp [go_sem])
  have HG1 : Hid (Gl w1) := HG.out.kept hR hk
  have HK : Hid (Kept R none w w1) := (Kept.of_below hb0).trans hk
  have HR : Hid (RS R r b w1) := hr
  have hs1 : w.heap.size < w1.heap.size := World.block_lt_of_cell? _ _ z0
  clear hk hr hzb HN HG
  cases ha : atWord x typeWs 0 with
  | none =>
    have HT : Hid (Calls Tryz.prog 121 #[.string x] w1 fun e w' => e = .returned (.tuple #[.int .i64 0, .bool false]) ∧ w' = w1) := by
      have := typeKindOf_any x w1 HG1.out
      rw [ha] at this
      exact this
    have HO : Hid (readTy (n + 1) (x :: r) = none) := by show _ = _; rw [HX.out, ha]; rfl
    have HF : Hid (Calls Tryz.prog 82 #[.pointer (some ⟨R, 0, none⟩)] w1 fun e w' => e = .returned (.tuple #[]) ∧ RS R [] true w' ∧ Kept R none w1 w') := fail_any R r b w1 HR.out
    clear ha HX HG1
    go_wp2_with fail
    refine HT.out.mono ?_
    rintro e w2 ⟨rfl, rfl⟩
    go_wp2_with fail
    refine HF.out.mono ?_
    rintro e w3 ⟨rfl, hr3, hk3⟩
    have hne : w.heap.size ≠ R := by omega
    have y0 := hk3.cell z0 hne
    have y1 := hk3.cell z1 hne
    have hyb := hk3.block w.heap.size hs1 hne (by simp)
    have y2 := (World.frozen?_of_block (a := ⟨w.heap.size, 0, none⟩) hyb).trans z2
    have y3 := (World.frozen?_of_block (a := ⟨w.heap.size, 1, none⟩) hyb).trans z3
    have HR3 : Hid (RS R [] true w3 ∧ Kept R none w w3) := ⟨hr3, HK.out.trans hk3⟩
    clear hr3 hk3 hyb z0 z1 z2 z3 HF HT HR HK
    go_wp2_with fail
    refine bodyPost_ret (v := .agg #[.int .i64 0, .slice none 0 0]) ?_ rfl ⟨leaf 0, rfl, leaf_in _ _, leaf_bl _ _, ?_, ?_, ?_⟩
    · have hc := set_two (u := .int .i64 0) (v := .slice none 0 0) y0 y1
      simp [results, Tryz.results84, go_sem, hc.1, hc.2]
    · exact kept_set2 HR3.out.2 (Nat.le_refl _)
    · exact .inr ⟨by rw [HO.out]; rfl, HR3.out.1.set2 (by omega)⟩
    · intro p hp; rw [HO.out] at hp; cases hp
  | some k =>
    have HT : Hid (Calls Tryz.prog 121 #[.string x] w1 fun e w' => e = .returned (.tuple #[.int .i64 (k : Int), .bool true]) ∧ w' = w1) := by
      have := typeKindOf_any x w1 HG1.out
      rw [ha] at this
      exact this
    have HO : Hid (readTy (n + 1) (x :: r) = some (⟨(k : Int), []⟩, r)) := by show _ = _; rw [HX.out, ha]; rfl
    clear ha HX HG1
    go_wp2_with fail
    refine HT.out.mono ?_
    rintro e w2 ⟨rfl, rfl⟩
    go_wp2_with fail
    refine bodyPost_ret (v := .agg #[.int .i64 (k : Int), .slice none 0 0]) ?_ rfl ⟨leaf (k : Int), rfl, leaf_in _ _, leaf_bl _ _, ?_, ?_, ?_⟩
    · have hc := set_two (u := .int .i64 (k : Int)) (v := .slice none 0 0) z0 z1
      simp [results, Tryz.results84, go_sem, hc.1, hc.2]
    · exact kept_set2 HK.out (Nat.le_refl _)
    · exact .inl ⟨r, by rw [HO.out]; rfl, HR.out.set2 (by omega)⟩
    · intro p hp; rw [HO.out] at hp; cases hp; simp [leaf, Tr.ty_mk]
end Go.Proofs.YtnddkmccagiclaaGreatDoor
