/-
  What the call of check's Check answers.
-/
import Derived.Test.YtnddkmccagiclaaDoorLot04b9c67ac6
import Derived.Test.YtnddkmccagiclaaDoorLote5d78291b2
import Derived.Deep.DeepCutAuto
import Derived.Test.YtnddkmccagiclaaDoorLot674b6fc84c
import Derived.Test.YtnddkmccagiclaaDoorLote54be471a2
namespace Go.Proofs.YtnddkmccagiclaaDoor
open Go.RowKit
/-- read. -/
theorem read_any (R : Nat) : ∀ (m : Nat) (Q : Nat → Prop) (x : TT) (c : Nat) (T : Tr) (w : World), x.sz ≤ m → RdPre Q R x c T w →
    Calls Tryd.prog 38 #[.pointer (some ⟨R, 0, none⟩), .agg #[.int .i64 x.k, .int .i64 x.n, .int .i64 x.t.k, .slice x.t.a x.t.l.length x.t.c, .int .i64 x.f.k, .slice x.f.a x.f.l.length x.f.c, .slice x.a x.l.length x.c], .slice T.a T.l.length T.c] w (RdPost Q R x c (T.l.map Tr.ty) w) := by
  intro m
  induction m with
  | zero => intro Q x c T w h _; have := x.sz_pos; omega
  | succ m ih =>
    intro Q x c T w h hp
    refine read_step Q R x c T w hp fun y hy Q' c' T' W hp' => ih Q' y c' T' W ?_ hp'
    have h1 := x.sz_eq
    have h2 : y.sz ≤ (x.l.map TT.sz).sum := by
      have := sz_mem (x.l.map TT.tm) y.tm (List.mem_map.2 ⟨y, hy, rfl⟩)
      rw [sz_map, ← y.sz_tm] at this
      exact this
    omega
def ty0 : Value := .agg #[.int .i64 0, .slice none 0 0]
/-- What Check answers. -/
def CkPost (x : TT) (w : World) (e : Ending) (w' : World) : Prop :=
  Below w.heap.size w w' ∧ ((goodM 0 x.tm = false ∧ e = .returned (.tuple #[.agg #[.int .i64 0, .int .i64 0, .int .i64 0, .slice none 0 0, .int .i64 0, .slice none 0 0, .slice none 0 0], .agg #[.int .i64 0, .slice none 0 0], .int .i64 1])) ∨
    (goodM 0 x.tm = true ∧ readS x.tm [] 0 = none ∧ e = .returned (.tuple #[.agg #[.int .i64 0, .int .i64 0, .int .i64 0, .slice none 0 0, .int .i64 0, .slice none 0 0, .slice none 0 0], .agg #[.int .i64 0, .slice none 0 0], .int .i64 2])) ∨
    (goodM 0 x.tm = true ∧ ∃ (y : TT) (i : Tr), readS x.tm [] 0 = some (y.tm, i.ty) ∧ e = .returned (.tuple #[.agg #[.int .i64 y.k, .int .i64 y.n, .int .i64 y.t.k, .slice y.t.a y.t.l.length y.t.c, .int .i64 y.f.k, .slice y.f.a y.f.l.length y.f.c, .slice y.a y.l.length y.c], .agg #[.int .i64 i.k, .slice i.a i.l.length i.c], .int .i64 0]) ∧ y.In w' ∧ i.In w' ∧ goodT 44 i = true))
/-- The frame of Check: the term's box, the places of its answers. -/
structure CF (H : Nat) (x : TT) (W : World) : Prop where
  at7 : At7 W H 0 x
  z : ZB7 W (H + 1)
  u0 : W.cell? ⟨H + 1 + 1, 0, none⟩ = some (.int .i64 0)
  u1 : W.cell? ⟨H + 1 + 1, 1, none⟩ = some (.slice none 0 0)
  g0 : W.frozen? ⟨H + 1 + 1, 0, none⟩ = false
  g1 : W.frozen? ⟨H + 1 + 1, 1, none⟩ = false
theorem CF.lt {H : Nat} {x : TT} {W : World} (h : CF H x W) : H + 1 + 1 < W.heap.size := World.block_lt_of_cell? _ _ h.u0
theorem CF.below {H : Nat} {x : TT} {W W' : World} (h : CF H x W) (hb : Below W.heap.size W W') : CF H x W' :=
  ⟨h.at7.below hb, h.z.later hb, cell_later hb h.u0, cell_later hb h.u1, (hb.frozen (p := ⟨H + 1 + 1, 0, none⟩) h.lt).trans h.g0, (hb.frozen (p := ⟨H + 1 + 1, 1, none⟩) h.lt).trans h.g1⟩
theorem ZB7.low {V w : World} {b B : Nat} (hb : Below B V w) (hB : b < B) (h : ZB7 V b) : ZB7 w b := by
  obtain ⟨⟨h0, h1, h2, h3, h4, h5, h6⟩, f0, f1, f2, f3, f4, f5, f6⟩ := h
  have c : ∀ i, w.cell? ⟨b, i, none⟩ = V.cell? ⟨b, i, none⟩ := fun i => hb.cell (p := ⟨b, i, none⟩) hB
  have f : ∀ i, w.frozen? ⟨b, i, none⟩ = V.frozen? ⟨b, i, none⟩ := fun i => hb.frozen (p := ⟨b, i, none⟩) hB
  exact ⟨⟨(c 0).trans h0, (c 1).trans h1, (c 2).trans h2, (c 3).trans h3, (c 4).trans h4, (c 5).trans h5, (c 6).trans h6⟩, (f 0).trans f0, (f 1).trans f1, (f 2).trans f2, (f 3).trans f3, (f 4).trans f4, (f 5).trans f5, (f 6).trans f6⟩
theorem CF.low {H B : Nat} {x : TT} {W W' : World} (h : CF H x W) (hb : Below B W W') (hB : H + 1 + 1 < B) : CF H x W' :=
  ⟨h.at7.of fun i => hb.cell (p := ⟨H, i, none⟩) (show H < B by omega), h.z.low hb (by omega), (hb.cell (p := ⟨H + 1 + 1, 0, none⟩) hB).trans h.u0, (hb.cell (p := ⟨H + 1 + 1, 1, none⟩) hB).trans h.u1, (hb.frozen (p := ⟨H + 1 + 1, 0, none⟩) hB).trans h.g0, (hb.frozen (p := ⟨H + 1 + 1, 1, none⟩) hB).trans h.g1⟩
theorem CF.start (x : TT) (w : World) : CF w.heap.size x (((w.alloc (.cells #[.int .i64 x.k, .int .i64 x.n, .int .i64 x.t.k, .slice x.t.a x.t.l.length x.t.c, .int .i64 x.f.k, .slice x.f.a x.f.l.length x.f.c, .slice x.a x.l.length x.c] 27)).alloc (.cells #[.int .i64 0, .int .i64 0, .int .i64 0, .slice none 0 0, .int .i64 0, .slice none 0 0, .slice none 0 0] 27)).alloc (.cells #[.int .i64 0, .slice none 0 0] 24)) := by
  refine ⟨⟨?_, ?_, ?_, ?_, ?_, ?_, ?_⟩, ⟨⟨?_, ?_, ?_, ?_, ?_, ?_, ?_⟩, ?_, ?_, ?_, ?_, ?_, ?_, ?_⟩, ?_, ?_, ?_, ?_⟩ <;> simp [go_sem]
def ckEnd (W : World) (H : Nat) (y : TT) (i : Tr) : World := ((put7 W (H + 1) y).setCell ⟨H + 1 + 1, 0, none⟩ (.int .i64 i.k)).setCell ⟨H + 1 + 1, 1, none⟩ (.slice i.a i.l.length i.c)
theorem ckEnd_below (W : World) (H : Nat) (y : TT) (i : Tr) (h : H + 1 + 1 < W.heap.size) : Below H W (ckEnd W H y i) :=
  (((put7_kept (w := W) (J := H + 1) (x := y)).below (by simp) (by omega)).mono (by omega)).trans (((Below.refl _ _).setCell (by show H ≤ H + 1 + 1; omega) _).setCell (by show H ≤ H + 1 + 1; omega) _)
theorem CF.ends {H : Nat} {x : TT} {W : World} (h : CF H x W) (y : TT) (i : Tr) :
    (ckEnd W H y i).cell? ⟨H + 1, 0, none⟩ = some (.int .i64 y.k) ∧ (ckEnd W H y i).cell? ⟨H + 1, 1, none⟩ = some (.int .i64 y.n) ∧ (ckEnd W H y i).cell? ⟨H + 1, 2, none⟩ = some (.int .i64 y.t.k) ∧ (ckEnd W H y i).cell? ⟨H + 1, 3, none⟩ = some (.slice y.t.a y.t.l.length y.t.c) ∧ (ckEnd W H y i).cell? ⟨H + 1, 4, none⟩ = some (.int .i64 y.f.k) ∧ (ckEnd W H y i).cell? ⟨H + 1, 5, none⟩ = some (.slice y.f.a y.f.l.length y.f.c) ∧ (ckEnd W H y i).cell? ⟨H + 1, 6, none⟩ = some (.slice y.a y.l.length y.c) ∧ (ckEnd W H y i).cell? ⟨H + 1 + 1, 0, none⟩ = some (.int .i64 i.k) ∧ (ckEnd W H y i).cell? ⟨H + 1 + 1, 1, none⟩ = some (.slice i.a i.l.length i.c) := by
  have h7 := (put7_box (x := y) h.z.box).at7
  have hk : Kept (H + 1 + 1) none (put7 W (H + 1) y) (ckEnd W H y i) := setR_kept.trans setR_kept
  have h8 := h7.keptR hk (by omega)
  obtain ⟨c0, c1, c2, c3, c4, c5, c6⟩ := h8
  simp only [Nat.zero_add] at c0 c1 c2 c3 c4 c5 c6
  have p0 := (put7_kept (w := W) (J := H + 1) (x := y)).cell h.u0 (by omega)
  have p1 := (put7_kept (w := W) (J := H + 1) (x := y)).cell h.u1 (by omega)
  refine ⟨c0, c1, c2, c3, c4, c5, c6, ?_, ?_⟩
  · simpa [ckEnd] using set_get (j := 1) (v := .slice i.a i.l.length i.c) (set_get (j := 0) (v := .int .i64 i.k) p0)
  · simpa [ckEnd] using set_get (j := 1) (v := .slice i.a i.l.length i.c) (set_get (j := 0) (v := .int .i64 i.k) p1)
set_option maxRecDepth 20000 in
set_option maxHeartbeats 8000000 in
/-- Check. -/
theorem check_any (x : TT) (w : World) (hg : Gp w) (hx : x.In w) (hnb : x.nb) : Calls Tryd.prog 13 #[.agg #[.int .i64 x.k, .int .i64 x.n, .int .i64 x.t.k, .slice x.t.a x.t.l.length x.t.c, .int .i64 x.f.k, .slice x.f.a x.f.l.length x.f.c, .slice x.a x.l.length x.c]] w (CkPost x w) := by
  have hst := CF.start x w
  obtain ⟨W1, hW1⟩ : ∃ W1, W1 = (((w.alloc (.cells #[.int .i64 x.k, .int .i64 x.n, .int .i64 x.t.k, .slice x.t.a x.t.l.length x.t.c, .int .i64 x.f.k, .slice x.f.a x.f.l.length x.f.c, .slice x.a x.l.length x.c] 27)).alloc (.cells #[.int .i64 0, .int .i64 0, .int .i64 0, .slice none 0 0, .int .i64 0, .slice none 0 0, .slice none 0 0] 27)).alloc (.cells #[.int .i64 0, .slice none 0 0] 24)) := ⟨_, rfl⟩
  have hb1 : Below w.heap.size w W1 := by rw [hW1]; exact (((Below.refl _ _).alloc (Nat.le_refl _) _).alloc (by simp) _).alloc (by simp; omega) _
  rw [← hW1] at hst
  obtain ⟨gd, hgd⟩ : ∃ gd, goodM 0 x.tm = gd := ⟨_, rfl⟩
  have HG : Hid (Calls Tryd.prog 32 #[.agg #[.int .i64 x.k, .int .i64 x.n, .int .i64 x.t.k, .slice x.t.a x.t.l.length x.t.c, .int .i64 x.f.k, .slice x.f.a x.f.l.length x.f.c, .slice x.a x.l.length x.c], .int .i64 0] W1 fun e w' => e = .returned (.bool gd) ∧ Below W1.heap.size W1 w') := by
    have := goodTm_any x 0 W1 (hg.below hb1) (hx.below hb1) hnb
    rw [hgd] at this
    exact this
  have HX : Hid (x.In w ∧ goodM 0 x.tm = gd ∧ Below w.heap.size w W1 ∧ CF w.heap.size x W1) := ⟨hx, hgd, hb1, hst⟩
  obtain ⟨p0, p1, p2, p3, p4, p5, p6⟩ := hst.at7
  simp only [Nat.zero_add] at p0 p1 p2 p3 p4 p5 p6
  clear hg hx hnb hst hgd hb1
  go_enter Tryd.func13, Tryd.ntmps13
  go_wp2_with fail
  rw [← hW1]
  refine HG.out.mono ?_
  rintro e w2 ⟨rfl, hb2⟩
  have hcf : CF w.heap.size x w2 := HX.out.2.2.2.below hb2
  have hbw : Below w.heap.size w w2 := HX.out.2.2.1.trans (hb2.mono HX.out.2.2.1.size)
  have HX2 : Hid (x.In w ∧ goodM 0 x.tm = gd) := ⟨HX.out.1, HX.out.2.1⟩
  clear p0 p1 p2 p3 p4 p5 p6 HG HX hb2 hW1
  cases gd
  · have HN : Hid (CkPost x w (.returned (.tuple #[.agg #[.int .i64 0, .int .i64 0, .int .i64 0, .slice none 0 0, .int .i64 0, .slice none 0 0, .slice none 0 0], .agg #[.int .i64 0, .slice none 0 0], .int .i64 1])) (ckEnd w2 w.heap.size (tleaf 0 0) (leaf 0))) := ⟨hbw.trans ((ckEnd_below w2 w.heap.size (tleaf 0 0) (leaf 0) hcf.lt).mono (Nat.le_refl _)), .inl ⟨HX2.out.2, rfl⟩⟩
    obtain ⟨e0, e1, e2, e3, e4, e5, e6, e7, e8⟩ := hcf.ends (tleaf 0 0) (leaf 0)
    obtain ⟨_, ⟨⟨y0, y1, y2, y3, y4, y5, y6⟩, f0, f1, f2, f3, f4, f5, f6⟩, u0, u1, g0, g1⟩ := hcf
    clear hbw
    go_wp2_with fail
    refine bodyPost_ret (v := .tuple #[.agg #[.int .i64 0, .int .i64 0, .int .i64 0, .slice none 0 0, .int .i64 0, .slice none 0 0, .slice none 0 0], .agg #[.int .i64 0, .slice none 0 0], .int .i64 1]) ?_ rfl HN.out
    unfold ckEnd put7 at e0 e1 e2 e3 e4 e5 e6 e7 e8
    simp only [tleaf, leaf, List.length_nil] at e0 e1 e2 e3 e4 e5 e6 e7 e8
    simp [results, Tryd.results13, go_sem, e0, e1, e2, e3, e4, e5, e6, e7, e8]
  · obtain ⟨hok, hsz⟩ := goodM_ok HX2.out.2
    have hlt := hcf.lt
    have hbR : Below w2.heap.size w2 (w2.alloc (.cells #[.int .i64 0] 67)) := (Below.refl _ _).alloc (Nat.le_refl _) _
    have hbwR := hbw.trans (hbR.mono hbw.size)
    have hxsz : x.sz ≤ 40 := by rw [x.sz_tm]; exact hsz
    have HC : Hid (Calls Tryd.prog 38 #[.pointer (some ⟨w2.heap.size, 0, none⟩), .agg #[.int .i64 x.k, .int .i64 x.n, .int .i64 x.t.k, .slice x.t.a x.t.l.length x.t.c, .int .i64 x.f.k, .slice x.f.a x.f.l.length x.f.c, .slice x.a x.l.length x.c], .slice none 0 0] (w2.alloc (.cells #[.int .i64 0] 67)) (RdPost (fun b => b ≠ w2.heap.size ∧ b ≠ w.heap.size + 1 ∧ b ≠ w.heap.size + 1 + 1) w2.heap.size x 0 [] (w2.alloc (.cells #[.int .i64 0] 67)))) := by
      refine read_any w2.heap.size 900 _ x 0 (leaf 0) _ (by omega) ⟨hok, fun t h => (by cases h), ⟨by omega, by simp [leaf]; omega⟩, HX2.out.1.below hbwR, leaf_in _ _, ⟨by simp [go_sem], by simp [go_sem]⟩, HX2.out.1.bl.mono fun b hb => ⟨by omega, by omega, by omega⟩, leaf_bl _ _, fun b hb => ?_, fun b hb => hb.1⟩
      simp only [World.size_alloc] at hb
      exact ⟨by omega, by omega, by omega⟩
    have HB : Hid (Below w.heap.size w (w2.alloc (.cells #[.int .i64 0] 67)) ∧ CF w.heap.size x (w2.alloc (.cells #[.int .i64 0] 67)) ∧ x.sz ≤ 40 ∧ okTm x.tm 0) := ⟨hbwR, hcf.below hbR, hxsz, hok⟩
    obtain ⟨p0, p1, p2, p3, p4, p5, p6⟩ := hcf.at7
    simp only [Nat.zero_add] at p0 p1 p2 p3 p4 p5 p6
    obtain ⟨q0, q1, q2, q3, q4, q5, q6⟩ := (hcf.below hbR).at7
    simp only [Nat.zero_add] at q0 q1 q2 q3 q4 q5 q6
    clear hok hsz hbwR hxsz hbw hbR hcf
    go_wp2_with fail
    refine HC.out.mono ?_
    rintro e w3 ⟨hk3, ⟨hno, rfl⟩ | ⟨r, hyes, rfl, hn, hyi, hii, hyb, hib, hcs⟩⟩
    · have hbk : Below w2.heap.size (w2.alloc (.cells #[.int .i64 0] 67)) w3 := hk3.below (by simp) (by simp)
      have hb3 : Below w.heap.size w w3 := HB.out.1.trans (hbk.mono (by omega))
      have hA : Below w3.heap.size w3 (w3.alloc (.cells #[.int .i64 0, .int .i64 0, .int .i64 0, .int .i64 0, .slice none 0 0, .int .i64 0, .slice none 0 0, .slice none 0 0, .int .i64 0, .slice none 0 0] 63)) := (Below.refl _ _).alloc (Nat.le_refl _) _
      have hb4 : Below w.heap.size w (w3.alloc (.cells #[.int .i64 0, .int .i64 0, .int .i64 0, .int .i64 0, .slice none 0 0, .int .i64 0, .slice none 0 0, .slice none 0 0, .int .i64 0, .slice none 0 0] 63)) := hb3.trans (hA.mono hb3.size)
      have hcf : CF w.heap.size x (w3.alloc (.cells #[.int .i64 0, .int .i64 0, .int .i64 0, .int .i64 0, .slice none 0 0, .int .i64 0, .slice none 0 0, .slice none 0 0, .int .i64 0, .slice none 0 0] 63)) := (HB.out.2.1.low hbk hlt).below hA
      obtain ⟨W4, hW4⟩ : ∃ W4, W4 = (w3.alloc (.cells #[.int .i64 0, .int .i64 0, .int .i64 0, .int .i64 0, .slice none 0 0, .int .i64 0, .slice none 0 0, .slice none 0 0, .int .i64 0, .slice none 0 0] 63)) := ⟨_, rfl⟩
      rw [← hW4] at hb4 hcf
      have HN : Hid (CkPost x w (.returned (.tuple #[.agg #[.int .i64 0, .int .i64 0, .int .i64 0, .slice none 0 0, .int .i64 0, .slice none 0 0, .slice none 0 0], .agg #[.int .i64 0, .slice none 0 0], .int .i64 2])) (ckEnd W4 w.heap.size (tleaf 0 0) (leaf 0))) := ⟨hb4.trans ((ckEnd_below W4 w.heap.size (tleaf 0 0) (leaf 0) hcf.lt).mono (Nat.le_refl _)), .inr (.inl ⟨HX2.out.2, hno, rfl⟩)⟩
      obtain ⟨e0, e1, e2, e3, e4, e5, e6, e7, e8⟩ := hcf.ends (tleaf 0 0) (leaf 0)
      obtain ⟨_, ⟨⟨y0, y1, y2, y3, y4, y5, y6⟩, f0, f1, f2, f3, f4, f5, f6⟩, u0, u1, g0, g1⟩ := hcf
      clear hb4 hb3 hbk hk3 hno hA HC HB p0 p1 p2 p3 p4 p5 p6 q0 q1 q2 q3 q4 q5 q6
      subst hW4
      go_wp2_with fail
      refine bodyPost_ret (v := .tuple #[.agg #[.int .i64 0, .int .i64 0, .int .i64 0, .slice none 0 0, .int .i64 0, .slice none 0 0, .slice none 0 0], .agg #[.int .i64 0, .slice none 0 0], .int .i64 2]) ?_ rfl HN.out
      unfold ckEnd put7 at e0 e1 e2 e3 e4 e5 e6 e7 e8
      simp only [tleaf, leaf, List.length_nil] at e0 e1 e2 e3 e4 e5 e6 e7 e8
      simp [results, Tryd.results13, go_sem, e0, e1, e2, e3, e4, e5, e6, e7, e8]
    · obtain ⟨OR, hOR⟩ : ∃ O, O = Obj.cells #[.int .i64 r.n, .int .i64 r.y.k, .int .i64 r.y.n, .int .i64 r.y.t.k, .slice r.y.t.a r.y.t.l.length r.y.t.c, .int .i64 r.y.f.k, .slice r.y.f.a r.y.f.l.length r.y.f.c, .slice r.y.a r.y.l.length r.y.c, .int .i64 r.i.k, .slice r.i.a r.i.l.length r.i.c] 63 := ⟨_, rfl⟩
      have hbk : Below w2.heap.size (w2.alloc (.cells #[.int .i64 0] 67)) w3 := hk3.below (by simp) (by simp)
      have hb3 : Below w.heap.size w w3 := HB.out.1.trans (hbk.mono (by omega))
      have hA : Below w3.heap.size w3 (w3.alloc OR) := (Below.refl _ _).alloc (Nat.le_refl _) _
      have hb4 : Below w.heap.size w (w3.alloc OR) := hb3.trans (hA.mono hb3.size)
      have hcf : CF w.heap.size x (w3.alloc OR) := (HB.out.2.1.low hbk hlt).below hA
      have hg44 : goodT 44 r.i = true := by
        rw [goodT_eq]
        have := read_good x.tm [] 0 r.y.tm r.i.ty HB.out.2.2.2 (fun u h => by cases h) hyes
        have h40 := HB.out.2.2.1
        rw [x.sz_tm] at h40
        exact goodY_more _ 44 _ (by omega) this
      have hgf := good_facts (n := 44) (by omega) hg44
      have hS0 : (w3.alloc OR).cell? ⟨w3.heap.size, 1, none⟩ = some (.int .i64 r.y.k) ∧ (w3.alloc OR).cell? ⟨w3.heap.size, 2, none⟩ = some (.int .i64 r.y.n) ∧ (w3.alloc OR).cell? ⟨w3.heap.size, 3, none⟩ = some (.int .i64 r.y.t.k) ∧ (w3.alloc OR).cell? ⟨w3.heap.size, 4, none⟩ = some (.slice r.y.t.a r.y.t.l.length r.y.t.c) ∧ (w3.alloc OR).cell? ⟨w3.heap.size, 5, none⟩ = some (.int .i64 r.y.f.k) ∧ (w3.alloc OR).cell? ⟨w3.heap.size, 6, none⟩ = some (.slice r.y.f.a r.y.f.l.length r.y.f.c) ∧ (w3.alloc OR).cell? ⟨w3.heap.size, 7, none⟩ = some (.slice r.y.a r.y.l.length r.y.c) ∧ (w3.alloc OR).cell? ⟨w3.heap.size, 8, none⟩ = some (.int .i64 r.i.k) ∧ (w3.alloc OR).cell? ⟨w3.heap.size, 9, none⟩ = some (.slice r.i.a r.i.l.length r.i.c) := by
        subst hOR
        refine ⟨?_, ?_, ?_, ?_, ?_, ?_, ?_, ?_, ?_⟩ <;> simp [go_sem]
      have hlt4 : w.heap.size + 1 + 1 < w3.heap.size := Nat.lt_of_lt_of_le hlt (by have := hbk.size; simp at this; omega)
      obtain ⟨WB, hWB⟩ : ∃ WB, WB = w3.alloc OR := ⟨_, rfl⟩
      rw [← hWB] at hA hb4 hcf hS0
      have HS : Hid (∀ W', Below WB.heap.size WB W' → W'.cell? ⟨w3.heap.size, 1, none⟩ = some (.int .i64 r.y.k) ∧ W'.cell? ⟨w3.heap.size, 2, none⟩ = some (.int .i64 r.y.n) ∧ W'.cell? ⟨w3.heap.size, 3, none⟩ = some (.int .i64 r.y.t.k) ∧ W'.cell? ⟨w3.heap.size, 4, none⟩ = some (.slice r.y.t.a r.y.t.l.length r.y.t.c) ∧ W'.cell? ⟨w3.heap.size, 5, none⟩ = some (.int .i64 r.y.f.k) ∧ W'.cell? ⟨w3.heap.size, 6, none⟩ = some (.slice r.y.f.a r.y.f.l.length r.y.f.c) ∧ W'.cell? ⟨w3.heap.size, 7, none⟩ = some (.slice r.y.a r.y.l.length r.y.c) ∧ W'.cell? ⟨w3.heap.size, 8, none⟩ = some (.int .i64 r.i.k) ∧ W'.cell? ⟨w3.heap.size, 9, none⟩ = some (.slice r.i.a r.i.l.length r.i.c)) := by
        intro W' hb
        obtain ⟨h1, h2, h3, h4, h5, h6, h7, h8, h9⟩ := hS0
        exact ⟨cell_later hb h1, cell_later hb h2, cell_later hb h3, cell_later hb h4, cell_later hb h5, cell_later hb h6, cell_later hb h7, cell_later hb h8, cell_later hb h9⟩
      have H39 : Hid (Calls Tryd.prog 39 #[.agg #[.int .i64 r.i.k, .slice r.i.a r.i.l.length r.i.c]] WB.drew fun e wE => ∃ t : Tr, e = .returned (.agg #[.int .i64 t.k, .slice t.a t.l.length t.c]) ∧ Hid (t.ty = r.i.ty ∧ t.In wE ∧ t.Bl (WB.heap.size ≤ ·)) ∧ Below WB.heap.size WB wE ∧ CF w.heap.size x wE) := by
        refine (fresh_any r.i WB.drew ((hii.below hA).below ((Below.refl _ _).drew)) hgf.1 hgf.2.1).mono ?_
        rintro e wE ⟨t, rfl, h1, h2, h3, h4⟩
        have h5 : Below WB.heap.size WB wE := ((Below.refl _ _).drew).trans (h4.mono (Nat.le_refl _))
        exact ⟨t, rfl, ⟨h1, h2, h3⟩, h5, hcf.below h5⟩
      have HD : Hid (Below w.heap.size w WB ∧ r.y.In WB ∧ r.y.Bl (fun b => b ≠ w2.heap.size ∧ b ≠ w.heap.size + 1 ∧ b ≠ w.heap.size + 1 + 1) ∧ goodT 44 r.i = true ∧ readS x.tm [] 0 = some (r.y.tm, r.i.ty) ∧ w.heap.size + 1 + 1 < WB.heap.size) := ⟨hb4, hyi.below hA, hyb, hg44, hyes, hcf.lt⟩
      have hS1 : WB.drew.cell? ⟨w3.heap.size, 1, none⟩ = some (.int .i64 r.y.k) ∧ WB.drew.cell? ⟨w3.heap.size, 2, none⟩ = some (.int .i64 r.y.n) ∧ WB.drew.cell? ⟨w3.heap.size, 3, none⟩ = some (.int .i64 r.y.t.k) ∧ WB.drew.cell? ⟨w3.heap.size, 4, none⟩ = some (.slice r.y.t.a r.y.t.l.length r.y.t.c) ∧ WB.drew.cell? ⟨w3.heap.size, 5, none⟩ = some (.int .i64 r.y.f.k) ∧ WB.drew.cell? ⟨w3.heap.size, 6, none⟩ = some (.slice r.y.f.a r.y.f.l.length r.y.f.c) ∧ WB.drew.cell? ⟨w3.heap.size, 7, none⟩ = some (.slice r.y.a r.y.l.length r.y.c) ∧ WB.drew.cell? ⟨w3.heap.size, 8, none⟩ = some (.int .i64 r.i.k) ∧ WB.drew.cell? ⟨w3.heap.size, 9, none⟩ = some (.slice r.i.a r.i.l.length r.i.c) := HS.out _ ((Below.refl _ _).drew)
      have HS1 : Hid (WB.drew.cell? ⟨w3.heap.size, 1, none⟩ = some (.int .i64 r.y.k) ∧ WB.drew.cell? ⟨w3.heap.size, 2, none⟩ = some (.int .i64 r.y.n) ∧ WB.drew.cell? ⟨w3.heap.size, 3, none⟩ = some (.int .i64 r.y.t.k) ∧ WB.drew.cell? ⟨w3.heap.size, 4, none⟩ = some (.slice r.y.t.a r.y.t.l.length r.y.t.c) ∧ WB.drew.cell? ⟨w3.heap.size, 5, none⟩ = some (.int .i64 r.y.f.k) ∧ WB.drew.cell? ⟨w3.heap.size, 6, none⟩ = some (.slice r.y.f.a r.y.f.l.length r.y.f.c) ∧ WB.drew.cell? ⟨w3.heap.size, 7, none⟩ = some (.slice r.y.a r.y.l.length r.y.c) ∧ WB.drew.cell? ⟨w3.heap.size, 8, none⟩ = some (.int .i64 r.i.k) ∧ WB.drew.cell? ⟨w3.heap.size, 9, none⟩ = some (.slice r.i.a r.i.l.length r.i.c)) := hS1
      clear hbk hb3 hA hb4 hcf hg44 hgf hS1 hn hyi hii hyb hib hcs hyes hk3 HC HB p0 p1 p2 p3 p4 p5 p6 q0 q1 q2 q3 q4 q5 q6 hlt
      subst hOR
      go_upto_region 6 with fail
      rw [← hWB]
      have HS0 : Hid (WB.cell? ⟨w3.heap.size, 1, none⟩ = some (.int .i64 r.y.k) ∧ WB.cell? ⟨w3.heap.size, 2, none⟩ = some (.int .i64 r.y.n) ∧ WB.cell? ⟨w3.heap.size, 3, none⟩ = some (.int .i64 r.y.t.k) ∧ WB.cell? ⟨w3.heap.size, 4, none⟩ = some (.slice r.y.t.a r.y.t.l.length r.y.t.c) ∧ WB.cell? ⟨w3.heap.size, 5, none⟩ = some (.int .i64 r.y.f.k) ∧ WB.cell? ⟨w3.heap.size, 6, none⟩ = some (.slice r.y.f.a r.y.f.l.length r.y.f.c) ∧ WB.cell? ⟨w3.heap.size, 7, none⟩ = some (.slice r.y.a r.y.l.length r.y.c) ∧ WB.cell? ⟨w3.heap.size, 8, none⟩ = some (.int .i64 r.i.k) ∧ WB.cell? ⟨w3.heap.size, 9, none⟩ = some (.slice r.i.a r.i.l.length r.i.c)) := hS0
      have HSP7 : Hid (∀ (W' : World) (a0 a1 a2 a3 a4 a5 a6 : Value), (W'.cell? ⟨w3.heap.size, 1, none⟩ = some (.int .i64 r.y.k) ∧ W'.cell? ⟨w3.heap.size, 2, none⟩ = some (.int .i64 r.y.n) ∧ W'.cell? ⟨w3.heap.size, 3, none⟩ = some (.int .i64 r.y.t.k) ∧ W'.cell? ⟨w3.heap.size, 4, none⟩ = some (.slice r.y.t.a r.y.t.l.length r.y.t.c) ∧ W'.cell? ⟨w3.heap.size, 5, none⟩ = some (.int .i64 r.y.f.k) ∧ W'.cell? ⟨w3.heap.size, 6, none⟩ = some (.slice r.y.f.a r.y.f.l.length r.y.f.c) ∧ W'.cell? ⟨w3.heap.size, 7, none⟩ = some (.slice r.y.a r.y.l.length r.y.c) ∧ W'.cell? ⟨w3.heap.size, 8, none⟩ = some (.int .i64 r.i.k) ∧ W'.cell? ⟨w3.heap.size, 9, none⟩ = some (.slice r.i.a r.i.l.length r.i.c)) → (((((((W'.setCell ⟨w.heap.size + 1, 0, none⟩ a0).setCell ⟨w.heap.size + 1, 1, none⟩ a1).setCell ⟨w.heap.size + 1, 2, none⟩ a2).setCell ⟨w.heap.size + 1, 3, none⟩ a3).setCell ⟨w.heap.size + 1, 4, none⟩ a4).setCell ⟨w.heap.size + 1, 5, none⟩ a5).setCell ⟨w.heap.size + 1, 6, none⟩ a6).cell? ⟨w3.heap.size, 1, none⟩ = some (.int .i64 r.y.k) ∧ (((((((W'.setCell ⟨w.heap.size + 1, 0, none⟩ a0).setCell ⟨w.heap.size + 1, 1, none⟩ a1).setCell ⟨w.heap.size + 1, 2, none⟩ a2).setCell ⟨w.heap.size + 1, 3, none⟩ a3).setCell ⟨w.heap.size + 1, 4, none⟩ a4).setCell ⟨w.heap.size + 1, 5, none⟩ a5).setCell ⟨w.heap.size + 1, 6, none⟩ a6).cell? ⟨w3.heap.size, 2, none⟩ = some (.int .i64 r.y.n) ∧ (((((((W'.setCell ⟨w.heap.size + 1, 0, none⟩ a0).setCell ⟨w.heap.size + 1, 1, none⟩ a1).setCell ⟨w.heap.size + 1, 2, none⟩ a2).setCell ⟨w.heap.size + 1, 3, none⟩ a3).setCell ⟨w.heap.size + 1, 4, none⟩ a4).setCell ⟨w.heap.size + 1, 5, none⟩ a5).setCell ⟨w.heap.size + 1, 6, none⟩ a6).cell? ⟨w3.heap.size, 3, none⟩ = some (.int .i64 r.y.t.k) ∧ (((((((W'.setCell ⟨w.heap.size + 1, 0, none⟩ a0).setCell ⟨w.heap.size + 1, 1, none⟩ a1).setCell ⟨w.heap.size + 1, 2, none⟩ a2).setCell ⟨w.heap.size + 1, 3, none⟩ a3).setCell ⟨w.heap.size + 1, 4, none⟩ a4).setCell ⟨w.heap.size + 1, 5, none⟩ a5).setCell ⟨w.heap.size + 1, 6, none⟩ a6).cell? ⟨w3.heap.size, 4, none⟩ = some (.slice r.y.t.a r.y.t.l.length r.y.t.c) ∧ (((((((W'.setCell ⟨w.heap.size + 1, 0, none⟩ a0).setCell ⟨w.heap.size + 1, 1, none⟩ a1).setCell ⟨w.heap.size + 1, 2, none⟩ a2).setCell ⟨w.heap.size + 1, 3, none⟩ a3).setCell ⟨w.heap.size + 1, 4, none⟩ a4).setCell ⟨w.heap.size + 1, 5, none⟩ a5).setCell ⟨w.heap.size + 1, 6, none⟩ a6).cell? ⟨w3.heap.size, 5, none⟩ = some (.int .i64 r.y.f.k) ∧ (((((((W'.setCell ⟨w.heap.size + 1, 0, none⟩ a0).setCell ⟨w.heap.size + 1, 1, none⟩ a1).setCell ⟨w.heap.size + 1, 2, none⟩ a2).setCell ⟨w.heap.size + 1, 3, none⟩ a3).setCell ⟨w.heap.size + 1, 4, none⟩ a4).setCell ⟨w.heap.size + 1, 5, none⟩ a5).setCell ⟨w.heap.size + 1, 6, none⟩ a6).cell? ⟨w3.heap.size, 6, none⟩ = some (.slice r.y.f.a r.y.f.l.length r.y.f.c) ∧ (((((((W'.setCell ⟨w.heap.size + 1, 0, none⟩ a0).setCell ⟨w.heap.size + 1, 1, none⟩ a1).setCell ⟨w.heap.size + 1, 2, none⟩ a2).setCell ⟨w.heap.size + 1, 3, none⟩ a3).setCell ⟨w.heap.size + 1, 4, none⟩ a4).setCell ⟨w.heap.size + 1, 5, none⟩ a5).setCell ⟨w.heap.size + 1, 6, none⟩ a6).cell? ⟨w3.heap.size, 7, none⟩ = some (.slice r.y.a r.y.l.length r.y.c) ∧ (((((((W'.setCell ⟨w.heap.size + 1, 0, none⟩ a0).setCell ⟨w.heap.size + 1, 1, none⟩ a1).setCell ⟨w.heap.size + 1, 2, none⟩ a2).setCell ⟨w.heap.size + 1, 3, none⟩ a3).setCell ⟨w.heap.size + 1, 4, none⟩ a4).setCell ⟨w.heap.size + 1, 5, none⟩ a5).setCell ⟨w.heap.size + 1, 6, none⟩ a6).cell? ⟨w3.heap.size, 8, none⟩ = some (.int .i64 r.i.k) ∧ (((((((W'.setCell ⟨w.heap.size + 1, 0, none⟩ a0).setCell ⟨w.heap.size + 1, 1, none⟩ a1).setCell ⟨w.heap.size + 1, 2, none⟩ a2).setCell ⟨w.heap.size + 1, 3, none⟩ a3).setCell ⟨w.heap.size + 1, 4, none⟩ a4).setCell ⟨w.heap.size + 1, 5, none⟩ a5).setCell ⟨w.heap.size + 1, 6, none⟩ a6).cell? ⟨w3.heap.size, 9, none⟩ = some (.slice r.i.a r.i.l.length r.i.c)) := by
        intro W' a0 a1 a2 a3 a4 a5 a6 h
        have hp : ∀ k, (((((((W'.setCell ⟨w.heap.size + 1, 0, none⟩ a0).setCell ⟨w.heap.size + 1, 1, none⟩ a1).setCell ⟨w.heap.size + 1, 2, none⟩ a2).setCell ⟨w.heap.size + 1, 3, none⟩ a3).setCell ⟨w.heap.size + 1, 4, none⟩ a4).setCell ⟨w.heap.size + 1, 5, none⟩ a5).setCell ⟨w.heap.size + 1, 6, none⟩ a6).cell? ⟨w3.heap.size, k, none⟩ = W'.cell? ⟨w3.heap.size, k, none⟩ := by
          intro k
          have hk : w.heap.size + 1 ≠ w3.heap.size := by omega
          rw [World.cell?_setCell_other _ _ _ _ (fun e => hk (congrArg Addr.block e)), World.cell?_setCell_other _ _ _ _ (fun e => hk (congrArg Addr.block e)), World.cell?_setCell_other _ _ _ _ (fun e => hk (congrArg Addr.block e)), World.cell?_setCell_other _ _ _ _ (fun e => hk (congrArg Addr.block e)), World.cell?_setCell_other _ _ _ _ (fun e => hk (congrArg Addr.block e)), World.cell?_setCell_other _ _ _ _ (fun e => hk (congrArg Addr.block e)), World.cell?_setCell_other _ _ _ _ (fun e => hk (congrArg Addr.block e))]
        obtain ⟨h1, h2, h3, h4, h5, h6, h7, h8, h9⟩ := h
        exact ⟨(hp _).trans h1, (hp _).trans h2, (hp _).trans h3, (hp _).trans h4, (hp _).trans h5, (hp _).trans h6, (hp _).trans h7, (hp _).trans h8, (hp _).trans h9⟩
      have HSP2 : Hid (∀ (W' : World) (a0 a1 : Value), (W'.cell? ⟨w3.heap.size, 1, none⟩ = some (.int .i64 r.y.k) ∧ W'.cell? ⟨w3.heap.size, 2, none⟩ = some (.int .i64 r.y.n) ∧ W'.cell? ⟨w3.heap.size, 3, none⟩ = some (.int .i64 r.y.t.k) ∧ W'.cell? ⟨w3.heap.size, 4, none⟩ = some (.slice r.y.t.a r.y.t.l.length r.y.t.c) ∧ W'.cell? ⟨w3.heap.size, 5, none⟩ = some (.int .i64 r.y.f.k) ∧ W'.cell? ⟨w3.heap.size, 6, none⟩ = some (.slice r.y.f.a r.y.f.l.length r.y.f.c) ∧ W'.cell? ⟨w3.heap.size, 7, none⟩ = some (.slice r.y.a r.y.l.length r.y.c) ∧ W'.cell? ⟨w3.heap.size, 8, none⟩ = some (.int .i64 r.i.k) ∧ W'.cell? ⟨w3.heap.size, 9, none⟩ = some (.slice r.i.a r.i.l.length r.i.c)) → ((W'.setCell ⟨w.heap.size + 1 + 1, 0, none⟩ a0).setCell ⟨w.heap.size + 1 + 1, 1, none⟩ a1).cell? ⟨w3.heap.size, 1, none⟩ = some (.int .i64 r.y.k) ∧ ((W'.setCell ⟨w.heap.size + 1 + 1, 0, none⟩ a0).setCell ⟨w.heap.size + 1 + 1, 1, none⟩ a1).cell? ⟨w3.heap.size, 2, none⟩ = some (.int .i64 r.y.n) ∧ ((W'.setCell ⟨w.heap.size + 1 + 1, 0, none⟩ a0).setCell ⟨w.heap.size + 1 + 1, 1, none⟩ a1).cell? ⟨w3.heap.size, 3, none⟩ = some (.int .i64 r.y.t.k) ∧ ((W'.setCell ⟨w.heap.size + 1 + 1, 0, none⟩ a0).setCell ⟨w.heap.size + 1 + 1, 1, none⟩ a1).cell? ⟨w3.heap.size, 4, none⟩ = some (.slice r.y.t.a r.y.t.l.length r.y.t.c) ∧ ((W'.setCell ⟨w.heap.size + 1 + 1, 0, none⟩ a0).setCell ⟨w.heap.size + 1 + 1, 1, none⟩ a1).cell? ⟨w3.heap.size, 5, none⟩ = some (.int .i64 r.y.f.k) ∧ ((W'.setCell ⟨w.heap.size + 1 + 1, 0, none⟩ a0).setCell ⟨w.heap.size + 1 + 1, 1, none⟩ a1).cell? ⟨w3.heap.size, 6, none⟩ = some (.slice r.y.f.a r.y.f.l.length r.y.f.c) ∧ ((W'.setCell ⟨w.heap.size + 1 + 1, 0, none⟩ a0).setCell ⟨w.heap.size + 1 + 1, 1, none⟩ a1).cell? ⟨w3.heap.size, 7, none⟩ = some (.slice r.y.a r.y.l.length r.y.c) ∧ ((W'.setCell ⟨w.heap.size + 1 + 1, 0, none⟩ a0).setCell ⟨w.heap.size + 1 + 1, 1, none⟩ a1).cell? ⟨w3.heap.size, 8, none⟩ = some (.int .i64 r.i.k) ∧ ((W'.setCell ⟨w.heap.size + 1 + 1, 0, none⟩ a0).setCell ⟨w.heap.size + 1 + 1, 1, none⟩ a1).cell? ⟨w3.heap.size, 9, none⟩ = some (.slice r.i.a r.i.l.length r.i.c)) := by
        intro W' a0 a1 h
        have hp : ∀ k, ((W'.setCell ⟨w.heap.size + 1 + 1, 0, none⟩ a0).setCell ⟨w.heap.size + 1 + 1, 1, none⟩ a1).cell? ⟨w3.heap.size, k, none⟩ = W'.cell? ⟨w3.heap.size, k, none⟩ := by
          intro k
          have hk : w.heap.size + 1 + 1 ≠ w3.heap.size := by omega
          rw [World.cell?_setCell_other _ _ _ _ (fun e => hk (congrArg Addr.block e)), World.cell?_setCell_other _ _ _ _ (fun e => hk (congrArg Addr.block e))]
        obtain ⟨h1, h2, h3, h4, h5, h6, h7, h8, h9⟩ := h
        exact ⟨(hp _).trans h1, (hp _).trans h2, (hp _).trans h3, (hp _).trans h4, (hp _).trans h5, (hp _).trans h6, (hp _).trans h7, (hp _).trans h8, (hp _).trans h9⟩
      have HSE : Hid (∀ W', Below WB.heap.size WB W' → W'.cell? ⟨w3.heap.size, 1, none⟩ = some (.int .i64 r.y.k) ∧ W'.cell? ⟨w3.heap.size, 2, none⟩ = some (.int .i64 r.y.n) ∧ W'.cell? ⟨w3.heap.size, 3, none⟩ = some (.int .i64 r.y.t.k) ∧ W'.cell? ⟨w3.heap.size, 4, none⟩ = some (.slice r.y.t.a r.y.t.l.length r.y.t.c) ∧ W'.cell? ⟨w3.heap.size, 5, none⟩ = some (.int .i64 r.y.f.k) ∧ W'.cell? ⟨w3.heap.size, 6, none⟩ = some (.slice r.y.f.a r.y.f.l.length r.y.f.c) ∧ W'.cell? ⟨w3.heap.size, 7, none⟩ = some (.slice r.y.a r.y.l.length r.y.c) ∧ W'.cell? ⟨w3.heap.size, 8, none⟩ = some (.int .i64 r.i.k) ∧ W'.cell? ⟨w3.heap.size, 9, none⟩ = some (.slice r.i.a r.i.l.length r.i.c)) := HS
      clear hWB
      go_region_held3 (fun W' => W'.cell? ⟨w3.heap.size, 1, none⟩ = some (.int .i64 r.y.k) ∧ W'.cell? ⟨w3.heap.size, 2, none⟩ = some (.int .i64 r.y.n) ∧ W'.cell? ⟨w3.heap.size, 3, none⟩ = some (.int .i64 r.y.t.k) ∧ W'.cell? ⟨w3.heap.size, 4, none⟩ = some (.slice r.y.t.a r.y.t.l.length r.y.t.c) ∧ W'.cell? ⟨w3.heap.size, 5, none⟩ = some (.int .i64 r.y.f.k) ∧ W'.cell? ⟨w3.heap.size, 6, none⟩ = some (.slice r.y.f.a r.y.f.l.length r.y.f.c) ∧ W'.cell? ⟨w3.heap.size, 7, none⟩ = some (.slice r.y.a r.y.l.length r.y.c) ∧ W'.cell? ⟨w3.heap.size, 8, none⟩ = some (.int .i64 r.i.k) ∧ W'.cell? ⟨w3.heap.size, 9, none⟩ = some (.slice r.i.a r.i.l.length r.i.c))
        (first
          | (with_reducible exact HS0.out)
          | (with_reducible exact HS1.out)
          | (with_reducible exact HSE.out _ hbE)
          | (with_reducible exact HSP7.out _ _ _ _ _ _ _ _ (HSE.out _ hbE))
          | (with_reducible exact HSP2.out _ _ _ (HSE.out _ hbE))
          | (with_reducible exact HSP2.out _ _ _ (HSP7.out _ _ _ _ _ _ _ _ (HSE.out _ hbE)))
          | (with_reducible exact HSP7.out _ _ _ _ _ _ _ _ (HSP2.out _ _ _ (HSE.out _ hbE)))
          | fail)
        (first
          | (go_at_call 39; (with_reducible refine H39.out.mono ?_); rintro e wE ⟨t, rfl, HT, hbE, hcfE⟩; have HCE : Hid (CF w.heap.size x wE) := hcfE; obtain ⟨_, ⟨⟨y0, y1, y2, y3, y4, y5, y6⟩, f0, f1, f2, f3, f4, f5, f6⟩, u0, u1, g0, g1⟩ := hcfE)
          | fail)
      have HN : Hid (CkPost x w (.returned (.tuple #[.agg #[.int .i64 r.y.k, .int .i64 r.y.n, .int .i64 r.y.t.k, .slice r.y.t.a r.y.t.l.length r.y.t.c, .int .i64 r.y.f.k, .slice r.y.f.a r.y.f.l.length r.y.f.c, .slice r.y.a r.y.l.length r.y.c], .agg #[.int .i64 t.k, .slice t.a t.l.length t.c], .int .i64 0])) (ckEnd wE w.heap.size r.y t)) := by
        obtain ⟨hbB, hyB, hyb, hg44, hyes, hlB⟩ := HD.out
        have hk7 := put7_kept (w := wE) (J := w.heap.size + 1) (x := r.y)
        have hk2 : Kept (w.heap.size + 1 + 1) none (put7 wE (w.heap.size + 1) r.y) (ckEnd wE w.heap.size r.y t) := setR_kept.trans setR_kept
        refine ⟨(hbB.trans (hbE.mono hbB.size)).trans (ckEnd_below wE w.heap.size r.y t HCE.out.lt), .inr (.inr ⟨HX2.out.2, r.y, t, ?_, rfl, ?_, ?_, ?_⟩)⟩
        · rw [HT.out.1]; exact hyes
        · exact ((hyB.below hbE).keptR hk7 (hyb.mono fun b hb => hb.2.1)).keptR hk2 (hyb.mono fun b hb => hb.2.2)
        · exact (HT.out.2.1.keptR hk7 (HT.out.2.2.mono fun b hb => by omega)).keptR hk2 (HT.out.2.2.mono fun b hb => by omega)
        · rw [goodT_eq, HT.out.1, ← goodT_eq]; exact hg44
      obtain ⟨e0, e1, e2, e3, e4, e5, e6, e7, e8⟩ := HCE.out.ends r.y t
      clear y0 y1 y2 y3 y4 y5 y6 f0 f1 f2 f3 f4 f5 f6 u0 u1 g0 g1 HS0 HS1 HSE HSP7 HSP2 HS H39 HD HCE HT hbE
      go_wp2_with fail
      refine bodyPost_ret (v := .tuple #[.agg #[.int .i64 r.y.k, .int .i64 r.y.n, .int .i64 r.y.t.k, .slice r.y.t.a r.y.t.l.length r.y.t.c, .int .i64 r.y.f.k, .slice r.y.f.a r.y.f.l.length r.y.f.c, .slice r.y.a r.y.l.length r.y.c], .agg #[.int .i64 t.k, .slice t.a t.l.length t.c], .int .i64 0]) ?_ rfl HN.out
      unfold ckEnd put7 at e0 e1 e2 e3 e4 e5 e6 e7 e8
      simp [results, Tryd.results13, go_sem, e0, e1, e2, e3, e4, e5, e6, e7, e8]
end Go.Proofs.YtnddkmccagiclaaDoor

/-
  Plain mathematics of check: where all is told nothing is cast; who says less is not refused; no program in it.
-/
namespace Go.Proofs.YtnddkmccagiclaaDoor
/-! ### All told -/
/-! ### Sites -/
def sitesM : Tm → List (Int × Ty × Ty)
  | ⟨k, n, t, f, l⟩ => (if k = 10 then [(n, f, t)] else []) ++ (l.map fun x => sitesM x).flatten
theorem sitesM_mk (k n : Int) (t f : Ty) (l : List Tm) : sitesM ⟨k, n, t, f, l⟩ = (if k = 10 then [(n, f, t)] else []) ++ l.flatMap sitesM := by
  rw [sitesM]
  rfl
theorem sites_ok : ∀ (x : Tm) (ins : Nat), okTm x ins → sitesM x = [] := by
  intro x
  induction x using Tm.ind with
  | h k n t f l ih =>
    intro ins hok
    obtain ⟨h0, h1⟩ := okTm_mk.1 hok
    obtain ⟨k1, k9, _⟩ := okTop_all h0
    rw [sitesM_mk, if_neg (by omega), List.nil_append, List.flatMap_eq_nil_iff]
    exact fun x hx => ih x hx _ (h1 x hx)
/-! ### Less told -/
end Go.Proofs.YtnddkmccagiclaaDoor

/-
  Rows of terms that a call makes longer, in blocks of a kind; the frame of chaperonekeep.loose; no program's run in it.
-/
namespace Go.Proofs.YtnddkmccagiclaaDoor
open Go.RowKit
structure RowT (Q : Nat → Prop) (base : Nat) (v : Value) (cs : List TT) (w : World) : Prop where
  own : w.ownsRow base 27 7 v cs.length (cells7 cs)
  ins : ∀ c, c ∈ cs → c.In w ∧ c.Bl (fun b => Q b ∧ some b ≠ v.ownBlock)
theorem RowT.nil (Q : Nat → Prop) (base : Nat) (w : World) : RowT Q base (.slice none 0 0) [] w := ⟨World.ownsRow_nil _ _ _ _, fun c h => by cases h⟩
theorem RowT.below {Q : Nat → Prop} {base : Nat} {v : Value} {cs : List TT} {w w' : World} (h : RowT Q base v cs w) (hb : Below w.heap.size w w') : RowT Q base v cs w' := by
  refine ⟨⟨h.own.1, ?_⟩, fun c hc => ⟨(h.ins c hc).1.below hb, (h.ins c hc).2⟩⟩
  rcases h.own.2 with hn | ⟨g, cap, cur, hv, hb', hg, rest⟩
  · exact .inl hn
  · exact .inr ⟨g, cap, cur, hv, hb', (hb.block g (Array.getElem?_eq_some_iff.1 hg).1).trans hg, rest⟩
theorem RowT.lt {Q : Nat → Prop} {base : Nat} {v : Value} {cs : List TT} {w : World} (h : RowT Q base v cs w) (k : Nat) (hk : v.ownBlock = some k) : base ≤ k ∧ k < w.heap.size := h.own.lt k hk
/-- One more. -/
theorem RowT.step {Q : Nat → Prop} {base : Nat} {v : Value} {cs : List TT} {w2 w3 : World} {c : TT} {gg cap1 : Nat} {X : Obj} (h : RowT Q base v cs w2) (hi : c.In w2) (hb : c.Bl (fun b => Q b ∧ some b ≠ v.ownBlock))
    (hown : w3.ownsRow base 27 7 (.slice (some ⟨gg, 0, none⟩) (cs.length + 1) cap1) (cs.length + 1) (cells7 cs ++ cells7 [c])) (hgrow : (w2.alloc X).grownBy w3 v.ownBlock) (hat : v.ownBlock = some gg ∨ gg = w2.heap.size + 1) :
    RowT Q base (.slice (some ⟨gg, 0, none⟩) (cs.length + 1) cap1) (cs ++ [c]) w3 ∧ ∀ k, k < w2.heap.size → some k ≠ v.ownBlock → w3.heap[k]? = w2.heap[k]? := by
  have hblk : ∀ k, k < w2.heap.size → some k ≠ v.ownBlock → w3.heap[k]? = w2.heap[k]? := fun k hk hn => by
    rw [hgrow.block k (by simp; omega) hn]
    exact ((Below.refl _ w2).alloc (Nat.le_refl _) X).block k hk
  refine ⟨⟨by rw [cells7_append, List.length_append, List.length_singleton]; exact hown, fun d hd => ?_⟩, hblk⟩
  have key : d.In w2 ∧ d.Bl (fun b => Q b ∧ some b ≠ v.ownBlock) := by
    rcases List.mem_append.1 hd with hd | hd
    · exact h.ins d hd
    · rcases List.mem_singleton.1 hd with rfl
      exact ⟨hi, hb⟩
  have hne : ∀ b, b < w2.heap.size ∧ (Q b ∧ some b ≠ v.ownBlock) → Q b ∧ some b ≠ (Value.slice (some ⟨gg, 0, none⟩) (cs.length + 1) cap1).ownBlock := by
    intro b hb
    refine ⟨hb.2.1, ?_⟩
    show some b ≠ some gg
    rcases hat with e | e
    · rw [← e]; exact hb.2.2
    · simp only [ne_eq, Option.some.injEq]; omega
  have hsame : ∀ b, b < w2.heap.size ∧ (Q b ∧ some b ≠ v.ownBlock) → ∀ i, w3.cell? ⟨b, i, none⟩ = w2.cell? ⟨b, i, none⟩ := fun b hb i =>
    World.cell?_of_block (a := ⟨b, i, none⟩) (hblk b hb.1 hb.2.2)
  have y3 := key.1.bl.and key.2
  exact ⟨key.1.congr (P := fun b => b < w2.heap.size ∧ (Q b ∧ some b ≠ v.ownBlock)) hsame y3, y3.mono hne⟩
/-- A row that the call owns is a term's list. -/
theorem RowT.list {Q : Nat → Prop} {base : Nat} {v : Value} {cs : List TT} {w : World} (h : RowT Q base v cs w) : ∃ a c, v = .slice a cs.length c ∧ (∀ j (hj : j < cs.length), ∃ b o, a = some ⟨b, o, none⟩ ∧ At7 w b (o + j * 7) cs[j]) ∧ (∀ y, cs ≠ [] → a = some y → base ≤ y.block) := by
  rcases h.own.2 with ⟨rfl, h0⟩ | ⟨g, cap, cur, rfl, hg, _⟩
  · have : cs = [] := List.length_eq_zero_iff.1 h0
    subst this
    exact ⟨none, 0, rfl, fun j hj => absurd hj (by simp), fun y h => absurd rfl h⟩
  · refine ⟨_, _, rfl, fun j hj => ⟨g, 0, rfl, ?_⟩, fun y _ hy => by cases hy; exact hg⟩
    have hc : ∀ i, i < 7 → w.cell? ⟨g, 0 + j * 7 + i, none⟩ = _ := fun i hi => by rw [Nat.zero_add, h.own.cellAt (j * 7 + i) (by omega), cells7_at cs j hj i hi]
    exact ⟨hc 0 (by omega), hc 1 (by omega), hc 2 (by omega), hc 3 (by omega), hc 4 (by omega), hc 5 (by omega), hc 6 (by omega)⟩
/-- The frame of loose: the term's box, the place of the answer. -/
structure LF (H : Nat) (x : TT) (W : World) : Prop where
  b : Box7 W H x
  z : ZB7 W (H + 1)
theorem LF.lt {H : Nat} {x : TT} {W : World} (h : LF H x W) : H + 1 < W.heap.size := h.z.lt
theorem LF.below {H : Nat} {x : TT} {W W' : World} (h : LF H x W) (hb : Below W.heap.size W W') : LF H x W' := ⟨h.b.below hb, h.z.later hb⟩
theorem LF.start (x : TT) (w : World) : LF w.heap.size x ((w.alloc (.cells #[.int .i64 x.k, .int .i64 x.n, .int .i64 x.t.k, .slice x.t.a x.t.l.length x.t.c, .int .i64 x.f.k, .slice x.f.a x.f.l.length x.f.c, .slice x.a x.l.length x.c] 27)).alloc (.cells #[.int .i64 0, .int .i64 0, .int .i64 0, .slice none 0 0, .int .i64 0, .slice none 0 0, .slice none 0 0] 27)) := by
  refine ⟨⟨⟨?_, ?_, ?_, ?_, ?_, ?_, ?_⟩, fun i _ => ?_⟩, ⟨?_, ?_, ?_, ?_, ?_, ?_, ?_⟩, ?_, ?_, ?_, ?_, ?_, ?_, ?_⟩ <;> simp [go_sem]
end Go.Proofs.YtnddkmccagiclaaDoor

/-
  What the call of chaperonekeep.loose answers: a term that tells less, or as much.
-/
namespace Go.Proofs.YtnddkmccagiclaaDoor
open Go.RowKit
/-- No list is longer than what memory holds. -/
def TT.lw : TT → Prop
  | ⟨_, _, _, _, _, _, l⟩ => l.length ≤ 1353245080300 ∧ ∀ y, y ∈ l → y.lw
theorem TT.lw_mk {k n : Int} {t f : Tr} {a : Option Addr} {c : Nat} {l : List TT} : (TT.mk k n t f a c l).lw ↔ l.length ≤ 1353245080300 ∧ ∀ y, y ∈ l → y.lw := by
  rw [TT.lw]
theorem TT.lw.len {x : TT} (h : x.lw) : x.l.length ≤ 1353245080300 := by cases x; exact (TT.lw_mk.1 h).1
theorem TT.lw.mem {x y : TT} (h : x.lw) (hy : y ∈ x.l) : y.lw := by
  obtain ⟨k, n, t, f, a, c, l⟩ := x
  exact (TT.lw_mk.1 h).2 y hy
theorem ZB7.kept {R b : Nat} {w w' : World} (h : ZB7 w b) (hk : Kept R none w w') (hb : b ≠ R) : ZB7 w' b := by
  have hl := h.lt
  obtain ⟨⟨h0, h1, h2, h3, h4, h5, h6⟩, f0, f1, f2, f3, f4, f5, f6⟩ := h
  exact ⟨⟨hk.cell h0 hb, hk.cell h1 hb, hk.cell h2 hb, hk.cell h3 hb, hk.cell h4 hb, hk.cell h5 hb, hk.cell h6 hb⟩, hk.fz f0 hl hb, hk.fz f1 hl hb, hk.fz f2 hl hb, hk.fz f3 hl hb, hk.fz f4 hl hb, hk.fz f5 hl hb, hk.fz f6 hl hb⟩
end Go.Proofs.YtnddkmccagiclaaDoor

/-
  What the call of chaperoneref.SameTerm answers at two terms that lie in memory and are alike.
-/
namespace Go.Proofs.YtnddkmccagiclaaDoor
open Go.RowKit
/-- No list of its types is too long. -/
def TT.tsm : TT → Prop
  | ⟨_, _, t, f, _, _, l⟩ => t.sm ∧ f.sm ∧ ∀ y, y ∈ l → y.tsm
theorem TT.tsm_mk {k n : Int} {t f : Tr} {a : Option Addr} {c : Nat} {l : List TT} : (TT.mk k n t f a c l).tsm ↔ t.sm ∧ f.sm ∧ ∀ y, y ∈ l → y.tsm := by
  rw [TT.tsm]
theorem TT.tsm.t {x : TT} (h : x.tsm) : x.t.sm := by cases x; exact (TT.tsm_mk.1 h).1
theorem TT.tsm.f {x : TT} (h : x.tsm) : x.f.sm := by cases x; exact (TT.tsm_mk.1 h).2.1
theorem TT.tsm.mem {x y : TT} (h : x.tsm) (hy : y ∈ x.l) : y.tsm := by
  obtain ⟨k, n, t, f, a, c, l⟩ := x
  exact (TT.tsm_mk.1 h).2.2 y hy
set_option maxHeartbeats 1000000 in
theorem sameTerm_step (x y : TT) (w : World) (hx : x.In w) (hy : y.In w) (hm : x.tm = y.tm) (hlw : x.lw) (hts : x.tsm)
    (ih : Hid (∀ (j : Nat) (hj : j < x.l.length) (z : TT) (w : World), x.l[j].In w → z.In w → x.l[j].tm = z.tm → Calls Tryd.prog 15 #[.agg #[.int .i64 x.l[j].k, .int .i64 x.l[j].n, .int .i64 x.l[j].t.k, .slice x.l[j].t.a x.l[j].t.l.length x.l[j].t.c, .int .i64 x.l[j].f.k, .slice x.l[j].f.a x.l[j].f.l.length x.l[j].f.c, .slice x.l[j].a x.l[j].l.length x.l[j].c], .agg #[.int .i64 z.k, .int .i64 z.n, .int .i64 z.t.k, .slice z.t.a z.t.l.length z.t.c, .int .i64 z.f.k, .slice z.f.a z.f.l.length z.f.c, .slice z.a z.l.length z.c]] w fun e w' => e = .returned (.bool true) ∧ Below w.heap.size w w')) :
    Calls Tryd.prog 15 #[.agg #[.int .i64 x.k, .int .i64 x.n, .int .i64 x.t.k, .slice x.t.a x.t.l.length x.t.c, .int .i64 x.f.k, .slice x.f.a x.f.l.length x.f.c, .slice x.a x.l.length x.c], .agg #[.int .i64 y.k, .int .i64 y.n, .int .i64 y.t.k, .slice y.t.a y.t.l.length y.t.c, .int .i64 y.f.k, .slice y.f.a y.f.l.length y.f.c, .slice y.a y.l.length y.c]] w fun e w' => e = .returned (.bool true) ∧ Below w.heap.size w w' := by
  have hlen := hlw.len
  obtain ⟨hk, hn, hl, ht, hf, hp⟩ := tm_parts hm
  have HT : Hid (∀ W, x.t.In W → y.t.In W → Calls Tryd.prog 16 #[.agg #[.int .i64 x.t.k, .slice x.t.a x.t.l.length x.t.c], .agg #[.int .i64 y.t.k, .slice y.t.a y.t.l.length y.t.c]] W fun e w' => e = .returned (.bool true) ∧ Below W.heap.size W w') := by
    intro W h1 h2
    have := sameType_any _ x.t y.t W h1 h2 (Nat.le_refl _) hts.t
    rw [ht, relY_refl] at this
    exact this
  have HF : Hid (∀ W, x.f.In W → y.f.In W → Calls Tryd.prog 16 #[.agg #[.int .i64 x.f.k, .slice x.f.a x.f.l.length x.f.c], .agg #[.int .i64 y.f.k, .slice y.f.a y.f.l.length y.f.c]] W fun e w' => e = .returned (.bool true) ∧ Below W.heap.size W w') := by
    intro W h1 h2
    have := sameType_any _ x.f y.f W h1 h2 (Nat.le_refl _) hts.f
    rw [hf, relY_refl] at this
    exact this
  have e1 : (x.k == y.k) = true := by simp [hk]
  have e2 : (x.n == y.n) = true := by simp [hn]
  have e3 : ((x.l.length : Int) == (y.l.length : Int)) = true := by simp [hl]
  have HB : Hid (∀ o o', Below w.heap.size w ((w.alloc o).alloc o')) := fun o o' => ((Below.refl _ _).alloc (Nat.le_refl _) _).alloc (by simp) _
  have HX : Hid (x.In w ∧ y.In w) := ⟨hx, hy⟩
  have HP : Hid (x.l.length = y.l.length ∧ x.l.map TT.tm = y.l.map TT.tm) := ⟨hl, hp⟩
  clear hk hn hl ht hf hp hm hts hlw
  go_enter Tryd.func15, Tryd.ntmps15
  go_wp2_with fail
  refine (HT.out _ (HX.out.1.below (HB.out _ _)).t (HX.out.2.below (HB.out _ _)).t).mono ?_
  rintro e w1 ⟨rfl, hb1⟩
  have hbw : Below w.heap.size w w1 := (HB.out _ _).trans (hb1.mono (by simp; omega))
  have q4 : w1.cell? ⟨w.heap.size, 4, none⟩ = some (.int .i64 x.f.k) := cell_later hb1 (by simp [go_sem])
  have q5 : w1.cell? ⟨w.heap.size, 5, none⟩ = some (.slice x.f.a x.f.l.length x.f.c) := cell_later hb1 (by simp [go_sem])
  have q6 : w1.cell? ⟨w.heap.size, 6, none⟩ = some (.slice x.a x.l.length x.c) := cell_later hb1 (by simp [go_sem])
  have p4 : w1.cell? ⟨w.heap.size + 1, 4, none⟩ = some (.int .i64 y.f.k) := cell_later hb1 (by simp [go_sem])
  have p5 : w1.cell? ⟨w.heap.size + 1, 5, none⟩ = some (.slice y.f.a y.f.l.length y.f.c) := cell_later hb1 (by simp [go_sem])
  have p6 : w1.cell? ⟨w.heap.size + 1, 6, none⟩ = some (.slice y.a y.l.length y.c) := cell_later hb1 (by simp [go_sem])
  clear hb1
  go_wp2_with fail
  refine (HF.out _ (HX.out.1.below hbw).f (HX.out.2.below hbw).f).mono ?_
  rintro e w2 ⟨rfl, hb2⟩
  have hbz := hbw.trans (hb2.mono hbw.size)
  replace q6 := cell_later hb2 q6
  replace p6 := cell_later hb2 p6
  clear hb2 hbw q4 q5 p4 p5 HT HF
  go_wp2_with fail
  go_loopg [5, 6] (x.l.length) (fun g b i wr => ∃ (j : Nat), j ≤ x.l.length ∧ g = x.l.length - j ∧ b = .bool true ∧ i = .int .i64 (j : Int) ∧ Below w.heap.size w wr ∧ wr.cell? ⟨w.heap.size, 6, none⟩ = some (.slice x.a x.l.length x.c) ∧ wr.cell? ⟨w.heap.size + 1, 6, none⟩ = some (.slice y.a y.l.length y.c))
  case atStart => exact ⟨0, Nat.zero_le _, rfl, rfl, rfl, hbz, q6, p6⟩
  case round =>
    obtain ⟨j, hj, hg, rfl, rfl, hbwr, p1, p3⟩ := hrel
    have HG : Hid (gk = x.l.length - j) := hg
    clear hg
    by_cases hlt : j < x.l.length
    · have hlt' : j < y.l.length := HP.out.1 ▸ hlt
      have HM : Hid (x.l[j].tm = y.l[j].tm) := by
        have h := congrArg (fun l => l[j]?) HP.out.2
        simp only [List.getElem?_map, List.getElem?_eq_getElem hlt, List.getElem?_eq_getElem hlt', Option.map_some, Option.some.injEq] at h
        exact h
      obtain ⟨b, o, ea, ⟨x0, x1, x2, x3, x4, x5, x6⟩, hxj⟩ := hx.part j hlt
      obtain ⟨b', o', eb, ⟨y0, y1, y2, y3, y4, y5, y6⟩, hyj⟩ := hy.part j hlt'
      have q1 : wr.cell? ⟨w.heap.size, 6, none⟩ = some (.slice (some ⟨b, o, none⟩) x.l.length x.c) := by rw [← ea]; exact p1
      have q3 : wr.cell? ⟨w.heap.size + 1, 6, none⟩ = some (.slice (some ⟨b', o', none⟩) y.l.length y.c) := by rw [← eb]; exact p3
      have HPP : Hid (wr.cell? ⟨w.heap.size, 6, none⟩ = some (.slice x.a x.l.length x.c) ∧ wr.cell? ⟨w.heap.size + 1, 6, none⟩ = some (.slice y.a y.l.length y.c)) := ⟨p1, p3⟩
      replace x0 := cell_later hbwr x0
      replace x1 := cell_later hbwr x1
      replace x2 := cell_later hbwr x2
      replace x3 := cell_later hbwr x3
      replace x4 := cell_later hbwr x4
      replace x5 := cell_later hbwr x5
      replace x6 := cell_later hbwr x6
      replace y0 := cell_later hbwr y0
      replace y1 := cell_later hbwr y1
      replace y2 := cell_later hbwr y2
      replace y3 := cell_later hbwr y3
      replace y4 := cell_later hbwr y4
      replace y5 := cell_later hbwr y5
      replace y6 := cell_later hbwr y6
      have i1 : (j : Int) < (x.l.length : Int) := by omega
      have i2 : (j : Int) < (y.l.length : Int) := by omega
      have i0 : (0 : Int) ≤ (j : Int) := by omega
      have HC : Hid (∀ (w : World), x.l[j].In w → y.l[j].In w → Calls Tryd.prog 15 #[.agg #[.int .i64 x.l[j].k, .int .i64 x.l[j].n, .int .i64 x.l[j].t.k, .slice x.l[j].t.a x.l[j].t.l.length x.l[j].t.c, .int .i64 x.l[j].f.k, .slice x.l[j].f.a x.l[j].f.l.length x.l[j].f.c, .slice x.l[j].a x.l[j].l.length x.l[j].c], .agg #[.int .i64 y.l[j].k, .int .i64 y.l[j].n, .int .i64 y.l[j].t.k, .slice y.l[j].t.a y.l[j].t.l.length y.l[j].t.c, .int .i64 y.l[j].f.k, .slice y.l[j].f.a y.l[j].f.l.length y.l[j].f.c, .slice y.l[j].a y.l[j].l.length y.l[j].c]] w fun e w' => e = .returned (.bool true) ∧ Below w.heap.size w w') := fun w h1 h2 => ih.out j hlt y.l[j] w h1 h2 HM.out
      clear p1 p3 ea eb hx hy HM HX HB
      go_wp2_with fail
      go_region_held3 (fun w' => w'.cell? ⟨w.heap.size, 6, none⟩ = some (.slice (some ⟨b, o, none⟩) x.l.length x.c) ∧ w'.cell? ⟨w.heap.size + 1, 6, none⟩ = some (.slice (some ⟨b', o', none⟩) y.l.length y.c) ∧ w'.cell? ⟨b, o + j * 7, none⟩ = some (.int .i64 x.l[j].k) ∧ w'.cell? ⟨b, o + j * 7 + 1, none⟩ = some (.int .i64 x.l[j].n) ∧ w'.cell? ⟨b, o + j * 7 + 2, none⟩ = some (.int .i64 x.l[j].t.k) ∧ w'.cell? ⟨b, o + j * 7 + 3, none⟩ = some (.slice x.l[j].t.a x.l[j].t.l.length x.l[j].t.c) ∧ w'.cell? ⟨b, o + j * 7 + 4, none⟩ = some (.int .i64 x.l[j].f.k) ∧ w'.cell? ⟨b, o + j * 7 + 5, none⟩ = some (.slice x.l[j].f.a x.l[j].f.l.length x.l[j].f.c) ∧ w'.cell? ⟨b, o + j * 7 + 6, none⟩ = some (.slice x.l[j].a x.l[j].l.length x.l[j].c) ∧ w'.cell? ⟨b', o' + j * 7, none⟩ = some (.int .i64 y.l[j].k) ∧ w'.cell? ⟨b', o' + j * 7 + 1, none⟩ = some (.int .i64 y.l[j].n) ∧ w'.cell? ⟨b', o' + j * 7 + 2, none⟩ = some (.int .i64 y.l[j].t.k) ∧ w'.cell? ⟨b', o' + j * 7 + 3, none⟩ = some (.slice y.l[j].t.a y.l[j].t.l.length y.l[j].t.c) ∧ w'.cell? ⟨b', o' + j * 7 + 4, none⟩ = some (.int .i64 y.l[j].f.k) ∧ w'.cell? ⟨b', o' + j * 7 + 5, none⟩ = some (.slice y.l[j].f.a y.l[j].f.l.length y.l[j].f.c) ∧ w'.cell? ⟨b', o' + j * 7 + 6, none⟩ = some (.slice y.l[j].a y.l[j].l.length y.l[j].c))
        (first | exact ⟨cell_later hb2 q1, cell_later hb2 q3, cell_later hb2 x0, cell_later hb2 x1, cell_later hb2 x2, cell_later hb2 x3, cell_later hb2 x4, cell_later hb2 x5, cell_later hb2 x6, cell_later hb2 y0, cell_later hb2 y1, cell_later hb2 y2, cell_later hb2 y3, cell_later hb2 y4, cell_later hb2 y5, cell_later hb2 y6⟩ | go_keep)
        (first | (go_at_call 15; refine (HC.out _ (hxj.below hbwr.drew) (hyj.below hbwr.drew)).mono ?_; rintro e w2 ⟨rfl, hb2⟩))
      have hbr2 : Below w.heap.size w w2 := hbwr.drew.trans (hb2.mono hbwr.size)
      have s1 := cell_later hb2 HPP.out.1
      have s3 := cell_later hb2 HPP.out.2
      clear hb2 q1 q3 x0 x1 x2 x3 x4 x5 x6 y0 y1 y2 y3 y4 y5 y6 HC HPP
      go_wp2_with fail
      go_roundg (x.l.length - (j + 1))
      case measure => rw [HG.out]; omega
      case rel => exact ⟨j + 1, by omega, rfl, rfl, by go_num, hbr2, s1, s3⟩
    · go_wp2_with fail
      go_ret
      exact ⟨rfl, hbwr⟩
/-- chaperoneref.SameTerm, of two that are alike. -/
theorem sameTerm_yes : ∀ (x y : TT) (w : World), x.In w → y.In w → x.tm = y.tm → x.lw → x.tsm → Calls Tryd.prog 15 #[.agg #[.int .i64 x.k, .int .i64 x.n, .int .i64 x.t.k, .slice x.t.a x.t.l.length x.t.c, .int .i64 x.f.k, .slice x.f.a x.f.l.length x.f.c, .slice x.a x.l.length x.c], .agg #[.int .i64 y.k, .int .i64 y.n, .int .i64 y.t.k, .slice y.t.a y.t.l.length y.t.c, .int .i64 y.f.k, .slice y.f.a y.f.l.length y.f.c, .slice y.a y.l.length y.c]] w fun e w' => e = .returned (.bool true) ∧ Below w.heap.size w w' := by
  intro x
  induction x using TT.ind with
  | h k n t f a c l ih =>
    intro y w hx hy hm hl ht
    exact sameTerm_step ⟨k, n, t, f, a, c, l⟩ y w hx hy hm hl ht (fun j hj z w h1 h2 h3 => ih _ (List.getElem_mem hj) z w h1 h2 h3 (hl.mem (List.getElem_mem hj)) (ht.mem (List.getElem_mem hj)))
end Go.Proofs.YtnddkmccagiclaaDoor
