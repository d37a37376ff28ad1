/-
  Small things for the walk of check's read: its frame, its boxes, what its parts make together; no program's run in it.
-/
import Derived.Test.YtnddkmccagiclaaDoorLot46e5e96889
import Derived.Test.YtnddkmccagiclaaDoorLot61ee193e54
import Derived.Test.YtnddkmccagiclaaDoorLote5d78291b2
import Derived.Deep.RegionHeld3
import Derived.Test.YtnddkmccagiclaaDoorLot7570b2d23b
import Derived.Deep.LoopGhost
namespace Go.Proofs.YtnddkmccagiclaaDoor
open Go.RowKit
/-- The term's box, and the place of the answer. -/
structure RF (H : Nat) (x : TT) (W : World) : Prop where
  at7 : At7 W H 0 x
  z0 : W.cell? ⟨H + 1, 0, none⟩ = some (.int .i64 0)
  z1 : W.cell? ⟨H + 1, 1, none⟩ = some (.int .i64 0)
  z2 : W.cell? ⟨H + 1, 2, none⟩ = some (.int .i64 0)
  z3 : W.cell? ⟨H + 1, 3, none⟩ = some (.int .i64 0)
  z4 : W.cell? ⟨H + 1, 4, none⟩ = some (.slice none 0 0)
  z5 : W.cell? ⟨H + 1, 5, none⟩ = some (.int .i64 0)
  z6 : W.cell? ⟨H + 1, 6, none⟩ = some (.slice none 0 0)
  z7 : W.cell? ⟨H + 1, 7, none⟩ = some (.slice none 0 0)
  z8 : W.cell? ⟨H + 1, 8, none⟩ = some (.int .i64 0)
  z9 : W.cell? ⟨H + 1, 9, none⟩ = some (.slice none 0 0)
  fz : ∀ i, W.frozen? ⟨H + 1, i, none⟩ = false
theorem RF.lt {H : Nat} {x : TT} {W : World} (h : RF H x W) : H + 1 < W.heap.size := World.block_lt_of_cell? _ _ h.z0
theorem RF.kept {H R : Nat} {x : TT} {W W' : World} (h : RF H x W) (hk : Kept R none W W') (h1 : H ≠ R) (h2 : H + 1 ≠ R) : RF H x W' :=
  ⟨h.at7.keptR hk h1, hk.cell h.z0 h2, hk.cell h.z1 h2, hk.cell h.z2 h2, hk.cell h.z3 h2, hk.cell h.z4 h2, hk.cell h.z5 h2, hk.cell h.z6 h2, hk.cell h.z7 h2, hk.cell h.z8 h2, hk.cell h.z9 h2, fun i => hk.fz (h.fz i) h.lt h2⟩
theorem RF.below {H : Nat} {x : TT} {W W' : World} (h : RF H x W) (hb : Below W.heap.size W W') : RF H x W' :=
  ⟨h.at7.below hb, cell_later hb h.z0, cell_later hb h.z1, cell_later hb h.z2, cell_later hb h.z3, cell_later hb h.z4, cell_later hb h.z5, cell_later hb h.z6, cell_later hb h.z7, cell_later hb h.z8, cell_later hb h.z9, fun i => (hb.frozen (p := ⟨H + 1, i, none⟩) h.lt).trans (h.fz i)⟩
theorem RF.start (x : TT) (w : World) : RF w.heap.size x ((w.alloc (.cells #[.int .i64 x.k, .int .i64 x.n, .int .i64 x.t.k, .slice x.t.a x.t.l.length x.t.c, .int .i64 x.f.k, .slice x.f.a x.f.l.length x.f.c, .slice x.a x.l.length x.c] 27)).alloc (.cells #[.int .i64 0, .int .i64 0, .int .i64 0, .int .i64 0, .slice none 0 0, .int .i64 0, .slice none 0 0, .slice none 0 0, .int .i64 0, .slice none 0 0] 63)) := by
  refine ⟨⟨?_, ?_, ?_, ?_, ?_, ?_, ?_⟩, ?_, ?_, ?_, ?_, ?_, ?_, ?_, ?_, ?_, ?_, fun i => ?_⟩
  all_goals simp [go_sem]
def put10 (w : World) (J : Nat) (v0 v1 v2 v3 v4 v5 v6 v7 v8 v9 : Value) : World :=
  (((((((((w.setCell ⟨J, 0, none⟩ v0).setCell ⟨J, 1, none⟩ v1).setCell ⟨J, 2, none⟩ v2).setCell ⟨J, 3, none⟩ v3).setCell ⟨J, 4, none⟩ v4).setCell ⟨J, 5, none⟩ v5).setCell ⟨J, 6, none⟩ v6).setCell ⟨J, 7, none⟩ v7).setCell ⟨J, 8, none⟩ v8).setCell ⟨J, 9, none⟩ v9
theorem put10_get {w : World} {J i : Nat} {u v0 v1 v2 v3 v4 v5 v6 v7 v8 v9 : Value} (hu : w.cell? ⟨J, i, none⟩ = some u) : (put10 w J v0 v1 v2 v3 v4 v5 v6 v7 v8 v9).cell? ⟨J, i, none⟩ = some (if i = 9 then v9 else if i = 8 then v8 else if i = 7 then v7 else if i = 6 then v6 else if i = 5 then v5 else if i = 4 then v4 else if i = 3 then v3 else if i = 2 then v2 else if i = 1 then v1 else if i = 0 then v0 else u) :=
  set_get (set_get (set_get (set_get (set_get (set_get (set_get (set_get (set_get (set_get hu)))))))))
theorem put10_kept {w : World} {J : Nat} {v0 v1 v2 v3 v4 v5 v6 v7 v8 v9 : Value} : Kept J none w (put10 w J v0 v1 v2 v3 v4 v5 v6 v7 v8 v9) :=
  setR_kept.trans (setR_kept.trans (setR_kept.trans (setR_kept.trans (setR_kept.trans (setR_kept.trans (setR_kept.trans (setR_kept.trans (setR_kept.trans setR_kept))))))))
theorem RF.put {H : Nat} {x : TT} {W : World} (h : RF H x W) (v0 v1 v2 v3 v4 v5 v6 v7 v8 v9 : Value) :
    (put10 W (H + 1) v0 v1 v2 v3 v4 v5 v6 v7 v8 v9).cell? ⟨H + 1, 0, none⟩ = some v0 ∧ (put10 W (H + 1) v0 v1 v2 v3 v4 v5 v6 v7 v8 v9).cell? ⟨H + 1, 1, none⟩ = some v1 ∧ (put10 W (H + 1) v0 v1 v2 v3 v4 v5 v6 v7 v8 v9).cell? ⟨H + 1, 2, none⟩ = some v2 ∧ (put10 W (H + 1) v0 v1 v2 v3 v4 v5 v6 v7 v8 v9).cell? ⟨H + 1, 3, none⟩ = some v3 ∧ (put10 W (H + 1) v0 v1 v2 v3 v4 v5 v6 v7 v8 v9).cell? ⟨H + 1, 4, none⟩ = some v4 ∧ (put10 W (H + 1) v0 v1 v2 v3 v4 v5 v6 v7 v8 v9).cell? ⟨H + 1, 5, none⟩ = some v5 ∧ (put10 W (H + 1) v0 v1 v2 v3 v4 v5 v6 v7 v8 v9).cell? ⟨H + 1, 6, none⟩ = some v6 ∧ (put10 W (H + 1) v0 v1 v2 v3 v4 v5 v6 v7 v8 v9).cell? ⟨H + 1, 7, none⟩ = some v7 ∧ (put10 W (H + 1) v0 v1 v2 v3 v4 v5 v6 v7 v8 v9).cell? ⟨H + 1, 8, none⟩ = some v8 ∧ (put10 W (H + 1) v0 v1 v2 v3 v4 v5 v6 v7 v8 v9).cell? ⟨H + 1, 9, none⟩ = some v9 := by
  refine ⟨?_, ?_, ?_, ?_, ?_, ?_, ?_, ?_, ?_, ?_⟩
  · simpa using put10_get (v0 := v0) (v1 := v1) (v2 := v2) (v3 := v3) (v4 := v4) (v5 := v5) (v6 := v6) (v7 := v7) (v8 := v8) (v9 := v9) h.z0
  · simpa using put10_get (v0 := v0) (v1 := v1) (v2 := v2) (v3 := v3) (v4 := v4) (v5 := v5) (v6 := v6) (v7 := v7) (v8 := v8) (v9 := v9) h.z1
  · simpa using put10_get (v0 := v0) (v1 := v1) (v2 := v2) (v3 := v3) (v4 := v4) (v5 := v5) (v6 := v6) (v7 := v7) (v8 := v8) (v9 := v9) h.z2
  · simpa using put10_get (v0 := v0) (v1 := v1) (v2 := v2) (v3 := v3) (v4 := v4) (v5 := v5) (v6 := v6) (v7 := v7) (v8 := v8) (v9 := v9) h.z3
  · simpa using put10_get (v0 := v0) (v1 := v1) (v2 := v2) (v3 := v3) (v4 := v4) (v5 := v5) (v6 := v6) (v7 := v7) (v8 := v8) (v9 := v9) h.z4
  · simpa using put10_get (v0 := v0) (v1 := v1) (v2 := v2) (v3 := v3) (v4 := v4) (v5 := v5) (v6 := v6) (v7 := v7) (v8 := v8) (v9 := v9) h.z5
  · simpa using put10_get (v0 := v0) (v1 := v1) (v2 := v2) (v3 := v3) (v4 := v4) (v5 := v5) (v6 := v6) (v7 := v7) (v8 := v8) (v9 := v9) h.z6
  · simpa using put10_get (v0 := v0) (v1 := v1) (v2 := v2) (v3 := v3) (v4 := v4) (v5 := v5) (v6 := v6) (v7 := v7) (v8 := v8) (v9 := v9) h.z7
  · simpa using put10_get (v0 := v0) (v1 := v1) (v2 := v2) (v3 := v3) (v4 := v4) (v5 := v5) (v6 := v6) (v7 := v7) (v8 := v8) (v9 := v9) h.z8
  · simpa using put10_get (v0 := v0) (v1 := v1) (v2 := v2) (v3 := v3) (v4 := v4) (v5 := v5) (v6 := v6) (v7 := v7) (v8 := v8) (v9 := v9) h.z9
/-- Three cells that are new and not yet written. -/
def ZB3 (V : World) (b : Nat) : Prop := V.cell? ⟨b, 0, none⟩ = some (.int .i64 0) ∧ V.cell? ⟨b, 1, none⟩ = some (.slice none 0 0) ∧ V.cell? ⟨b, 2, none⟩ = some (.slice none 0 0) ∧ V.frozen? ⟨b, 0, none⟩ = false ∧ V.frozen? ⟨b, 1, none⟩ = false ∧ V.frozen? ⟨b, 2, none⟩ = false
theorem ZB3.new (U : World) : ZB3 (U.alloc (.cells #[.int .i64 0, .slice none 0 0, .slice none 0 0] 103)) U.heap.size := by
  refine ⟨?_, ?_, ?_, ?_, ?_, ?_⟩ <;> simp [go_sem]
theorem ZB3.later {V w : World} {b : Nat} (hb : Below V.heap.size V w) (h : ZB3 V b) : ZB3 w b := by
  obtain ⟨h0, h1, h2, f0, f1, f2⟩ := h
  have hl : b < V.heap.size := World.block_lt_of_cell? _ _ h0
  exact ⟨cell_later hb h0, cell_later hb h1, cell_later hb h2, (hb.frozen (p := ⟨b, 0, none⟩) hl).trans f0, (hb.frozen (p := ⟨b, 1, none⟩) hl).trans f1, (hb.frozen (p := ⟨b, 2, none⟩) hl).trans f2⟩
/-- The rule's box. -/
structure At3 (W : World) (G : Nat) (I U : Tr) : Prop where
  k : W.cell? ⟨G, 0, none⟩ = some (.int .i64 I.k)
  l : W.cell? ⟨G, 1, none⟩ = some (.slice I.a I.l.length I.c)
  u : W.cell? ⟨G, 2, none⟩ = some (.slice U.a U.l.length U.c)
theorem ZB3.put {W : World} {G : Nat} (h : ZB3 W G) (I U : Tr) : At3 (((W.setCell ⟨G, 0, none⟩ (.int .i64 I.k)).setCell ⟨G, 1, none⟩ (.slice I.a I.l.length I.c)).setCell ⟨G, 2, none⟩ (.slice U.a U.l.length U.c)) G I U := by
  obtain ⟨h0, h1, h2, _⟩ := h
  exact ⟨by simpa using set_get (j := 2) (v := .slice U.a U.l.length U.c) (set_get (j := 1) (v := .slice I.a I.l.length I.c) (set_get (j := 0) (v := .int .i64 I.k) h0)), by simpa using set_get (j := 2) (v := .slice U.a U.l.length U.c) (set_get (j := 1) (v := .slice I.a I.l.length I.c) (set_get (j := 0) (v := .int .i64 I.k) h1)), by simpa using set_get (j := 2) (v := .slice U.a U.l.length U.c) (set_get (j := 1) (v := .slice I.a I.l.length I.c) (set_get (j := 0) (v := .int .i64 I.k) h2))⟩
theorem At3.new (W : World) (I U : Tr) : At3 (W.alloc (.cells #[.int .i64 I.k, .slice I.a I.l.length I.c, .slice U.a U.l.length U.c] 103)) W.heap.size I U := by
  refine ⟨?_, ?_, ?_⟩ <;> simp [go_sem]
theorem At3.below {W W' : World} {G : Nat} {I U : Tr} (h : At3 W G I U) (hb : Below W.heap.size W W') : At3 W' G I U := ⟨cell_later hb h.k, cell_later hb h.l, cell_later hb h.u⟩
theorem At3.lt {W : World} {G : Nat} {I U : Tr} (h : At3 W G I U) : G < W.heap.size := World.block_lt_of_cell? _ _ h.k
/-- Seven cells that are new and not yet written. -/
def ZB7 (V : World) (b : Nat) : Prop :=
  (V.cell? ⟨b, 0, none⟩ = some (.int .i64 0) ∧ V.cell? ⟨b, 1, none⟩ = some (.int .i64 0) ∧ V.cell? ⟨b, 2, none⟩ = some (.int .i64 0) ∧ V.cell? ⟨b, 3, none⟩ = some (.slice none 0 0) ∧ V.cell? ⟨b, 4, none⟩ = some (.int .i64 0) ∧ V.cell? ⟨b, 5, none⟩ = some (.slice none 0 0) ∧ V.cell? ⟨b, 6, none⟩ = some (.slice none 0 0)) ∧
    V.frozen? ⟨b, 0, none⟩ = false ∧ V.frozen? ⟨b, 1, none⟩ = false ∧ V.frozen? ⟨b, 2, none⟩ = false ∧ V.frozen? ⟨b, 3, none⟩ = false ∧ V.frozen? ⟨b, 4, none⟩ = false ∧ V.frozen? ⟨b, 5, none⟩ = false ∧ V.frozen? ⟨b, 6, none⟩ = false
theorem ZB7.box {V : World} {b : Nat} (h : ZB7 V b) : Box7 V b (tleaf 0 0) := by
  obtain ⟨⟨h0, h1, h2, h3, h4, h5, h6⟩, f0, f1, f2, f3, f4, f5, f6⟩ := h
  refine ⟨⟨h0, h1, h2, h3, h4, h5, h6⟩, fun i hi => ?_⟩
  obtain rfl | rfl | rfl | rfl | rfl | rfl | rfl : i = 0 ∨ i = 1 ∨ i = 2 ∨ i = 3 ∨ i = 4 ∨ i = 5 ∨ i = 6 := by omega
  · exact f0
  · exact f1
  · exact f2
  · exact f3
  · exact f4
  · exact f5
  · exact f6
theorem ZB7.lt {V : World} {b : Nat} (h : ZB7 V b) : b < V.heap.size := World.block_lt_of_cell? _ _ h.1.1
theorem ZB7.new (U : World) : ZB7 (U.alloc (.cells #[.int .i64 0, .int .i64 0, .int .i64 0, .slice none 0 0, .int .i64 0, .slice none 0 0, .slice none 0 0] 27)) U.heap.size := by
  refine ⟨⟨?_, ?_, ?_, ?_, ?_, ?_, ?_⟩, ?_, ?_, ?_, ?_, ?_, ?_, ?_⟩ <;> simp [go_sem]
theorem ZB7.later {V w : World} {b : Nat} (hb : Below V.heap.size V w) (h : ZB7 V b) : ZB7 w b := by
  have hl := h.lt
  obtain ⟨⟨h0, h1, h2, h3, h4, h5, h6⟩, f0, f1, f2, f3, f4, f5, f6⟩ := h
  exact ⟨⟨cell_later hb h0, cell_later hb h1, cell_later hb h2, cell_later hb h3, cell_later hb h4, cell_later hb h5, cell_later hb h6⟩, (hb.frozen (p := ⟨b, 0, none⟩) hl).trans f0, (hb.frozen (p := ⟨b, 1, none⟩) hl).trans f1, (hb.frozen (p := ⟨b, 2, none⟩) hl).trans f2, (hb.frozen (p := ⟨b, 3, none⟩) hl).trans f3, (hb.frozen (p := ⟨b, 4, none⟩) hl).trans f4, (hb.frozen (p := ⟨b, 5, none⟩) hl).trans f5, (hb.frozen (p := ⟨b, 6, none⟩) hl).trans f6⟩
theorem At7.new (W : World) (x : TT) : At7 (W.alloc (.cells #[.int .i64 x.k, .int .i64 x.n, .int .i64 x.t.k, .slice x.t.a x.t.l.length x.t.c, .int .i64 x.f.k, .slice x.f.a x.f.l.length x.f.c, .slice x.a x.l.length x.c] 27)) W.heap.size 0 x := by
  refine ⟨?_, ?_, ?_, ?_, ?_, ?_, ?_⟩ <;> simp [go_sem]
/-- The casts, one by one, are castL's. -/
theorem castL_of : ∀ (rs : List Rd) (us : List Tr) (zs : List TT), zs.length = rs.length → rs.length = us.length → (∀ r, r ∈ rs → 0 ≤ r.n) →
    (∀ q (h : q < zs.length) (h1 : q < rs.length) (h2 : q < us.length), zs[q].tm = castY rs[q].n rs[q].y.tm rs[q].i.ty us[q].ty) → zs.map TT.tm = castL (rs.map tri) (us.map Tr.ty)
  | [], [], [], _, _, _, _ => rfl
  | r :: rs, u :: us, z :: zs, h1, h2, hn, h => by
    have h0 := h 0 (by simp) (by simp) (by simp)
    have ih := castL_of rs us zs (by simpa using h1) (by simpa using h2) (fun q hq => hn q (by simp [hq])) fun q a b d => h (q + 1) (by simpa using a) (by simpa using b) (by simpa using d)
    have e : (r.n.toNat : Int) = r.n := Int.toNat_of_nonneg (hn r (by simp))
    simp only [List.getElem_cons_zero] at h0
    simp [castL, tri, e, h0, ih]
  | [], _ :: _, _, _, h, _, _ => by simp at h
  | _ :: _, [], _, _, h, _, _ => by simp at h
  | [], [], _ :: _, h, _, _, _ => by simp at h
  | _ :: _, _ :: _, [], h, _, _, _ => by simp at h
theorem tri_types (rs : List Rd) : (rs.map tri).map (fun p => p.2.2) = rs.map fun r => r.i.ty := by
  rw [List.map_map]; rfl
/-- What is known of the parts' types. -/
theorem parts_good {x : TT} {takes : List Ty} {c : Nat} {rs : List Rd} (hok : okTm x.tm takes.length) (hT : ∀ u, u ∈ takes → goodY 4 u = true) (hsz : x.sz ≤ 900) (h : readL (x.l.map TT.tm) (takesIn x.k x.t.ty takes) (c + 1) = some (rs.map tri)) :
    rs.length = x.l.length ∧ ∀ r, r ∈ rs → goodT ((x.l.map TT.sz).sum + 4) r.i = true := by
  obtain ⟨k, n, t, f, a, cc, l⟩ := x
  rw [TT.tm_mk] at hok
  obtain ⟨h0, h1⟩ := okTm_mk.1 hok
  obtain ⟨k1, k9, hl, _, ht, _, _⟩ := okTop_all h0
  have hlen := readL_length _ _ _ _ h
  simp only [List.length_map] at hlen
  refine ⟨hlen, fun r hr => ?_⟩
  obtain ⟨j, hj, rfl⟩ := List.getElem_of_mem hr
  have := readL_all (Q := fun x _ _ i => goodY (x.sz + 4) i = true) (l.map TT.tm) _ _ h (fun x hx c y i hr => read_good x _ c y i (by rw [takesIn_length]; exact h1 x hx) (takesIn_good ht hT) hr) j (by simpa using hj) (by simp; omega)
  have hs := sz_mem (l.map TT.tm) ((l.map TT.tm)[j]'(by simp; omega)) (List.getElem_mem _)
  rw [sz_map] at hs
  rw [goodT_eq]
  have g := goodY_more _ ((l.map TT.sz).sum + 4) _ (by omega) this
  simpa [tri] using g
theorem good_facts {n : Nat} (hn : n ≤ 1000) {t : Tr} (h : goodT n t = true) : t.right ∧ t.hgt ≤ 1000 ∧ t.sm := ⟨Tr.right_good n t h, Nat.le_trans (Tr.hgt_good n t h) hn, Tr.sm_good n t h⟩
/-- No type. -/
theorem readS_none1 {x : TT} {takes : List Ty} {c : Nat} (h : readL (x.l.map TT.tm) (takesIn x.k x.t.ty takes) (c + 1) = none) : readS x.tm takes c = none := by
  obtain ⟨k, n, t, f, a, cc, l⟩ := x
  rw [TT.tm_mk, readS_mk]
  simp only at h
  rw [h]; rfl
theorem readS_none2 {x : TT} {takes : List Ty} {c : Nat} {rs : List Rd} (h : readL (x.l.map TT.tm) (takesIn x.k x.t.ty takes) (c + 1) = some (rs.map tri)) (h2 : ruleY x.k x.n x.t.ty (rs.map fun r => r.i.ty) (takesIn x.k x.t.ty takes) = none) : readS x.tm takes c = none := by
  obtain ⟨k, n, t, f, a, cc, l⟩ := x
  rw [TT.tm_mk, readS_mk]
  simp only at h h2
  rw [h]
  simp only [Option.bind_some, tri_types, h2]; rfl
theorem readS_none3 {x : TT} {takes : List Ty} {c : Nat} {rs : List Rd} {i : Ty} {us : List Ty} (h : readL (x.l.map TT.tm) (takesIn x.k x.t.ty takes) (c + 1) = some (rs.map tri)) (h2 : ruleY x.k x.n x.t.ty (rs.map fun r => r.i.ty) (takesIn x.k x.t.ty takes) = some (i, us)) (h3 : fitL (rs.map fun r => r.i.ty) us = false) : readS x.tm takes c = none := by
  obtain ⟨k, n, t, f, a, cc, l⟩ := x
  rw [TT.tm_mk, readS_mk]
  simp only at h h2
  rw [h]
  simp only [Option.bind_some, tri_types, h2, h3]
  rfl
theorem readS_yes {x : TT} {takes : List Ty} {c : Nat} {rs : List Rd} {i : Ty} {us : List Ty} (h : readL (x.l.map TT.tm) (takesIn x.k x.t.ty takes) (c + 1) = some (rs.map tri)) (h2 : ruleY x.k x.n x.t.ty (rs.map fun r => r.i.ty) (takesIn x.k x.t.ty takes) = some (i, us)) (h3 : fitL (rs.map fun r => r.i.ty) us = true) : readS x.tm takes c = some (⟨x.k, x.n, x.t.ty, anyY, castL (rs.map tri) us⟩, i) := by
  obtain ⟨k, n, t, f, a, cc, l⟩ := x
  rw [TT.tm_mk, readS_mk]
  simp only at h h2
  rw [h]
  simp only [Option.bind_some, tri_types, h2, h3]
  rfl
end Go.Proofs.YtnddkmccagiclaaDoor

/-
  A row of types that a call makes longer, type by type; what the call of ref's typeOf leaves; no run of the program in it.
-/
namespace Go.Proofs.YtnddkmccagiclaaDoor
open Go.RowKit
/-- An operation that may be taken first, by its place in the region's list. -/
theorem takeH {P : Program} {md : Region.Mode} {ops : Array Oper} {Q : Exit → Act → World → Prop} {S : World → Prop} {i : Nat} {o : Oper} {v : Value} {fuel : Nat} {listed : Array Bool} {a : Act} {w : World} (ho : ops.toList[i]? = some o)
    (hs : Region.noSelect ops = true) (hf : Region.free md ops listed i = true) (hr : (Region.ready md ops listed).contains i = true)
    (hQ : ∀ c a w, Q (.panic c) (a.put o.dst v) w → Q (.panic c) a w) (hy : YieldsIf P ops S o v a) (hS : S w)
    (h : wpAnyH P md ops Q S fuel (listed.setIfInBounds i true) (a.put o.dst v) w) : wpAnyH P md ops Q S (fuel + 1) listed a w :=
  wpAnyH_take (i := i) (oi := o) (by simpa using ho) hs hf hr hQ hy hS h
/-- The one that comes up, by its place in the region's list. -/
theorem oneH {P : Program} {md : Region.Mode} {ops : Array Oper} {Q : Exit → Act → World → Prop} {S : World → Prop} {i : Nat} {o : Oper} {fuel : Nat} {listed : Array Bool} {a : Act} {w : World} (ho : ops.toList[i]? = some o) (hr : Region.ready md ops listed = [i])
    (h : ∀ K' : Act → World → Prop, Shut (∀ a w, S w → (S w → wpAnyH P md ops Q S fuel (listed.setIfInBounds i true) a w) → K' a w) → if Region.wanted o (yielded ops a.tmps) = true then Oper.wp P o a w K' Q else K' (a.put o.dst undef) w) : wpAnyH P md ops Q S (fuel + 1) listed a w :=
  wpAnyH_ready hr (by simp) (AllReadyH.cons (o := o) (by simpa using ho) h AllReadyH.nil)
/-- A row of types that lies in blocks of its own, behind all that lay in W. -/
structure TL (Q : Nat → Prop) (W : World) (v : Value) (ts : List Tr) (wr : World) : Prop where
  own : wr.ownsRow W.heap.size 24 2 v ts.length (cellsOf ts)
  ins : ∀ t, t ∈ ts → t.In wr ∧ t.Bl (fun b => Q b ∧ some b ≠ v.ownBlock)
  low : Below W.heap.size W wr
theorem TL.start (Q : Nat → Prop) (W : World) : TL Q W (.slice none 0 0) [] W :=
  ⟨World.ownsRow_nil _ _ _ _, fun t h => (by cases h), Below.refl _ _⟩
theorem TL.below {Q : Nat → Prop} {W wr w2 : World} {v : Value} {ts : List Tr} (h : TL Q W v ts wr) (hb : Below wr.heap.size wr w2) : TL Q W v ts w2 :=
  ⟨ownsRow_below h.own hb, fun t ht => ⟨(h.ins t ht).1.below hb, (h.ins t ht).2⟩, h.low.trans (hb.mono h.low.size)⟩
/-- One more. -/
theorem TL.step {Q : Nat → Prop} {W wr w2 w3 : World} {v : Value} {ts : List Tr} {t : Tr} {gg cap1 : Nat} (h : TL Q W v ts wr) (hb : Below wr.heap.size wr w2) (hin : t.In w2) (hbl : t.Bl (fun b => Q b ∧ some b ≠ v.ownBlock))
    (hown : w3.ownsRow W.heap.size 24 2 (.slice (some ⟨gg, 0, none⟩) (ts.length + 1) cap1) (ts.length + 1) (cellsOf ts ++ [.int .i64 t.k, .slice t.a t.l.length t.c])) (hgrow : w2.grownBy w3 v.ownBlock) (hat : v.ownBlock = some gg ∨ w2.heap.size ≤ gg) :
    TL Q W (.slice (some ⟨gg, 0, none⟩) (ts.length + 1) cap1) (ts ++ [t]) w3 := by
  have s2 := hb.size
  have s3 := hgrow.size
  have hov : ∀ k, v.ownBlock = some k → W.heap.size ≤ k ∧ k < wr.heap.size := h.own.lt
  have hold : ∀ k i, k < w2.heap.size → some k ≠ v.ownBlock → w3.cell? ⟨k, i, none⟩ = w2.cell? ⟨k, i, none⟩ := fun k i hk hn =>
    World.cell?_of_block (a := ⟨k, i, none⟩) (hgrow.block k hk hn)
  have hne : ∀ b, b < w2.heap.size → some b ≠ v.ownBlock → some b ≠ (Value.slice (some ⟨gg, 0, none⟩) (ts.length + 1) cap1).ownBlock := fun b hb hn => by
    show some b ≠ some gg
    rcases hat with e | e
    · rw [← e]; exact hn
    · simp only [ne_eq, Option.some.injEq]; omega
  have keep : ∀ d : Tr, d.In w2 → d.Bl (fun b => Q b ∧ some b ≠ v.ownBlock) → d.In w3 ∧ d.Bl (fun b => Q b ∧ some b ≠ (Value.slice (some ⟨gg, 0, none⟩) (ts.length + 1) cap1).ownBlock) := fun d h1 h2 => by
    have i3 := h1.bl.and h2
    exact ⟨h1.congr (P := fun b => b < w2.heap.size ∧ Q b ∧ some b ≠ v.ownBlock) (fun b hb i => hold b i hb.1 hb.2.2) i3, i3.mono fun b hb => ⟨hb.2.1, hne b hb.1 hb.2.2⟩⟩
  refine ⟨?_, ?_, ?_⟩
  · rw [cellsOf_append, List.length_append, List.length_singleton]
    exact hown
  · intro d hd
    rcases List.mem_append.1 hd with hd | hd
    · exact keep d ((h.ins d hd).1.below hb) (h.ins d hd).2
    · rcases List.mem_singleton.1 hd with rfl
      exact keep d hin hbl
  · have hb3 : Below W.heap.size w2 w3 := ⟨hgrow.os, hgrow.tape, hgrow.output, hgrow.size, fun k hk => hgrow.block k (by have := h.low.size; omega) (fun e => by have := (hov k e.symm).1; omega)⟩
    exact (h.low.trans (hb.mono h.low.size)).trans hb3
/-- The row as a tree's list. -/
theorem TL.tree {Q : Nat → Prop} {W wr : World} {v : Value} {ts : List Tr} (h : TL Q W v ts wr) : ∃ a c, v = .slice a ts.length c ∧ (Tr.mk 0 a c ts).In wr ∧ (∀ y, a = some y → W.heap.size ≤ y.block) ∧ ∀ t, t ∈ ts → t.In wr ∧ t.Bl Q := by
  have hQ : ∀ t, t ∈ ts → t.In wr ∧ t.Bl Q := fun t ht => ⟨(h.ins t ht).1, (h.ins t ht).2.mono fun b hb => hb.1⟩
  rcases h.own.2 with ⟨rfl, h0⟩ | ⟨g, cap, cur, rfl, hg, _⟩
  · have : ts = [] := List.length_eq_zero_iff.1 h0
    subst this
    exact ⟨none, 0, rfl, Tr.In_nil _ _ _ _, fun y hy => (by cases hy), hQ⟩
  · refine ⟨_, _, rfl, Tr.In_mk.2 ⟨fun j hj => ⟨g, 0, rfl, ?_, ?_⟩, fun t ht => (h.ins t ht).1⟩, fun y hy => (by cases hy; exact hg), hQ⟩
    · rw [Nat.zero_add, h.own.cellAt (j * 2) (by omega), (cellsOf_at2 ts j hj).1]
    · rw [Nat.zero_add, h.own.cellAt (j * 2 + 1) (by omega), (cellsOf_at2 ts j hj).2]
theorem Ty.eta (t : Ty) : t = ⟨t.k, t.l⟩ := by cases t; rfl
theorem typeS_tm (x : TT) (T : List Ty) : typeS x.tm T = (typeL (x.l.map TT.tm) (takesIn x.k x.t.ty T)).bind fun ts => ruleT x.k x.n x.t.ty ts (takesIn x.k x.t.ty T) := by
  obtain ⟨k, n, t, f, a, c, l⟩ := x
  rw [TT.tm_mk, typeS_mk]
/-- What a call that tells a type leaves; none: there is none. -/
def TyPost (Q : Nat → Prop) (T : Option Ty) (w : World) (e : Ending) (w' : World) : Prop :=
  ∃ (t : Tr) (b : Bool), e = .returned (.tuple #[.agg #[.int .i64 t.k, .slice t.a t.l.length t.c], .bool b]) ∧ b = T.isSome ∧ (∀ i, T = some i → t.ty = i) ∧ t.In w' ∧ t.Bl Q ∧ Below w.heap.size w w'
/-- Behind the entry of typeOf: the boxes. -/
structure TB (x : TT) (w : World) (W : World) : Prop where
  low : Below w.heap.size w W
  at7 : At7 W w.heap.size 0 x
  r0 : W.cell? ⟨w.heap.size + 1, 0, none⟩ = some (.int .i64 0)
  r1 : W.cell? ⟨w.heap.size + 1, 1, none⟩ = some (.slice none 0 0)
  f0 : W.frozen? ⟨w.heap.size + 1, 0, none⟩ = false
  f1 : W.frozen? ⟨w.heap.size + 1, 1, none⟩ = false
  n0 : W.cell? ⟨w.heap.size + 1 + 1, 0, none⟩ = some (.int .i64 1)
  n1 : W.cell? ⟨w.heap.size + 1 + 1, 1, none⟩ = some (.slice none 0 0)
  t0 : W.cell? ⟨w.heap.size + 1 + 1 + 1, 0, none⟩ = some (.int .i64 2)
  t1 : W.cell? ⟨w.heap.size + 1 + 1 + 1, 1, none⟩ = some (.slice none 0 0)
theorem TB.lt {x : TT} {w W : World} (h : TB x w W) : w.heap.size + 1 + 1 + 1 < W.heap.size := World.block_lt_of_cell? _ _ h.t0
theorem TB.below {x : TT} {w W V : World} (h : TB x w W) (hb : Below W.heap.size W V) : TB x w V := by
  have hl := h.lt
  have c : ∀ b i, b ≤ w.heap.size + 1 + 1 + 1 → V.cell? ⟨b, i, none⟩ = W.cell? ⟨b, i, none⟩ := fun b i h => hb.cell (p := ⟨b, i, none⟩) (show b < _ by omega)
  have f : ∀ b i, b ≤ w.heap.size + 1 + 1 + 1 → V.frozen? ⟨b, i, none⟩ = W.frozen? ⟨b, i, none⟩ := fun b i h => hb.frozen (p := ⟨b, i, none⟩) (show b < _ by omega)
  exact ⟨h.low.trans (hb.mono h.low.size), h.at7.below hb, (c _ _ (by omega)).trans h.r0, (c _ _ (by omega)).trans h.r1, (f _ _ (by omega)).trans h.f0, (f _ _ (by omega)).trans h.f1, (c _ _ (by omega)).trans h.n0, (c _ _ (by omega)).trans h.n1, (c _ _ (by omega)).trans h.t0, (c _ _ (by omega)).trans h.t1⟩
/-- The answer's two cells, filled. -/
theorem ty_end {Q : Nat → Prop} {T : Option Ty} {t : Tr} {z : TT} {w wr : World} {b : Bool} (h : TB z w wr) (hb : b = T.isSome) (ht : ∀ i, T = some i → t.ty = i) (hin : t.In wr) (hbl : t.Bl Q) (hQ : t.Bl (· ≠ w.heap.size + 1)) :
    TyPost Q T w (.returned (.tuple #[.agg #[.int .i64 t.k, .slice t.a t.l.length t.c], .bool b])) ((wr.setCell ⟨w.heap.size + 1, 0, none⟩ (.int .i64 t.k)).setCell ⟨w.heap.size + 1, 1, none⟩ (.slice t.a t.l.length t.c)) ∧
    ((wr.setCell ⟨w.heap.size + 1, 0, none⟩ (.int .i64 t.k)).setCell ⟨w.heap.size + 1, 1, none⟩ (.slice t.a t.l.length t.c)).cell? ⟨w.heap.size + 1, 0, none⟩ = some (.int .i64 t.k) ∧
    ((wr.setCell ⟨w.heap.size + 1, 0, none⟩ (.int .i64 t.k)).setCell ⟨w.heap.size + 1, 1, none⟩ (.slice t.a t.l.length t.c)).cell? ⟨w.heap.size + 1, 1, none⟩ = some (.slice t.a t.l.length t.c) := by
  have hc := set_cells (u := .int .i64 t.k) (v := .slice t.a t.l.length t.c) h.r0 h.r1
  have hk := set_keeps (ib := w.heap.size + 1) (io := 0) (u := .int .i64 t.k) (v := .slice t.a t.l.length t.c) hin (hQ.mono fun b hb => hb)
  simp only [Nat.zero_add] at hc hk
  exact ⟨⟨t, b, rfl, hb, ht, hk, hbl, (h.low.setCell (by simp) _).setCell (by simp) _⟩, hc.1, hc.2⟩
end Go.Proofs.YtnddkmccagiclaaDoor

/-
  What the call of chaperoneref.SameType answers at two trees that lie in memory.
-/
namespace Go.Proofs.YtnddkmccagiclaaDoor
open Go.RowKit
set_option maxHeartbeats 1000000 in
theorem sameType_step (n : Nat) (x y : Tr) (w : World) (hx : x.In w) (hy : y.In w) (hh : x.hgt ≤ n + 1) (hs : x.sm)
    (ih : Hid (∀ (x y : Tr) (w : World), x.In w → y.In w → x.hgt ≤ n → x.sm → Calls Tryd.prog 16 #[.agg #[.int .i64 x.k, .slice x.a x.l.length x.c], .agg #[.int .i64 y.k, .slice y.a y.l.length y.c]] w fun e w' => e = .returned (.bool (relY escSame x.ty y.ty)) ∧ Below w.heap.size w w')) :
    Calls Tryd.prog 16 #[.agg #[.int .i64 x.k, .slice x.a x.l.length x.c], .agg #[.int .i64 y.k, .slice y.a y.l.length y.c]] w fun e w' => e = .returned (.bool (relY escSame x.ty y.ty)) ∧ Below w.heap.size w w' := by
  have hlen := hs.len
  obtain ⟨tk, htk⟩ : ∃ b, (x.k == y.k) = b := ⟨_, rfl⟩
  obtain ⟨tl, htl⟩ : ∃ b, ((x.l.length : Int) == (y.l.length : Int)) = b := ⟨_, rfl⟩
  have HK : Hid ((x.k == y.k) = tk) := htk
  have HL : Hid (((x.l.length : Int) == (y.l.length : Int)) = tl) := htl
  have p1 : ((w.alloc (.cells #[.int .i64 x.k, .slice x.a x.l.length x.c] 24)).alloc (.cells #[.int .i64 y.k, .slice y.a y.l.length y.c] 24)).cell? ⟨w.heap.size, 1, none⟩ = some (.slice x.a x.l.length x.c) := by simp [go_sem]
  have p3 : ((w.alloc (.cells #[.int .i64 x.k, .slice x.a x.l.length x.c] 24)).alloc (.cells #[.int .i64 y.k, .slice y.a y.l.length y.c] 24)).cell? ⟨w.heap.size + 1, 1, none⟩ = some (.slice y.a y.l.length y.c) := by simp [go_sem]
  have HP : Hid (((w.alloc (.cells #[.int .i64 x.k, .slice x.a x.l.length x.c] 24)).alloc (.cells #[.int .i64 y.k, .slice y.a y.l.length y.c] 24)).cell? ⟨w.heap.size, 1, none⟩ = some (.slice x.a x.l.length x.c) ∧ ((w.alloc (.cells #[.int .i64 x.k, .slice x.a x.l.length x.c] 24)).alloc (.cells #[.int .i64 y.k, .slice y.a y.l.length y.c] 24)).cell? ⟨w.heap.size + 1, 1, none⟩ = some (.slice y.a y.l.length y.c)) := ⟨p1, p3⟩
  clear p1 p3
  have hb0 : Below w.heap.size w ((w.alloc (.cells #[.int .i64 x.k, .slice x.a x.l.length x.c] 24)).alloc (.cells #[.int .i64 y.k, .slice y.a y.l.length y.c] 24)) := ((Below.refl _ _).alloc (Nat.le_refl _) _).alloc (by simp) _
  cases tk
  · have HT : Hid ((x.k == y.k && (x.l.length : Int) == (y.l.length : Int)) = false) := by show _ = false; rw [HK.out]; rfl
    clear htl HL HK
    go_enter Tryd.func16, Tryd.ntmps16
    go_wp2_with fail
    go_loopw [5, 6] (fun b i wr => b = .bool false ∧ i = .int .i64 0 ∧ wr = ((w.alloc (.cells #[.int .i64 x.k, .slice x.a x.l.length x.c] 24)).alloc (.cells #[.int .i64 y.k, .slice y.a y.l.length y.c] 24))) (fun _ _ _ => 0)
    case atStart => exact ⟨rfl, rfl, rfl⟩
    case round =>
      obtain ⟨rfl, rfl, rfl⟩ := hrel
      go_wp2_with fail
      go_ret
      exact ⟨by rw [relY_top escSame x y rfl HT.out]; rfl, hb0⟩
  · cases tl
    · have HT : Hid ((x.k == y.k && (x.l.length : Int) == (y.l.length : Int)) = false) := by show _ = false; rw [HK.out, HL.out]; rfl
      clear HL HK
      go_enter Tryd.func16, Tryd.ntmps16
      go_wp2_with fail
      go_loopw [5, 6] (fun b i wr => b = .bool false ∧ i = .int .i64 0 ∧ wr = ((w.alloc (.cells #[.int .i64 x.k, .slice x.a x.l.length x.c] 24)).alloc (.cells #[.int .i64 y.k, .slice y.a y.l.length y.c] 24))) (fun _ _ _ => 0)
      case atStart => exact ⟨rfl, rfl, rfl⟩
      case round =>
        obtain ⟨rfl, rfl, rfl⟩ := hrel
        go_wp2_with fail
        go_ret
        exact ⟨by rw [relY_top escSame x y rfl HT.out]; rfl, hb0⟩
    · have hk : Hid (x.k = y.k) := by show x.k = y.k; have h := HK.out; simpa using h
      have hl : Hid (x.l.length = y.l.length) := by have h := HL.out; simp at h; exact Int.ofNat.inj h
      clear HL HK
      go_enter Tryd.func16, Tryd.ntmps16
      go_wp2_with fail
      clear htk htl
      go_loopg [5, 6] (x.l.length + 1) (fun g b i wr => ∃ (j : Nat) (c : Bool), j ≤ x.l.length ∧ g = (if c then x.l.length - j + 1 else 0) ∧ b = .bool c ∧ i = .int .i64 (j : Int) ∧ Below w.heap.size w wr ∧ wr.cell? ⟨w.heap.size, 1, none⟩ = some (.slice x.a x.l.length x.c) ∧ wr.cell? ⟨w.heap.size + 1, 1, none⟩ = some (.slice y.a y.l.length y.c) ∧
        Hid (c = true → ∀ q (h : q < x.l.length) (h' : q < y.l.length), q < j → relY escSame x.l[q].ty y.l[q].ty = true) ∧ Hid (c = false → relY escSame x.ty y.ty = false))
      case atStart => exact ⟨0, true, Nat.zero_le _, rfl, rfl, rfl, hb0, HP.out.1, HP.out.2, fun _ q _ _ h => absurd h (by omega), fun h => by cases h⟩
      case round =>
        obtain ⟨j, c, hj, hg, rfl, rfl, hbwr, p1, p3, HA, HB⟩ := hrel
        cases c
        · have HB1 : Hid (relY escSame x.ty y.ty = false) := HB.out rfl
          clear HA HB hg
          go_wp2_with fail
          go_ret
          exact ⟨by rw [HB1.out]; rfl, hbwr⟩
        · have HA1 : Hid (∀ q (h : q < x.l.length) (h' : q < y.l.length), q < j → relY escSame x.l[q].ty y.l[q].ty = true) := HA.out rfl
          clear HA HB
          by_cases hlt : j < x.l.length
          · have hlt' : j < y.l.length := hl.out ▸ hlt
            obtain ⟨b, o, ea, x0, x1, hxj⟩ := hx.part j hlt
            obtain ⟨b', o', eb, y0, y1, hyj⟩ := hy.part j hlt'
            have q1 : wr.cell? ⟨w.heap.size, 1, none⟩ = some (.slice (some ⟨b, o, none⟩) x.l.length x.c) := by rw [← ea]; exact p1
            have q3 : wr.cell? ⟨w.heap.size + 1, 1, none⟩ = some (.slice (some ⟨b', o', none⟩) y.l.length y.c) := by rw [← eb]; exact p3
            have HPP : Hid (wr.cell? ⟨w.heap.size, 1, none⟩ = some (.slice x.a x.l.length x.c) ∧ wr.cell? ⟨w.heap.size + 1, 1, none⟩ = some (.slice y.a y.l.length y.c)) := ⟨p1, p3⟩
            replace x0 := cell_later hbwr x0
            replace x1 := cell_later hbwr x1
            replace y0 := cell_later hbwr y0
            replace y1 := cell_later hbwr y1
            have i1 : (j : Int) < (x.l.length : Int) := by omega
            have i2 : (j : Int) < (y.l.length : Int) := by omega
            have i0 : (0 : Int) ≤ (j : Int) := by omega
            obtain ⟨r, hr⟩ : ∃ r, relY escSame x.l[j].ty y.l[j].ty = r := ⟨_, rfl⟩
            have HC : Hid (∀ (w : World), x.l[j].In w → y.l[j].In w → Calls Tryd.prog 16 #[.agg #[.int .i64 x.l[j].k, .slice x.l[j].a x.l[j].l.length x.l[j].c], .agg #[.int .i64 y.l[j].k, .slice y.l[j].a y.l[j].l.length y.l[j].c]] w fun e w' => e = .returned (.bool r) ∧ Below w.heap.size w w') := by
              intro w h1 h2
              have := ih.out x.l[j] y.l[j] w h1 h2 (Tr.hgt_part hh j hlt) (hs.part j hlt)
              rw [hr] at this
              exact this
            have HR : Hid (relY escSame x.l[j].ty y.l[j].ty = r) := hr
            have HG : Hid (gk = if true then x.l.length - j + 1 else 0) := hg
            clear hr p1 p3 ea eb hx hy hg
            go_wp2_with fail
            go_region_held3 (fun w' => w'.cell? ⟨w.heap.size, 1, none⟩ = some (.slice (some ⟨b, o, none⟩) x.l.length x.c) ∧ w'.cell? ⟨w.heap.size + 1, 1, none⟩ = some (.slice (some ⟨b', o', none⟩) y.l.length y.c) ∧ w'.cell? ⟨b, o + j * 2, none⟩ = some (.int .i64 x.l[j].k) ∧ w'.cell? ⟨b, o + j * 2 + 1, none⟩ = some (.slice x.l[j].a x.l[j].l.length x.l[j].c) ∧ w'.cell? ⟨b', o' + j * 2, none⟩ = some (.int .i64 y.l[j].k) ∧ w'.cell? ⟨b', o' + j * 2 + 1, none⟩ = some (.slice y.l[j].a y.l[j].l.length y.l[j].c))
              (first | exact ⟨cell_later hb2 q1, cell_later hb2 q3, cell_later hb2 x0, cell_later hb2 x1, cell_later hb2 y0, cell_later hb2 y1⟩ | go_keep)
              (first | (go_at_call 16; refine (HC.out _ (hxj.below hbwr.drew) (hyj.below hbwr.drew)).mono ?_; rintro e w2 ⟨rfl, hb2⟩))
            have hbr2 : Below w.heap.size w w2 := hbwr.drew.trans (hb2.mono hbwr.size)
            have s1 := cell_later hb2 HPP.out.1
            have s3 := cell_later hb2 HPP.out.2
            clear hb2 q1 q3 x0 x1 y0 y1 HC HPP
            go_wp2_with fail
            go_roundg (if r then x.l.length - (j + 1) + 1 else 0)
            case measure => rw [HG.out]; cases r <;> simp <;> omega
            case rel =>
              refine ⟨j + 1, r, by omega, rfl, rfl, by go_num, hbr2, s1, s3, fun h q h1 h2 hq => ?_, fun h => ?_⟩
              · by_cases e : q = j
                · subst e; rw [HR.out, h]
                · exact HA1.out q h1 h2 (by omega)
              · exact relY_part_not escSame x y rfl j hlt hlt' (by rw [HR.out, h])
          · go_wp2_with fail
            go_ret
            refine ⟨?_, hbwr⟩
            rw [relY_parts escSame x y hk.out hl.out fun q h h' => HA1.out q h h' (by omega)]
            rfl
/-- chaperoneref.SameType. -/
theorem sameType_any (n : Nat) : ∀ (x y : Tr) (w : World), x.In w → y.In w → x.hgt ≤ n → x.sm → Calls Tryd.prog 16 #[.agg #[.int .i64 x.k, .slice x.a x.l.length x.c], .agg #[.int .i64 y.k, .slice y.a y.l.length y.c]] w fun e w' => e = .returned (.bool (relY escSame x.ty y.ty)) ∧ Below w.heap.size w w' := by
  induction n with
  | zero =>
    intro x y w _ _ h
    have := x.hgt_pos
    omega
  | succ n ih =>
    intro x y w hx hy h hs
    exact sameType_step n x y w hx hy h hs (fun x y w hx hy h hs => ih x y w hx hy h hs)
end Go.Proofs.YtnddkmccagiclaaDoor
