/-
  What the calls of run's Run and Text answer.
-/
import Derived.Test.YtnddkmccagiclabGreatDoorLot789dfea93b
import Derived.Test.YtnddkmccagiclabGreatDoorLot2c1b367ec8
import Derived.Test.YtnddkmccagiclabGreatDoorLoteba9d6d245
import Derived.Test.YtnddkmccagiclabGreatDoorLot1dd949ab90
import Derived.Test.YtnddkmccagiclabGreatDoorLotdf4e4ec170
import Derived.Test.YtnddkmccagiclabGreatDoorLot6af9432580
import Derived.Test.YtnddkmccagiclabGreatDoorLot3973bc6846
import Derived.Test.YtnddkmccagiclabGreatDoorLoted756f28d3
import Derived.Test.YtnddkmccagiclabGreatDoorLot198e6357ab
import Derived.Deep.LoopGhost
namespace Go.Proofs.YtnddkmccagiclabGreatDoor
open Go.RowKit
/-- What Run makes of a term: the outcome, the error. -/
def runR (x : Tm) (f : Int) : Out × Int := if goodM 0 x = true then (match readS x [] 0 with
  | none => (out0, 2)
  | some p => if f < 0 ∨ 100 < f then (out0, 3) else (runM p.1 f.toNat, 0)) else (out0, 1)
/-- What such a call answers. -/
def OutPost (r : Out × Int) (w : World) (e : Ending) (w' : World) : Prop := e = .returned (.tuple #[.agg #[.int .i64 r.1.k, .int .i64 r.1.n, .bool r.1.b], .int .i64 r.2]) ∧ Below w.heap.size w w'
/-- outcome, at whatever number. -/
theorem outcome_all (y : TT) (f : Int) (w : World) (hy : y.In w) (sy : shp y.tm) (hz : y.tm.tsz ≤ 100) :
    Calls Tryz.prog 26 #[.agg #[.int .i64 y.k, .int .i64 y.n, .int .i64 y.t.k, .slice y.t.a y.t.l.length y.t.c, .int .i64 y.f.k, .slice y.f.a y.f.l.length y.f.c, .slice y.a y.l.length y.c], .int .i64 f] w (OutPost (if f < 0 ∨ 100 < f then (out0, 3) else (runM y.tm f.toNat, 0)) w) := by
  by_cases hf : f < 0 ∨ 100 < f
  · rw [if_pos hf]
    exact outcome_range y f hf w
  · rw [if_neg hf]
    have e : f = ((f.toNat : Nat) : Int) := by omega
    have := outcome_any y f.toNat (by omega) w hy sy hz
    rw [← e] at this
    exact this
set_option maxRecDepth 20000 in
set_option maxHeartbeats 8000000 in
/-- Run. -/
theorem runFn_any (x : TT) (f : Int) (w : World) (hg : Gp w) (hx : x.In w) (hnb : x.nb) :
    Calls Tryz.prog 11 #[.agg #[.int .i64 x.k, .int .i64 x.n, .int .i64 x.t.k, .slice x.t.a x.t.l.length x.t.c, .int .i64 x.f.k, .slice x.f.a x.f.l.length x.f.c, .slice x.a x.l.length x.c], .int .i64 f] w (OutPost (runR x.tm f) w) := by
  obtain ⟨W1, hW1⟩ : ∃ W, W = (w.alloc (.cells #[.int .i64 x.k, .int .i64 x.n, .int .i64 x.t.k, .slice x.t.a x.t.l.length x.t.c, .int .i64 x.f.k, .slice x.f.a x.f.l.length x.f.c, .slice x.a x.l.length x.c] 27)).alloc (.cells #[.int .i64 0, .int .i64 0, .bool false] 29) := ⟨_, rfl⟩
  have hb1 : Below w.heap.size w W1 := by rw [hW1]; exact ((Below.refl _ _).alloc (Nat.le_refl _) _).alloc (by simp) _
  have hs1 : W1.heap.size = w.heap.size + 1 + 1 := by rw [hW1]; simp
  have z0 : W1.cell? ⟨w.heap.size + 1, 0, none⟩ = some (.int .i64 0) := by rw [hW1]; simp [go_sem]
  have z1 : W1.cell? ⟨w.heap.size + 1, 1, none⟩ = some (.int .i64 0) := by rw [hW1]; simp [go_sem]
  have z2 : W1.cell? ⟨w.heap.size + 1, 2, none⟩ = some (.bool false) := by rw [hW1]; simp [go_sem]
  have zf : ∀ i, W1.frozen? ⟨w.heap.size + 1, i, none⟩ = false := by intro i; rw [hW1]; simp [go_sem]
  have HC : Hid (Calls Tryz.prog 25 #[.agg #[.int .i64 x.k, .int .i64 x.n, .int .i64 x.t.k, .slice x.t.a x.t.l.length x.t.c, .int .i64 x.f.k, .slice x.f.a x.f.l.length x.f.c, .slice x.a x.l.length x.c]] W1 (CkPost x W1)) := check_any x W1 (hg.below hb1) (hx.below hb1) hnb
  have HZ : Hid (∀ W, Below W1.heap.size W1 W → W.cell? ⟨w.heap.size + 1, 0, none⟩ = some (.int .i64 0) ∧ W.cell? ⟨w.heap.size + 1, 1, none⟩ = some (.int .i64 0) ∧ W.cell? ⟨w.heap.size + 1, 2, none⟩ = some (.bool false) ∧ W.frozen? ⟨w.heap.size + 1, 0, none⟩ = false ∧ W.frozen? ⟨w.heap.size + 1, 1, none⟩ = false ∧ W.frozen? ⟨w.heap.size + 1, 2, none⟩ = false ∧ w.heap.size + 1 < W.heap.size ∧ Below w.heap.size w W) := fun W hW =>
    ⟨cell_later hW z0, cell_later hW z1, cell_later hW z2, (hW.frozen (p := ⟨w.heap.size + 1, 0, none⟩) (by rw [hs1]; show w.heap.size + 1 < _; omega)).trans (zf 0), (hW.frozen (p := ⟨w.heap.size + 1, 1, none⟩) (by rw [hs1]; show w.heap.size + 1 < _; omega)).trans (zf 1), (hW.frozen (p := ⟨w.heap.size + 1, 2, none⟩) (by rw [hs1]; show w.heap.size + 1 < _; omega)).trans (zf 2), by have := hW.size; omega, hb1.trans (hW.mono hb1.size)⟩
  obtain ⟨R, hR⟩ : ∃ R, R = runR x.tm f := ⟨_, rfl⟩
  rw [← hR]
  have HR : Hid (R = runR x.tm f) := hR
  have HE : Hid (∀ (o : Out) (er : Int) (W : World), R = (o, er) → Below w.heap.size w W → OutPost R w (.returned (.tuple #[.agg #[.int .i64 o.k, .int .i64 o.n, .bool o.b], .int .i64 er])) (((W.setCell ⟨w.heap.size + 1, 0, none⟩ (.int .i64 o.k)).setCell ⟨w.heap.size + 1, 1, none⟩ (.int .i64 o.n)).setCell ⟨w.heap.size + 1, 2, none⟩ (.bool o.b))) := fun o er W h1 h2 => by
    rw [h1]
    exact ⟨rfl, ((h2.setCell (by simp) _).setCell (by simp) _).setCell (by simp) _⟩
  clear hR hb1 hs1 z0 z1 z2 zf hg hx hnb
  go_enter Tryz.func11, Tryz.ntmps11
  go_wp2_with fail
  rw [← hW1]
  clear hW1
  refine HC.out.mono ?_
  rintro e w2 ⟨hb2, ⟨hgd, rfl⟩ | ⟨hgd, hrd, rfl⟩ | ⟨hgd, y, i, hrd, rfl, hyi, hii, hi44⟩⟩
  · have HR1 : Hid (R = (out0, 1)) := by rw [HR.out]; unfold runR; rw [if_neg (by rw [hgd]; simp)]; rfl
    obtain ⟨W3, hW3⟩ : ∃ W3, W3 = (w2.alloc (.cells #[.int .i64 0, .int .i64 0, .int .i64 0, .slice none 0 0, .int .i64 0, .slice none 0 0, .slice none 0 0] 27)).alloc (.cells #[.int .i64 0, .slice none 0 0] 24) := ⟨_, rfl⟩
    have hA : Below W1.heap.size W1 W3 := hb2.trans ((show Below w2.heap.size w2 W3 by rw [hW3]; exact ((Below.refl _ _).alloc (Nat.le_refl _) _).alloc (by simp) _).mono hb2.size)
    obtain ⟨r0, r1, r2, f0, f1, f2, rl, hB⟩ := HZ.out W3 hA
    have HB : Hid (Below w.heap.size w W3) := hB
    clear hA hB hgd hb2 HC HZ
    go_upto_region 2 with fail
    rw [← hW3]
    clear hW3
    go_wp2_with fail
    obtain ⟨q0, q1, q2⟩ := set3_cells (u := .int .i64 0) (v := .int .i64 0) (z := .bool false) r0 r1 r2
    exact bodyPost_ret (v := .tuple #[.agg #[.int .i64 0, .int .i64 0, .bool false], .int .i64 1]) (by simp [results, Tryz.results11, go_sem, q0, q1, q2]) rfl (HE.out out0 1 W3 HR1.out HB.out)
  · have HR1 : Hid (R = (out0, 2)) := by rw [HR.out]; unfold runR; rw [if_pos hgd, hrd]; rfl
    obtain ⟨W3, hW3⟩ : ∃ W3, W3 = (w2.alloc (.cells #[.int .i64 0, .int .i64 0, .int .i64 0, .slice none 0 0, .int .i64 0, .slice none 0 0, .slice none 0 0] 27)).alloc (.cells #[.int .i64 0, .slice none 0 0] 24) := ⟨_, rfl⟩
    have hA : Below W1.heap.size W1 W3 := hb2.trans ((show Below w2.heap.size w2 W3 by rw [hW3]; exact ((Below.refl _ _).alloc (Nat.le_refl _) _).alloc (by simp) _).mono hb2.size)
    obtain ⟨r0, r1, r2, f0, f1, f2, rl, hB⟩ := HZ.out W3 hA
    have HB : Hid (Below w.heap.size w W3) := hB
    clear hA hB hgd hrd hb2 HC HZ
    go_upto_region 2 with fail
    rw [← hW3]
    clear hW3
    go_wp2_with fail
    obtain ⟨q0, q1, q2⟩ := set3_cells (u := .int .i64 0) (v := .int .i64 0) (z := .bool false) r0 r1 r2
    exact bodyPost_ret (v := .tuple #[.agg #[.int .i64 0, .int .i64 0, .bool false], .int .i64 2]) (by simp [results, Tryz.results11, go_sem, q0, q1, q2]) rfl (HE.out out0 2 W3 HR1.out HB.out)
  · obtain ⟨sy, zy, _⟩ := check_run hgd hrd
    obtain ⟨r, hr⟩ : ∃ r : Out × Int, r = (if f < 0 ∨ 100 < f then (out0, 3) else (runM y.tm f.toNat, 0)) := ⟨_, rfl⟩
    have HR1 : Hid (R = r) := by rw [HR.out, hr]; unfold runR; rw [if_pos hgd, hrd]; exact rfl
    obtain ⟨W3, hW3⟩ : ∃ W3, W3 = (w2.alloc (.cells #[.int .i64 y.k, .int .i64 y.n, .int .i64 y.t.k, .slice y.t.a y.t.l.length y.t.c, .int .i64 y.f.k, .slice y.f.a y.f.l.length y.f.c, .slice y.a y.l.length y.c] 27)).alloc (.cells #[.int .i64 i.k, .slice i.a i.l.length i.c] 24) := ⟨_, rfl⟩
    have hA2 : Below w2.heap.size w2 W3 := by rw [hW3]; exact ((Below.refl _ _).alloc (Nat.le_refl _) _).alloc (by simp) _
    have hA : Below W1.heap.size W1 W3 := hb2.trans (hA2.mono hb2.size)
    have p0 : W3.cell? ⟨w2.heap.size, 0, none⟩ = some (.int .i64 y.k) := by rw [hW3]; simp [go_sem]
    have p1 : W3.cell? ⟨w2.heap.size, 1, none⟩ = some (.int .i64 y.n) := by rw [hW3]; simp [go_sem]
    have p2 : W3.cell? ⟨w2.heap.size, 2, none⟩ = some (.int .i64 y.t.k) := by rw [hW3]; simp [go_sem]
    have p3 : W3.cell? ⟨w2.heap.size, 3, none⟩ = some (.slice y.t.a y.t.l.length y.t.c) := by rw [hW3]; simp [go_sem]
    have p4 : W3.cell? ⟨w2.heap.size, 4, none⟩ = some (.int .i64 y.f.k) := by rw [hW3]; simp [go_sem]
    have p5 : W3.cell? ⟨w2.heap.size, 5, none⟩ = some (.slice y.f.a y.f.l.length y.f.c) := by rw [hW3]; simp [go_sem]
    have p6 : W3.cell? ⟨w2.heap.size, 6, none⟩ = some (.slice y.a y.l.length y.c) := by rw [hW3]; simp [go_sem]
    have HO : Hid (Calls Tryz.prog 26 #[.agg #[.int .i64 y.k, .int .i64 y.n, .int .i64 y.t.k, .slice y.t.a y.t.l.length y.t.c, .int .i64 y.f.k, .slice y.f.a y.f.l.length y.f.c, .slice y.a y.l.length y.c], .int .i64 f] W3 fun e w' => e = .returned (.tuple #[.agg #[.int .i64 r.1.k, .int .i64 r.1.n, .bool r.1.b], .int .i64 r.2]) ∧ Below W1.heap.size W1 w') := by
      refine (outcome_all y f W3 (hyi.below hA2) sy zy).mono ?_
      rintro e w' ⟨he, hb⟩
      rw [hr]
      exact ⟨he, hA.trans (hb.mono hA.size)⟩
    have lw2 : w2.heap.size < W3.heap.size := World.block_lt_of_cell? _ _ p0
    clear hA hA2 hgd hrd hb2 HC hyi hii hi44 sy zy hr
    go_upto_region 2 with fail
    rw [← hW3]
    clear hW3
    go_wp2_with fail
    refine HO.out.mono ?_
    rintro e w4 ⟨rfl, hb4⟩
    obtain ⟨r0, r1, r2, f0, f1, f2, rl, hB⟩ := HZ.out w4 hb4
    have HB : Hid (Below w.heap.size w w4) := hB
    clear hb4 hB HZ p0 p1 p2 p3 p4 p5 p6
    go_wp2_with fail
    obtain ⟨q0, q1, q2⟩ := set3_cells (u := .int .i64 r.1.k) (v := .int .i64 r.1.n) (z := .bool r.1.b) r0 r1 r2
    exact bodyPost_ret (v := .tuple #[.agg #[.int .i64 r.1.k, .int .i64 r.1.n, .bool r.1.b], .int .i64 r.2]) (by simp [results, Tryz.results11, go_sem, q0, q1, q2]) rfl (HE.out r.1 r.2 w4 HR1.out HB.out)
/-- What Text makes of a text. -/
def textR (s : ByteArray) (f : Int) : Out × Int := if 1000 < s.size then (out0, 4) else (match parseS s.data.toList with
  | none => (out0, 1)
  | some x => runR x f)
set_option maxRecDepth 20000 in
set_option maxHeartbeats 8000000 in
/-- Text. -/
theorem textFn_any (s : ByteArray) (hm : s.size ≤ 9223372036854775807) (f : Int) (w : World) (hg : Gl w) : Calls Tryz.prog 17 #[.string s, .int .i64 f] w (OutPost (textR s f) w) := by
  obtain ⟨W1, hW1⟩ : ∃ W, W = w.alloc (.cells #[.int .i64 0, .int .i64 0, .bool false] 29) := ⟨_, rfl⟩
  have hb1 : Below w.heap.size w W1 := by rw [hW1]; exact (Below.refl _ _).alloc (Nat.le_refl _) _
  have hs1 : W1.heap.size = w.heap.size + 1 := by rw [hW1]; simp
  have z0 : W1.cell? ⟨w.heap.size, 0, none⟩ = some (.int .i64 0) := by rw [hW1]; simp [go_sem]
  have z1 : W1.cell? ⟨w.heap.size, 1, none⟩ = some (.int .i64 0) := by rw [hW1]; simp [go_sem]
  have z2 : W1.cell? ⟨w.heap.size, 2, none⟩ = some (.bool false) := by rw [hW1]; simp [go_sem]
  have zf : ∀ i, W1.frozen? ⟨w.heap.size, i, none⟩ = false := by intro i; rw [hW1]; simp [go_sem]
  have HC : Hid (Calls Tryz.prog 18 #[.string s] W1 (PsPost s W1)) := parse_any s hm W1 (hg.below hb1)
  have HZ : Hid (∀ W, Below W1.heap.size W1 W → W.cell? ⟨w.heap.size, 0, none⟩ = some (.int .i64 0) ∧ W.cell? ⟨w.heap.size, 1, none⟩ = some (.int .i64 0) ∧ W.cell? ⟨w.heap.size, 2, none⟩ = some (.bool false) ∧ W.frozen? ⟨w.heap.size, 0, none⟩ = false ∧ W.frozen? ⟨w.heap.size, 1, none⟩ = false ∧ W.frozen? ⟨w.heap.size, 2, none⟩ = false ∧ w.heap.size < W.heap.size ∧ Below w.heap.size w W ∧ Gl W) := fun W hW =>
    ⟨cell_later hW z0, cell_later hW z1, cell_later hW z2, (hW.frozen (p := ⟨w.heap.size, 0, none⟩) (by rw [hs1]; show w.heap.size < _; omega)).trans (zf 0), (hW.frozen (p := ⟨w.heap.size, 1, none⟩) (by rw [hs1]; show w.heap.size < _; omega)).trans (zf 1), (hW.frozen (p := ⟨w.heap.size, 2, none⟩) (by rw [hs1]; show w.heap.size < _; omega)).trans (zf 2), by have := hW.size; omega, hb1.trans (hW.mono hb1.size), hg.below (hb1.trans (hW.mono hb1.size))⟩
  obtain ⟨R, hR⟩ : ∃ R, R = textR s f := ⟨_, rfl⟩
  rw [← hR]
  have HR : Hid (R = textR s f) := hR
  have HE : Hid (∀ (o : Out) (er : Int) (W : World), R = (o, er) → Below w.heap.size w W → OutPost R w (.returned (.tuple #[.agg #[.int .i64 o.k, .int .i64 o.n, .bool o.b], .int .i64 er])) (((W.setCell ⟨w.heap.size, 0, none⟩ (.int .i64 o.k)).setCell ⟨w.heap.size, 1, none⟩ (.int .i64 o.n)).setCell ⟨w.heap.size, 2, none⟩ (.bool o.b))) := fun o er W h1 h2 => by
    rw [h1]
    exact ⟨rfl, ((h2.setCell (by simp) _).setCell (by simp) _).setCell (by simp) _⟩
  clear hR hb1 hs1 z0 z1 z2 zf hg hm
  go_enter Tryz.func17, Tryz.ntmps17
  go_wp2_with fail
  rw [← hW1]
  clear hW1
  refine HC.out.mono ?_
  rintro e w2 ⟨x, er, rfl, hxi, hnb, hb2, hcase⟩
  have hc2 : (er = 0 ∧ Hid (R = runR x.tm f)) ∨ ((er != 0) = true ∧ Hid (R = (out0, er))) := by
    rcases hcase with ⟨h1, rfl, _⟩ | ⟨h1, h2, rfl, _⟩ | ⟨h1, h2, rfl⟩
    · refine .inr ⟨rfl, ?_⟩
      rw [HR.out]; unfold textR; rw [if_pos h1]; exact rfl
    · refine .inr ⟨rfl, ?_⟩
      rw [HR.out]; unfold textR; rw [if_neg (by omega), h2]; exact rfl
    · refine .inl ⟨rfl, ?_⟩
      rw [HR.out]; unfold textR; rw [if_neg (by omega), h2]; exact rfl
  obtain ⟨W3, hW3⟩ : ∃ W3, W3 = w2.alloc (.cells #[.int .i64 x.k, .int .i64 x.n, .int .i64 x.t.k, .slice x.t.a x.t.l.length x.t.c, .int .i64 x.f.k, .slice x.f.a x.f.l.length x.f.c, .slice x.a x.l.length x.c] 27) := ⟨_, rfl⟩
  have hA2 : Below w2.heap.size w2 W3 := by rw [hW3]; exact (Below.refl _ _).alloc (Nat.le_refl _) _
  have hA : Below W1.heap.size W1 W3 := hb2.trans (hA2.mono hb2.size)
  have p0 : W3.cell? ⟨w2.heap.size, 0, none⟩ = some (.int .i64 x.k) := by rw [hW3]; simp [go_sem]
  have p1 : W3.cell? ⟨w2.heap.size, 1, none⟩ = some (.int .i64 x.n) := by rw [hW3]; simp [go_sem]
  have p2 : W3.cell? ⟨w2.heap.size, 2, none⟩ = some (.int .i64 x.t.k) := by rw [hW3]; simp [go_sem]
  have p3 : W3.cell? ⟨w2.heap.size, 3, none⟩ = some (.slice x.t.a x.t.l.length x.t.c) := by rw [hW3]; simp [go_sem]
  have p4 : W3.cell? ⟨w2.heap.size, 4, none⟩ = some (.int .i64 x.f.k) := by rw [hW3]; simp [go_sem]
  have p5 : W3.cell? ⟨w2.heap.size, 5, none⟩ = some (.slice x.f.a x.f.l.length x.f.c) := by rw [hW3]; simp [go_sem]
  have p6 : W3.cell? ⟨w2.heap.size, 6, none⟩ = some (.slice x.a x.l.length x.c) := by rw [hW3]; simp [go_sem]
  have lw2 : w2.heap.size < W3.heap.size := World.block_lt_of_cell? _ _ p0
  obtain ⟨r0, r1, r2, f0, f1, f2, rl, hB, hG3⟩ := HZ.out W3 hA
  have HO : Hid (Calls Tryz.prog 11 #[.agg #[.int .i64 x.k, .int .i64 x.n, .int .i64 x.t.k, .slice x.t.a x.t.l.length x.t.c, .int .i64 x.f.k, .slice x.f.a x.f.l.length x.f.c, .slice x.a x.l.length x.c], .int .i64 f] W3 fun e w' => e = .returned (.tuple #[.agg #[.int .i64 (runR x.tm f).1.k, .int .i64 (runR x.tm f).1.n, .bool (runR x.tm f).1.b], .int .i64 (runR x.tm f).2]) ∧ Below W1.heap.size W1 w') := by
    refine (runFn_any x f W3 hG3.gp (hxi.below hA2) hnb).mono ?_
    rintro e w' ⟨he, hb⟩
    exact ⟨he, hA.trans (hb.mono hA.size)⟩
  have HB : Hid (Below w.heap.size w W3) := hB
  clear hA hA2 hb2 HC hxi hnb hB hG3 hcase HR
  rcases hc2 with ⟨rfl, HR1⟩ | ⟨he, HR1⟩
  · obtain ⟨r, hr⟩ : ∃ r, r = runR x.tm f := ⟨_, rfl⟩
    rw [← hr] at HO HR1
    clear hr r0 r1 r2 f0 f1 f2 rl
    go_upto_region 2 with fail
    rw [← hW3]
    clear hW3
    go_wp2_with fail
    refine HO.out.mono ?_
    rintro e w4 ⟨rfl, hb4⟩
    obtain ⟨r0, r1, r2, f0, f1, f2, rl, hB, _⟩ := HZ.out w4 hb4
    have HB4 : Hid (Below w.heap.size w w4) := hB
    clear hb4 hB HZ p0 p1 p2 p3 p4 p5 p6
    go_wp2_with fail
    obtain ⟨q0, q1, q2⟩ := set3_cells (u := .int .i64 r.1.k) (v := .int .i64 r.1.n) (z := .bool r.1.b) r0 r1 r2
    exact bodyPost_ret (v := .tuple #[.agg #[.int .i64 r.1.k, .int .i64 r.1.n, .bool r.1.b], .int .i64 r.2]) (by simp [results, Tryz.results17, go_sem, q0, q1, q2]) rfl (HE.out r.1 r.2 w4 HR1.out HB4.out)
  · clear HO HZ p0 p1 p2 p3 p4 p5 p6
    go_upto_region 2 with fail
    rw [← hW3]
    clear hW3
    go_wp2_with fail
    obtain ⟨q0, q1, q2⟩ := set3_cells (u := .int .i64 0) (v := .int .i64 0) (z := .bool false) r0 r1 r2
    exact bodyPost_ret (v := .tuple #[.agg #[.int .i64 0, .int .i64 0, .bool false], .int .i64 er]) (by simp [results, Tryz.results17, go_sem, q0, q1, q2]) rfl (HE.out out0 er W3 HR1.out HB.out)
end Go.Proofs.YtnddkmccagiclabGreatDoor

/-
  What the call of ref's RunTerm answers: what Run does.
-/
namespace Go.Proofs.YtnddkmccagiclabGreatDoor
open Go.RowKit
set_option maxRecDepth 20000 in
set_option maxHeartbeats 8000000 in
/-- ref's RunTerm. -/
theorem lawRun_any (x : TT) (f : Int) (w : World) (hx : x.In w) (hsz : x.sz ≤ 2000000) (hok : x.ok 100000000) :
    Calls Tryz.prog 20 #[.agg #[.int .i64 x.k, .int .i64 x.n, .int .i64 x.t.k, .slice x.t.a x.t.l.length x.t.c, .int .i64 x.f.k, .slice x.f.a x.f.l.length x.f.c, .slice x.a x.l.length x.c], .int .i64 f] w (OutPost (runR x.tm f) w) := by
  obtain ⟨W1, hW1⟩ : ∃ W, W = (w.alloc (.cells #[.int .i64 x.k, .int .i64 x.n, .int .i64 x.t.k, .slice x.t.a x.t.l.length x.t.c, .int .i64 x.f.k, .slice x.f.a x.f.l.length x.f.c, .slice x.a x.l.length x.c] 27)).alloc (.cells #[.int .i64 0, .int .i64 0, .bool false] 29) := ⟨_, rfl⟩
  have hb1 : Below w.heap.size w W1 := by rw [hW1]; exact ((Below.refl _ _).alloc (Nat.le_refl _) _).alloc (by simp) _
  have hs1 : W1.heap.size = w.heap.size + 1 + 1 := by rw [hW1]; simp
  have z0 : W1.cell? ⟨w.heap.size + 1, 0, none⟩ = some (.int .i64 0) := by rw [hW1]; simp [go_sem]
  have z1 : W1.cell? ⟨w.heap.size + 1, 1, none⟩ = some (.int .i64 0) := by rw [hW1]; simp [go_sem]
  have z2 : W1.cell? ⟨w.heap.size + 1, 2, none⟩ = some (.bool false) := by rw [hW1]; simp [go_sem]
  have zf : ∀ i, W1.frozen? ⟨w.heap.size + 1, i, none⟩ = false := by intro i; rw [hW1]; simp [go_sem]
  have HC : Hid (Calls Tryz.prog 35 #[.agg #[.int .i64 x.k, .int .i64 x.n, .int .i64 x.t.k, .slice x.t.a x.t.l.length x.t.c, .int .i64 x.f.k, .slice x.f.a x.f.l.length x.f.c, .slice x.a x.l.length x.c]] W1 (CkPost x W1)) := checkTerm_any x W1 (hx.below hb1) hsz hok
  have HZ : Hid (∀ W, Below W1.heap.size W1 W → W.cell? ⟨w.heap.size + 1, 0, none⟩ = some (.int .i64 0) ∧ W.cell? ⟨w.heap.size + 1, 1, none⟩ = some (.int .i64 0) ∧ W.cell? ⟨w.heap.size + 1, 2, none⟩ = some (.bool false) ∧ W.frozen? ⟨w.heap.size + 1, 0, none⟩ = false ∧ W.frozen? ⟨w.heap.size + 1, 1, none⟩ = false ∧ W.frozen? ⟨w.heap.size + 1, 2, none⟩ = false ∧ w.heap.size + 1 < W.heap.size ∧ Below w.heap.size w W) := fun W hW =>
    ⟨cell_later hW z0, cell_later hW z1, cell_later hW z2, (hW.frozen (p := ⟨w.heap.size + 1, 0, none⟩) (by rw [hs1]; show w.heap.size + 1 < _; omega)).trans (zf 0), (hW.frozen (p := ⟨w.heap.size + 1, 1, none⟩) (by rw [hs1]; show w.heap.size + 1 < _; omega)).trans (zf 1), (hW.frozen (p := ⟨w.heap.size + 1, 2, none⟩) (by rw [hs1]; show w.heap.size + 1 < _; omega)).trans (zf 2), by have := hW.size; omega, hb1.trans (hW.mono hb1.size)⟩
  obtain ⟨R, hR⟩ : ∃ R, R = runR x.tm f := ⟨_, rfl⟩
  rw [← hR]
  have HR : Hid (R = runR x.tm f) := hR
  have HE : Hid (∀ (o : Out) (er : Int) (W : World), R = (o, er) → Below w.heap.size w W → OutPost R w (.returned (.tuple #[.agg #[.int .i64 o.k, .int .i64 o.n, .bool o.b], .int .i64 er])) (((W.setCell ⟨w.heap.size + 1, 0, none⟩ (.int .i64 o.k)).setCell ⟨w.heap.size + 1, 1, none⟩ (.int .i64 o.n)).setCell ⟨w.heap.size + 1, 2, none⟩ (.bool o.b))) := fun o er W h1 h2 => by
    rw [h1]
    exact ⟨rfl, ((h2.setCell (by simp) _).setCell (by simp) _).setCell (by simp) _⟩
  clear hR hb1 hs1 z0 z1 z2 zf hx hsz hok
  go_enter Tryz.func20, Tryz.ntmps20
  go_wp2_with fail
  rw [← hW1]
  clear hW1
  refine HC.out.mono ?_
  rintro e w2 ⟨hb2, ⟨hgd, rfl⟩ | ⟨hgd, hrd, rfl⟩ | ⟨hgd, y, i, hrd, rfl, hyi, hii, hi44⟩⟩
  · have HR1 : Hid (R = (out0, 1)) := by rw [HR.out]; unfold runR; rw [if_neg (by rw [hgd]; simp)]; rfl
    obtain ⟨W3, hW3⟩ : ∃ W3, W3 = (w2.alloc (.cells #[.int .i64 0, .int .i64 0, .int .i64 0, .slice none 0 0, .int .i64 0, .slice none 0 0, .slice none 0 0] 27)).alloc (.cells #[.int .i64 0, .slice none 0 0] 24) := ⟨_, rfl⟩
    have hA : Below W1.heap.size W1 W3 := hb2.trans ((show Below w2.heap.size w2 W3 by rw [hW3]; exact ((Below.refl _ _).alloc (Nat.le_refl _) _).alloc (by simp) _).mono hb2.size)
    obtain ⟨r0, r1, r2, f0, f1, f2, rl, hB⟩ := HZ.out W3 hA
    have HB : Hid (Below w.heap.size w W3) := hB
    clear hA hB hgd hb2 HC HZ
    go_upto_region 2 with fail
    rw [← hW3]
    clear hW3
    go_wp2_with fail
    obtain ⟨q0, q1, q2⟩ := set3_cells (u := .int .i64 0) (v := .int .i64 0) (z := .bool false) r0 r1 r2
    exact bodyPost_ret (v := .tuple #[.agg #[.int .i64 0, .int .i64 0, .bool false], .int .i64 1]) (by simp [results, Tryz.results20, go_sem, q0, q1, q2]) rfl (HE.out out0 1 W3 HR1.out HB.out)
  · have HR1 : Hid (R = (out0, 2)) := by rw [HR.out]; unfold runR; rw [if_pos hgd, hrd]; rfl
    obtain ⟨W3, hW3⟩ : ∃ W3, W3 = (w2.alloc (.cells #[.int .i64 0, .int .i64 0, .int .i64 0, .slice none 0 0, .int .i64 0, .slice none 0 0, .slice none 0 0] 27)).alloc (.cells #[.int .i64 0, .slice none 0 0] 24) := ⟨_, rfl⟩
    have hA : Below W1.heap.size W1 W3 := hb2.trans ((show Below w2.heap.size w2 W3 by rw [hW3]; exact ((Below.refl _ _).alloc (Nat.le_refl _) _).alloc (by simp) _).mono hb2.size)
    obtain ⟨r0, r1, r2, f0, f1, f2, rl, hB⟩ := HZ.out W3 hA
    have HB : Hid (Below w.heap.size w W3) := hB
    clear hA hB hgd hrd hb2 HC HZ
    go_upto_region 2 with fail
    rw [← hW3]
    clear hW3
    go_wp2_with fail
    obtain ⟨q0, q1, q2⟩ := set3_cells (u := .int .i64 0) (v := .int .i64 0) (z := .bool false) r0 r1 r2
    exact bodyPost_ret (v := .tuple #[.agg #[.int .i64 0, .int .i64 0, .bool false], .int .i64 2]) (by simp [results, Tryz.results20, go_sem, q0, q1, q2]) rfl (HE.out out0 2 W3 HR1.out HB.out)
  · obtain ⟨sy, zy, hty⟩ := check_run hgd hrd
    have HR1 : Hid (R = (if f < 0 ∨ 100 < f then (out0, 3) else (runM y.tm f.toNat, 0))) := by rw [HR.out]; unfold runR; rw [if_pos hgd, hrd]; exact rfl
    obtain ⟨W3, hW3⟩ : ∃ W3, W3 = (w2.alloc (.cells #[.int .i64 y.k, .int .i64 y.n, .int .i64 y.t.k, .slice y.t.a y.t.l.length y.t.c, .int .i64 y.f.k, .slice y.f.a y.f.l.length y.f.c, .slice y.a y.l.length y.c] 27)).alloc (.cells #[.int .i64 i.k, .slice i.a i.l.length i.c] 24) := ⟨_, rfl⟩
    have hA2 : Below w2.heap.size w2 W3 := by rw [hW3]; exact ((Below.refl _ _).alloc (Nat.le_refl _) _).alloc (by simp) _
    have hA : Below W1.heap.size W1 W3 := hb2.trans (hA2.mono hb2.size)
    have p0 : W3.cell? ⟨w2.heap.size, 0, none⟩ = some (.int .i64 y.k) := by rw [hW3]; simp [go_sem]
    have p1 : W3.cell? ⟨w2.heap.size, 1, none⟩ = some (.int .i64 y.n) := by rw [hW3]; simp [go_sem]
    have p2 : W3.cell? ⟨w2.heap.size, 2, none⟩ = some (.int .i64 y.t.k) := by rw [hW3]; simp [go_sem]
    have p3 : W3.cell? ⟨w2.heap.size, 3, none⟩ = some (.slice y.t.a y.t.l.length y.t.c) := by rw [hW3]; simp [go_sem]
    have p4 : W3.cell? ⟨w2.heap.size, 4, none⟩ = some (.int .i64 y.f.k) := by rw [hW3]; simp [go_sem]
    have p5 : W3.cell? ⟨w2.heap.size, 5, none⟩ = some (.slice y.f.a y.f.l.length y.f.c) := by rw [hW3]; simp [go_sem]
    have p6 : W3.cell? ⟨w2.heap.size, 6, none⟩ = some (.slice y.a y.l.length y.c) := by rw [hW3]; simp [go_sem]
    have lw2 : w2.heap.size < W3.heap.size := World.block_lt_of_cell? _ _ p0
    by_cases hf0 : f < 0
    · have HR2 : Hid (R = (out0, 3)) := by rw [HR1.out, if_pos (by omega)]; rfl
      obtain ⟨r0, r1, r2, f0, f1, f2, rl, hB⟩ := HZ.out W3 hA
      have HB : Hid (Below w.heap.size w W3) := hB
      clear hA hA2 hgd hrd hb2 HC hyi hii hi44 sy zy hty hB HZ HR1
      go_upto_region 2 with fail
      rw [← hW3]
      clear hW3
      go_wp2_with fail
      obtain ⟨q0, q1, q2⟩ := set3_cells (u := .int .i64 0) (v := .int .i64 0) (z := .bool false) r0 r1 r2
      exact bodyPost_ret (v := .tuple #[.agg #[.int .i64 0, .int .i64 0, .bool false], .int .i64 3]) (by simp [results, Tryz.results20, go_sem, q0, q1, q2]) rfl (HE.out out0 3 W3 HR2.out HB.out)
    by_cases hf1 : 100 < f
    · have HR2 : Hid (R = (out0, 3)) := by rw [HR1.out, if_pos (by omega)]; rfl
      obtain ⟨r0, r1, r2, f0, f1, f2, rl, hB⟩ := HZ.out W3 hA
      have HB : Hid (Below w.heap.size w W3) := hB
      clear hA hA2 hgd hrd hb2 HC hyi hii hi44 sy zy hty hB HZ HR1
      go_upto_region 2 with fail
      rw [← hW3]
      clear hW3
      go_wp2_with fail
      obtain ⟨q0, q1, q2⟩ := set3_cells (u := .int .i64 0) (v := .int .i64 0) (z := .bool false) r0 r1 r2
      exact bodyPost_ret (v := .tuple #[.agg #[.int .i64 0, .int .i64 0, .bool false], .int .i64 3]) (by simp [results, Tryz.results20, go_sem, q0, q1, q2]) rfl (HE.out out0 3 W3 HR2.out HB.out)
    · have HR2 : Hid (R = (runM y.tm f.toNat, 0)) := by rw [HR1.out, if_neg (by omega)]; rfl
      have HO : Hid (Calls Tryz.prog 36 #[.agg #[.int .i64 y.k, .int .i64 y.n, .int .i64 y.t.k, .slice y.t.a y.t.l.length y.t.c, .int .i64 y.f.k, .slice y.f.a y.f.l.length y.f.c, .slice y.a y.l.length y.c], .int .i64 f] W3 fun e w' => e = .returned (.agg #[.int .i64 (runM y.tm f.toNat).k, .int .i64 (runM y.tm f.toNat).n, .bool (runM y.tm f.toNat).b]) ∧ Below W1.heap.size W1 w') := by
        have e : ((f.toNat : Nat) : Int) = f := by omega
        have h1 := lawOut_any true y i.ty f.toNat W3 (by omega) (hyi.below hA2) ⟨sy, fun h => by cases h⟩ zy (fun _ => hty)
        rw [e] at h1
        refine h1.mono ?_
        rintro e w' ⟨he, hb⟩
        exact ⟨he, hA.trans (hb.mono hA.size)⟩
      obtain ⟨r, hr⟩ : ∃ r, r = runM y.tm f.toNat := ⟨_, rfl⟩
      rw [← hr] at HO HR2
      clear hA hA2 hgd hrd hb2 HC hyi hii hi44 sy zy hty hr HR1
      go_upto_region 2 with fail
      rw [← hW3]
      clear hW3
      go_wp2_with fail
      refine HO.out.mono ?_
      rintro e w4 ⟨rfl, hb4⟩
      obtain ⟨r0, r1, r2, f0, f1, f2, rl, hB⟩ := HZ.out w4 hb4
      have HB : Hid (Below w.heap.size w w4) := hB
      clear hb4 hB HZ p0 p1 p2 p3 p4 p5 p6
      go_wp2_with fail
      obtain ⟨q0, q1, q2⟩ := set3_cells (u := .int .i64 r.k) (v := .int .i64 r.n) (z := .bool r.b) r0 r1 r2
      exact bodyPost_ret (v := .tuple #[.agg #[.int .i64 r.k, .int .i64 r.n, .bool r.b], .int .i64 0]) (by simp [results, Tryz.results20, go_sem, q0, q1, q2]) rfl (HE.out r 0 w4 HR2.out HB.out)
end Go.Proofs.YtnddkmccagiclabGreatDoor

/-
  What the call of chaperoneref.CopyTerm answers at a term that lies in memory: one alike, of new blocks alone.
-/
namespace Go.Proofs.YtnddkmccagiclabGreatDoor
open Go.RowKit
theorem TT.eta (x : TT) : TT.mk x.k x.n x.t x.f x.a x.c x.l = x := by cases x; rfl
/-- What a call that makes a term leaves. -/
def MadeT (T : Tm) (w : World) (e : Ending) (w' : World) : Prop :=
  ∃ y : TT, e = .returned (.agg #[.int .i64 y.k, .int .i64 y.n, .int .i64 y.t.k, .slice y.t.a y.t.l.length y.t.c, .int .i64 y.f.k, .slice y.f.a y.f.l.length y.f.c, .slice y.a y.l.length y.c]) ∧ y.tm = T ∧ y.In w' ∧ y.Bl (w.heap.size ≤ ·) ∧ Below w.heap.size w w'
set_option maxRecDepth 20000 in
set_option maxHeartbeats 4000000 in
theorem copyTm_step (x : TT) (A : Option Addr) (HA : Hid (A = x.a)) (w : World) (hx : x.In w) (hlw : x.lw) (hcs : x.csz)
    (ih : Hid (∀ (j : Nat) (hj : j < x.l.length) (w : World), x.l[j].In w → Calls Tryz.prog 19 #[.agg #[.int .i64 x.l[j].k, .int .i64 x.l[j].n, .int .i64 x.l[j].t.k, .slice x.l[j].t.a x.l[j].t.l.length x.l[j].t.c, .int .i64 x.l[j].f.k, .slice x.l[j].f.a x.l[j].f.l.length x.l[j].f.c, .slice x.l[j].a x.l[j].l.length x.l[j].c]] w (MadeT x.l[j].tm w))) :
    Calls Tryz.prog 19 #[.agg #[.int .i64 x.k, .int .i64 x.n, .int .i64 x.t.k, .slice x.t.a x.t.l.length x.t.c, .int .i64 x.f.k, .slice x.f.a x.f.l.length x.f.c, .slice A x.l.length x.c]] w (MadeT x.tm w) := by
  have hlen := hlw.len
  obtain ⟨i0, hi0, hz0, hz1, hz2⟩ := info_parts Tryz.info27c
  have HT : Hid (∀ W, x.t.In W → Calls Tryz.prog 34 #[.agg #[.int .i64 x.t.k, .slice x.t.a x.t.l.length x.t.c]] W (Made x.t.ty W)) := fun W h => copy_any _ x.t W h (Nat.le_refl _) hcs.t
  have HF : Hid (∀ W, x.f.In W → Calls Tryz.prog 34 #[.agg #[.int .i64 x.f.k, .slice x.f.a x.f.l.length x.f.c]] W (Made x.f.ty W)) := fun W h => copy_any _ x.f W h (Nat.le_refl _) hcs.f
  obtain ⟨W0, hW0⟩ : ∃ W0, W0 = (w.alloc (.cells #[.int .i64 x.k, .int .i64 x.n, .int .i64 x.t.k, .slice x.t.a x.t.l.length x.t.c, .int .i64 x.f.k, .slice x.f.a x.f.l.length x.f.c, .slice A x.l.length x.c] 27)).alloc (.cells #[.int .i64 0, .int .i64 0, .int .i64 0, .slice none 0 0, .int .i64 0, .slice none 0 0, .slice none 0 0] 27) := ⟨_, rfl⟩
  have hs0 : W0.heap.size = w.heap.size + 1 + 1 := by rw [hW0]; simp
  have hb0 : Below w.heap.size w W0 := by rw [hW0]; exact ((Below.refl _ _).alloc (Nat.le_refl _) _).alloc (by simp) _
  have hbx0 : Box7 W0 w.heap.size ⟨x.k, x.n, x.t, x.f, A, x.c, x.l⟩ := by
    rw [hW0]
    refine ⟨⟨?_, ?_, ?_, ?_, ?_, ?_, ?_⟩, fun i hi => ?_⟩
    all_goals simp [go_sem]
  have hz0' : ZB7 W0 (w.heap.size + 1) := by
    have := ZB7.new (w.alloc (.cells #[.int .i64 x.k, .int .i64 x.n, .int .i64 x.t.k, .slice x.t.a x.t.l.length x.t.c, .int .i64 x.f.k, .slice x.f.a x.f.l.length x.f.c, .slice A x.l.length x.c] 27))
    rw [hW0]
    simpa using this
  have r2 : W0.drew.cell? ⟨w.heap.size, 2, none⟩ = some (.int .i64 x.t.k) := hbx0.at7.c2
  have r3 : W0.drew.cell? ⟨w.heap.size, 3, none⟩ = some (.slice x.t.a x.t.l.length x.t.c) := hbx0.at7.c3
  have r4 : W0.drew.cell? ⟨w.heap.size, 4, none⟩ = some (.int .i64 x.f.k) := hbx0.at7.c4
  have r5 : W0.drew.cell? ⟨w.heap.size, 5, none⟩ = some (.slice x.f.a x.f.l.length x.f.c) := hbx0.at7.c5
  have r6 : W0.drew.cell? ⟨w.heap.size, 6, none⟩ = some (.slice A x.l.length x.c) := hbx0.at7.c6
  have f2 : W0.drew.frozen? ⟨w.heap.size, 2, none⟩ = false := hbx0.fz 2 (by omega)
  have f3 : W0.drew.frozen? ⟨w.heap.size, 3, none⟩ = false := hbx0.fz 3 (by omega)
  have f4 : W0.drew.frozen? ⟨w.heap.size, 4, none⟩ = false := hbx0.fz 4 (by omega)
  have f5 : W0.drew.frozen? ⟨w.heap.size, 5, none⟩ = false := hbx0.fz 5 (by omega)
  have f6 : W0.drew.frozen? ⟨w.heap.size, 6, none⟩ = false := hbx0.fz 6 (by omega)
  have us : w.heap.size < W0.drew.heap.size := hbx0.lt
  have hb1 : Below W0.heap.size W0 W0.drew := (Below.refl _ _).drew
  have HK : Hid (∀ w' : World, Below W0.heap.size W0 w' → w'.cell? ⟨w.heap.size, 2, none⟩ = some (.int .i64 x.t.k) ∧ w'.cell? ⟨w.heap.size, 3, none⟩ = some (.slice x.t.a x.t.l.length x.t.c) ∧ w'.cell? ⟨w.heap.size, 4, none⟩ = some (.int .i64 x.f.k) ∧ w'.cell? ⟨w.heap.size, 5, none⟩ = some (.slice x.f.a x.f.l.length x.f.c)) := fun w' h => ⟨cell_later h r2, cell_later h r3, cell_later h r4, cell_later h r5⟩
  have HW : Hid (W0.heap.size = w.heap.size + 1 + 1 ∧ Below w.heap.size w W0 ∧ Box7 W0 w.heap.size ⟨x.k, x.n, x.t, x.f, A, x.c, x.l⟩ ∧ ZB7 W0 (w.heap.size + 1) ∧ x.In w) := ⟨hs0, hb0, hbx0, hz0', hx⟩
  clear hs0 hb0 hbx0 hz0' hcs hlw
  go_enter Tryz.func19, Tryz.ntmps19
  go_upto_region 1 with fail
  rw [← hW0]
  clear hW0
  go_cut [] (fun wx => Hid (∃ (t f : Tr) (w3 : World), wx = (((w3.setCell ⟨w.heap.size, 2, none⟩ (.int .i64 t.k)).setCell ⟨w.heap.size, 3, none⟩ (.slice t.a t.l.length t.c)).setCell ⟨w.heap.size, 4, none⟩ (.int .i64 f.k)).setCell ⟨w.heap.size, 5, none⟩ (.slice f.a f.l.length f.c) ∧ t.ty = x.t.ty ∧ f.ty = x.f.ty ∧ Below W0.heap.size W0 w3 ∧ t.In w3 ∧ f.In w3 ∧ t.Bl (W0.heap.size ≤ ·) ∧ f.Bl (W0.heap.size ≤ ·)))
  case first =>
    go_region_law
        (first
          | (go_simp; go_at_call 34; refine (HT.out _ ((HW.out.2.2.2.2.below HW.out.2.1).below hb1).t).mono ?_; rintro e w2 ⟨t, rfl, ht, hin, hbl, hb2⟩; have hb12 := hb1.trans (hb2.mono hb1.size); replace r2 := cell_later hb2 r2; replace r3 := cell_later hb2 r3; replace r4 := cell_later hb2 r4; replace r5 := cell_later hb2 r5; replace r6 := cell_later hb2 r6; replace f2 := (hb2.frozen (p := ⟨w.heap.size, 2, none⟩) us).trans f2; replace f3 := (hb2.frozen (p := ⟨w.heap.size, 3, none⟩) us).trans f3; replace f4 := (hb2.frozen (p := ⟨w.heap.size, 4, none⟩) us).trans f4; replace f5 := (hb2.frozen (p := ⟨w.heap.size, 5, none⟩) us).trans f5; replace f6 := (hb2.frozen (p := ⟨w.heap.size, 6, none⟩) us).trans f6; replace us : w.heap.size < w2.heap.size := World.block_lt_of_cell? _ _ r2; clear HT; go_wp2_with fail)
          | (go_simp; go_at_call 34; refine (HF.out _ ((HW.out.2.2.2.2.below HW.out.2.1).below hb12).f).mono ?_; rintro e w3 ⟨f, rfl, hft, hfin, hfbl, hb3⟩; have hb13 := hb12.trans (hb3.mono hb12.size); replace r2 := cell_later hb3 r2; replace r3 := cell_later hb3 r3; replace r4 := cell_later hb3 r4; replace r5 := cell_later hb3 r5; replace r6 := cell_later hb3 r6; replace f2 := (hb3.frozen (p := ⟨w.heap.size, 2, none⟩) us).trans f2; replace f3 := (hb3.frozen (p := ⟨w.heap.size, 3, none⟩) us).trans f3; replace f4 := (hb3.frozen (p := ⟨w.heap.size, 4, none⟩) us).trans f4; replace f5 := (hb3.frozen (p := ⟨w.heap.size, 5, none⟩) us).trans f5; replace f6 := (hb3.frozen (p := ⟨w.heap.size, 6, none⟩) us).trans f6; replace us : w.heap.size < w3.heap.size := World.block_lt_of_cell? _ _ r2; clear HF; go_wp2_with fail))
    all_goals
      go_wp2_with fail
      go_meet
      case rel => exact ⟨t, f, w3, rfl, ht, hft, hb13, hin.below hb3, hfin, hbl.mono fun b h => Nat.le_trans hb1.size h, hfbl.mono fun b h => Nat.le_trans hb12.size h⟩
  case rest =>
  obtain ⟨t, f, w3, hwx, htt, hft, hb3, hti, hfi, hbt, hbf⟩ := hcut.out
  have HX0 : Hid (TT.mk x.k x.n x.t x.f A x.c x.l = x) := by
    have h := HA.out
    show _ = _
    rw [h]
    exact TT.eta x
  have hbx3 : Box7 w3 w.heap.size x := by
    have := HW.out.2.2.1
    rw [HX0.out] at this
    exact this.below hb3
  have HL : Hid (CT w.heap.size x t f 0 (.slice none 0 0) [] w (((((w3.setCell ⟨w.heap.size, 2, none⟩ (.int .i64 t.k)).setCell ⟨w.heap.size, 3, none⟩ (.slice t.a t.l.length t.c)).setCell ⟨w.heap.size, 4, none⟩ (.int .i64 f.k)).setCell ⟨w.heap.size, 5, none⟩ (.slice f.a f.l.length f.c)).setCell ⟨w.heap.size, 6, none⟩ (.slice none 0 0))) :=
    CT.start (HW.out.2.1.trans (hb3.mono HW.out.2.1.size)) hbx3 (HW.out.2.2.2.1.later hb3) hti hfi (hbt.mono fun b h => by have := HW.out.1; omega) (hbf.mono fun b h => by have := HW.out.1; omega)
  have HTY : Hid (t.ty = x.t.ty ∧ f.ty = x.f.ty) := ⟨htt, hft⟩
  have hA6 : w3.cell? ⟨w.heap.size, 6, none⟩ = some (.slice A x.l.length x.c) := by rw [HA.out]; exact hbx3.at7.c6
  have hF6 : w3.frozen? ⟨w.heap.size, 6, none⟩ = false := hbx3.fz 6 (by omega)
  have g6 : ((((w3.setCell ⟨w.heap.size, 2, none⟩ (.int .i64 t.k)).setCell ⟨w.heap.size, 3, none⟩ (.slice t.a t.l.length t.c)).setCell ⟨w.heap.size, 4, none⟩ (.int .i64 f.k)).setCell ⟨w.heap.size, 5, none⟩ (.slice f.a f.l.length f.c)).cell? ⟨w.heap.size, 6, none⟩ = some (.slice A x.l.length x.c) := by
    rw [World.cell?_setCell_other _ _ _ _ (by simp), World.cell?_setCell_other _ _ _ _ (by simp), World.cell?_setCell_other _ _ _ _ (by simp), World.cell?_setCell_other _ _ _ _ (by simp)]
    exact hA6
  have gf6 : ((((w3.setCell ⟨w.heap.size, 2, none⟩ (.int .i64 t.k)).setCell ⟨w.heap.size, 3, none⟩ (.slice t.a t.l.length t.c)).setCell ⟨w.heap.size, 4, none⟩ (.int .i64 f.k)).setCell ⟨w.heap.size, 5, none⟩ (.slice f.a f.l.length f.c)).frozen? ⟨w.heap.size, 6, none⟩ = false := by
    simp only [World.frozen?_setCell]
    exact hF6
  rw [← hwx] at g6 gf6 HL
  clear hcut hwx htt hft hb3 hti hfi hbt hbf hbx3 hA6 hF6 HX0 HK HT HF r2 r3 r4 r5 r6 f2 f3 f4 f5 f6 us hb1
  go_wp2_with fail
  go_loopg [19] x.l.length (fun g i wr => ∃ (j : Nat) (v : Value) (cs : List TT), j ≤ x.l.length ∧ g = x.l.length - j ∧ i = .int .i64 (j : Int) ∧ Hid (CT w.heap.size x t f j v cs w wr))
  case atStart => exact ⟨0, _, _, Nat.zero_le _, rfl, rfl, HL⟩
  case round =>
    obtain ⟨j, v, cs, hj, hg, rfl, HC⟩ := hrel
    have HG : Hid (gk = x.l.length - j) := hg
    clear hg HL g6 gf6
    have hsw : w.heap.size + 1 < wr.heap.size := HC.out.z.lt
    by_cases hlt : j < x.l.length
    · obtain ⟨b, o, ea, ⟨x0, x1, x2, x3, x4, x5, x6⟩, hxj⟩ := hx.part j hlt
      have eA : A = some ⟨b, o, none⟩ := HA.out.trans ea
      subst eA
      clear ea HA
      have hbwr := HC.out.low
      replace x0 := cell_later hbwr x0
      replace x1 := cell_later hbwr x1
      replace x2 := cell_later hbwr x2
      replace x3 := cell_later hbwr x3
      replace x4 := cell_later hbwr x4
      replace x5 := cell_later hbwr x5
      replace x6 := cell_later hbwr x6
      have i1 : (j : Int) < (x.l.length : Int) := by omega
      have i2 : (0 : Int) ≤ (j : Int) := by omega
      have lb : b < wr.heap.size := World.block_lt_of_cell? _ _ x0
      have hcb : cs.length ≤ 1353245080299 := by have := HC.out.len hj; omega
      have hb1 : Below wr.heap.size wr (wr.alloc (.cells #[.int .i64 x.l[j].k, .int .i64 x.l[j].n, .int .i64 x.l[j].t.k, .slice x.l[j].t.a x.l[j].t.l.length x.l[j].t.c, .int .i64 x.l[j].f.k, .slice x.l[j].f.a x.l[j].f.l.length x.l[j].f.c, .slice x.l[j].a x.l[j].l.length x.l[j].c] 27)).drew := ((Below.refl _ _).alloc (Nat.le_refl _) _).drew
      have HI : Hid (Calls Tryz.prog 19 #[.agg #[.int .i64 x.l[j].k, .int .i64 x.l[j].n, .int .i64 x.l[j].t.k, .slice x.l[j].t.a x.l[j].t.l.length x.l[j].t.c, .int .i64 x.l[j].f.k, .slice x.l[j].f.a x.l[j].f.l.length x.l[j].f.c, .slice x.l[j].a x.l[j].l.length x.l[j].c]] (wr.alloc (.cells #[.int .i64 x.l[j].k, .int .i64 x.l[j].n, .int .i64 x.l[j].t.k, .slice x.l[j].t.a x.l[j].t.l.length x.l[j].t.c, .int .i64 x.l[j].f.k, .slice x.l[j].f.a x.l[j].f.l.length x.l[j].f.c, .slice x.l[j].a x.l[j].l.length x.l[j].c] 27)).drew (MadeT x.l[j].tm (wr.alloc (.cells #[.int .i64 x.l[j].k, .int .i64 x.l[j].n, .int .i64 x.l[j].t.k, .slice x.l[j].t.a x.l[j].t.l.length x.l[j].t.c, .int .i64 x.l[j].f.k, .slice x.l[j].f.a x.l[j].f.l.length x.l[j].f.c, .slice x.l[j].a x.l[j].l.length x.l[j].c] 27)).drew)) := ih.out j hlt _ ((hxj.below hbwr).below hb1)
      obtain ⟨a0, c0, hv0, hbx⟩ := HC.out.box
      have q1 : wr.cell? ⟨w.heap.size, 6, none⟩ = some v := by rw [hv0]; exact hbx.at7.c6
      have qf : wr.frozen? ⟨w.heap.size, 6, none⟩ = false := hbx.fz 6 (by omega)
      have hnv : v.ownBlock ≠ some w.heap.size := fun e => by have := (HC.out.row.lt _ e).1; omega
      have hown := HC.out.row.own
      clear ih hx hbx hv0 HW
      go_wp2_with fail
      have u1 : (wr.alloc (.cells #[.int .i64 x.l[j].k, .int .i64 x.l[j].n, .int .i64 x.l[j].t.k, .slice x.l[j].t.a x.l[j].t.l.length x.l[j].t.c, .int .i64 x.l[j].f.k, .slice x.l[j].f.a x.l[j].f.l.length x.l[j].f.c, .slice x.l[j].a x.l[j].l.length x.l[j].c] 27)).drew.cell? ⟨w.heap.size, 6, none⟩ = some v := cell_later hb1 q1
      have uf : (wr.alloc (.cells #[.int .i64 x.l[j].k, .int .i64 x.l[j].n, .int .i64 x.l[j].t.k, .slice x.l[j].t.a x.l[j].t.l.length x.l[j].t.c, .int .i64 x.l[j].f.k, .slice x.l[j].f.a x.l[j].f.l.length x.l[j].f.c, .slice x.l[j].a x.l[j].l.length x.l[j].c] 27)).drew.frozen? ⟨w.heap.size, 6, none⟩ = false := (hb1.frozen (p := ⟨w.heap.size, 6, none⟩) (show w.heap.size < wr.heap.size by omega)).trans qf
      have uo : (wr.alloc (.cells #[.int .i64 x.l[j].k, .int .i64 x.l[j].n, .int .i64 x.l[j].t.k, .slice x.l[j].t.a x.l[j].t.l.length x.l[j].t.c, .int .i64 x.l[j].f.k, .slice x.l[j].f.a x.l[j].f.l.length x.l[j].f.c, .slice x.l[j].a x.l[j].l.length x.l[j].c] 27)).drew.ownsRow (w.heap.size + 1 + 1) 27 7 v cs.length (cells7 cs) := ownsRow_below hown hb1
      have us : w.heap.size < (wr.alloc (.cells #[.int .i64 x.l[j].k, .int .i64 x.l[j].n, .int .i64 x.l[j].t.k, .slice x.l[j].t.a x.l[j].t.l.length x.l[j].t.c, .int .i64 x.l[j].f.k, .slice x.l[j].f.a x.l[j].f.l.length x.l[j].f.c, .slice x.l[j].a x.l[j].l.length x.l[j].c] 27)).drew.heap.size := World.block_lt_of_cell? _ _ u1
      clear q1 qf hown
      go_region_law
        (first
          | (go_simp; go_at_call 19; refine HI.out.mono ?_; rintro e w2 ⟨y, rfl, hyt, hin, hbl, hb2⟩; replace u1 := cell_later hb2 u1; replace uf := (hb2.frozen (p := ⟨w.heap.size, 6, none⟩) us).trans uf; replace uo := ownsRow_below uo hb2; replace us : w.heap.size < w2.heap.size := World.block_lt_of_cell? _ _ u1; have hnew := heap_alloc_new w2 (.cells #[.int .i64 y.k, .int .i64 y.n, .int .i64 y.t.k, .slice y.t.a y.t.l.length y.t.c, .int .i64 y.f.k, .slice y.f.a y.f.l.length y.f.c, .slice y.a y.l.length y.c] 27); have un : w.heap.size ≠ w2.heap.size := Nat.ne_of_lt us; go_wp2_with fail)
          | (refine step_append_lies _ (by rfl) _ _ _ (by rfl) (w.heap.size + 1 + 1) 27 i0 _ 7 104 Tryz.underlying25 hi0 hz0 hz1 hz2 rfl (by omega) v cs.length (cells7 cs) (by rfl) (uo.alloc _)
                ⟨w2.heap.size, 0, none⟩ 1 1 [.int .i64 y.k, .int .i64 y.n, .int .i64 y.t.k, .slice y.t.a y.t.l.length y.t.c, .int .i64 y.f.k, .slice y.f.a y.f.l.length y.f.c, .slice y.a y.l.length y.c] (by rfl) (by rfl) (World.news_of_block (cs := #[.int .i64 y.k, .int .i64 y.n, .int .i64 y.t.k, .slice y.t.a y.t.l.length y.t.c, .int .i64 y.f.k, .slice y.f.a y.f.l.length y.f.c, .slice y.a y.l.length y.c]) (t := 27) (fr := (0, 0)) hnew) (by simp [Value.oneCell'])
                (by omega) (by unfold maxLen; omega) (by omega) (by have := hb2.size; simp at this ⊢; omega) (w2.heap.size + 1) (by simp) ?_; intro gg cap1 w3' hown1 hgrow hat hlt3; have hcr : w3'.cell? ⟨w.heap.size, 6, none⟩ = some v := (by rw [hgrow.cell_far _ (by simp; omega) (Ne.symm hnv)]; exact cell_later ((Below.refl _ _).alloc (Nat.le_refl _) _) u1); have hfr : w3'.frozen? ⟨w.heap.size, 6, none⟩ = false := (by rw [hgrow.frozen_far _ (by simp; omega) (Ne.symm hnv)]; exact (((Below.refl _ _).alloc (Nat.le_refl _) _).frozen (p := ⟨w.heap.size, 6, none⟩) us).trans uf)))
      all_goals
        have HN : Hid (CT w.heap.size x t f (j + 1) (.slice (some ⟨gg, 0, none⟩) (cs.length + 1) cap1) (cs ++ [y]) w (w3'.setCell ⟨w.heap.size, 6, none⟩ (.slice (some ⟨gg, 0, none⟩) (cs.length + 1) cap1))) := HC.out.step hlt hb1 hyt hin hbl hb2 hown1 hgrow hat
        clear hown1 hgrow hat hcr hfr hyt hin hbl hb2 uo uf u1 HI HC
        go_wp2_with fail
        go_roundg (x.l.length - (j + 1))
        case measure => rw [HG.out]; omega
        case rel => exact ⟨j + 1, _, _, by omega, rfl, by go_num, HN⟩
    · have hjl : j = x.l.length := by omega
      obtain ⟨a, c, hv, hbx⟩ := HC.out.box
      obtain ⟨a', c', hv', htree⟩ := HC.out.row.tree
      rw [hv] at hv'
      obtain ⟨rfl, rfl⟩ : a = a' ∧ c = c' := by cases hv'; exact ⟨rfl, rfl⟩
      have hti := htree x.k x.n t f HC.out.tin.1 HC.out.fin.1
      have hbl := hti.2 (fun b => w.heap.size + 1 + 1 ≤ b) (fun b hb => hb) (HC.out.tin.2.mono fun b hb => hb.1) (HC.out.fin.2.mono fun b hb => hb.1)
      have htm : (TT.mk x.k x.n t f a c cs).tm = x.tm := by
        have h := HC.out.tm
        rw [hjl, List.take_length] at h
        have h2 := HTY.out
        obtain ⟨xk, xn, xt, xf, xa, xc, xl⟩ := x
        dsimp only at h h2 ⊢
        rw [TT.tm_mk, TT.tm_mk, h, h2.1, h2.2]
      have hzr := HC.out.z
      have HN : Hid (MadeT x.tm w (.returned (.agg #[.int .i64 x.k, .int .i64 x.n, .int .i64 t.k, .slice t.a t.l.length t.c, .int .i64 f.k, .slice f.a f.l.length f.c, .slice a cs.length c])) (put7 wr (w.heap.size + 1) (TT.mk x.k x.n t f a c cs))) := by
        have hk := put7_kept (w := wr) (J := w.heap.size + 1) (x := TT.mk x.k x.n t f a c cs)
        refine ⟨TT.mk x.k x.n t f a c cs, rfl, htm, hti.1.keptR hk (hbl.mono fun b hb => by omega), hbl.mono fun b hb => by omega, ?_⟩
        exact HC.out.low.trans ((hk.below (by simp) (Nat.le_of_lt hzr.lt)).mono (by omega))
      obtain ⟨e0, e1, e2, e3, e4, e5, e6⟩ := (put7_box (x := TT.mk x.k x.n t f a c cs) hzr.box).at7
      simp only [Nat.zero_add] at e0 e1 e2 e3 e4 e5 e6
      obtain ⟨q0, q1, q2, q3, q4, q5, q6⟩ := hbx.at7
      simp only [Nat.zero_add] at q0 q1 q2 q3 q4 q5 q6
      obtain ⟨⟨y0, y1, y2, y3, y4, y5, y6⟩, f0, f1, f2, f3, f4, f5, f6⟩ := hzr
      clear HC hbx hti hbl htm htree hv' hv ih HW HTY HG
      go_wp2_with fail
      refine bodyPost_ret (v := .agg #[.int .i64 x.k, .int .i64 x.n, .int .i64 t.k, .slice t.a t.l.length t.c, .int .i64 f.k, .slice f.a f.l.length f.c, .slice a cs.length c]) ?_ rfl HN.out
      unfold put7 at e0 e1 e2 e3 e4 e5 e6
      simp [results, Tryz.results19, go_sem, e0, e1, e2, e3, e4, e5, e6]
/-- chaperoneref.CopyTerm. -/
theorem copyTm_any : ∀ (x : TT) (w : World), x.In w → x.lw → x.csz → Calls Tryz.prog 19 #[.agg #[.int .i64 x.k, .int .i64 x.n, .int .i64 x.t.k, .slice x.t.a x.t.l.length x.t.c, .int .i64 x.f.k, .slice x.f.a x.f.l.length x.f.c, .slice x.a x.l.length x.c]] w (MadeT x.tm w) := by
  intro x
  induction x using TT.ind with
  | h k n t f a c l ih =>
    intro w hx hl hc
    exact copyTm_step ⟨k, n, t, f, a, c, l⟩ a rfl w hx hl hc (fun j hj w h1 => ih _ (List.getElem_mem hj) w h1 (hl.mem (List.getElem_mem hj)) (hc.mem (List.getElem_mem hj)))
end Go.Proofs.YtnddkmccagiclabGreatDoor

/-
  Plain mathematics of check: each term is cast once at most, between types that fit and are not alike; without casts it is the term; no program in it.
-/
namespace Go.Proofs.YtnddkmccagiclabGreatDoor
/-- A term without casts, As and types. -/
def eraseM : Tm → Tm
  | ⟨k, n, _, _, l⟩ => match l.map fun x => eraseM x with
    | [x] => if k = 9 ∨ k = 10 then x else ⟨k, n, anyY, anyY, [x]⟩
    | m => ⟨k, n, anyY, anyY, m⟩
/-- Of a term whose parts are erased. -/
def eraseT (k n : Int) : List Tm → Tm
  | [x] => if k = 9 ∨ k = 10 then x else ⟨k, n, anyY, anyY, [x]⟩
  | m => ⟨k, n, anyY, anyY, m⟩
theorem eraseM_mk (k n : Int) (t f : Ty) (l : List Tm) : eraseM ⟨k, n, t, f, l⟩ = eraseT k n (l.map eraseM) := by
  rw [eraseM]
  rfl
/-- A cast, as it should be. -/
def siteOk (m : Nat) (s : Int × Ty × Ty) : Prop := goodY m s.2.1 = true ∧ goodY m s.2.2 = true ∧ relY escFits s.2.1 s.2.2 = true ∧ relY escSame s.2.1 s.2.2 = false
/-- The casts of what came of a term: between its number and the number behind it; growing; as they should be; how many nodes; what is left without them. -/
structure SitesOk (m : Nat) (x y : Tm) (lo hi : Nat) : Prop where
  inn : ∀ s, s ∈ sitesM y → (lo : Int) ≤ s.1 ∧ s.1 < (hi : Int) ∧ siteOk m s
  grow : ((sitesM y).map fun s => s.1).Pairwise (· < ·)
  sz : y.sz = x.sz + (sitesM y).length
  er : eraseM y = eraseM x
end Go.Proofs.YtnddkmccagiclabGreatDoor

/-
  What the call of ref's EraseTerm answers.
-/
namespace Go.Proofs.YtnddkmccagiclabGreatDoor
open Go.RowKit
theorem erase_tm (x : TT) : eraseM x.tm = eraseT x.k x.n ((x.l.map TT.tm).map eraseM) := by
  obtain ⟨k, n, t, f, a, c, l⟩ := x
  rw [TT.tm_mk, eraseM_mk]
theorem erase_one (x y : TT) (hl : x.l = [y]) (hk : x.k = 9 ∨ x.k = 10) : eraseM x.tm = eraseM y.tm := by
  rw [erase_tm, hl]
  exact if_pos hk
theorem erase_else (x : TT) (h : ¬ ((x.k = 9 ∨ x.k = 10) ∧ x.l.length = 1)) : eraseM x.tm = ⟨x.k, x.n, anyY, anyY, (x.l.map TT.tm).map eraseM⟩ := by
  rw [erase_tm]
  have hlen : ((x.l.map TT.tm).map eraseM).length = x.l.length := by simp
  generalize (x.l.map TT.tm).map eraseM = m at hlen
  match m, hlen with
  | [], _ => rfl
  | [y], hl => exact if_neg fun hk => h ⟨hk, by simpa using hl.symm⟩
  | y :: z :: r, _ => rfl
set_option maxRecDepth 20000 in
set_option maxHeartbeats 4000000 in
theorem eraseTm_step (x : TT) (w : World) (hx : x.In w) (hsz : x.sz ≤ 1000)
    (ih : Hid (∀ y : TT, y.sz < x.sz → ∀ W : World, y.In W → Calls Tryz.prog 38 #[.agg #[.int .i64 y.k, .int .i64 y.n, .int .i64 y.t.k, .slice y.t.a y.t.l.length y.t.c, .int .i64 y.f.k, .slice y.f.a y.f.l.length y.f.c, .slice y.a y.l.length y.c]] W (MadeT (eraseM y.tm) W))) :
    Calls Tryz.prog 38 #[.agg #[.int .i64 x.k, .int .i64 x.n, .int .i64 x.t.k, .slice x.t.a x.t.l.length x.t.c, .int .i64 x.f.k, .slice x.f.a x.f.l.length x.f.c, .slice x.a x.l.length x.c]] w (MadeT (eraseM x.tm) w) := by
  obtain ⟨W1, hW1⟩ : ∃ W, W = (w.alloc (.cells #[.int .i64 x.k, .int .i64 x.n, .int .i64 x.t.k, .slice x.t.a x.t.l.length x.t.c, .int .i64 x.f.k, .slice x.f.a x.f.l.length x.f.c, .slice x.a x.l.length x.c] 27)).alloc (.cells #[.int .i64 0, .int .i64 0, .int .i64 0, .slice none 0 0, .int .i64 0, .slice none 0 0, .slice none 0 0] 27) := ⟨_, rfl⟩
  have hb1 : Below w.heap.size w W1 := by rw [hW1]; exact ((Below.refl _ _).alloc (Nat.le_refl _) _).alloc (by simp) _
  have hs1 : W1.heap.size = w.heap.size + 1 + 1 := by rw [hW1]; simp
  have hbx1 : Box7 W1 w.heap.size x := by
    rw [hW1]
    refine ⟨⟨?_, ?_, ?_, ?_, ?_, ?_, ?_⟩, fun i hi => ?_⟩ <;> simp [go_sem]
  have hz1 : ZB7 W1 (w.heap.size + 1) := by
    rw [hW1]
    refine ⟨⟨?_, ?_, ?_, ?_, ?_, ?_, ?_⟩, ?_, ?_, ?_, ?_, ?_, ?_, ?_⟩ <;> simp [go_sem]
  have HW : Hid (Below w.heap.size w W1 ∧ W1.heap.size = w.heap.size + 1 + 1 ∧ ZB7 W1 (w.heap.size + 1)) := ⟨hb1, hs1, hz1⟩
  have HX : Hid (Box7 W1 w.heap.size x ∧ x.In W1 ∧ x.Bl (· < w.heap.size)) := ⟨hbx1, hx.below hb1, hx.bl⟩
  clear hx hb1 hs1 hbx1 hz1
  go_enter Tryz.func38, Tryz.ntmps38
  refine wp_seq_k fun K0 hK0 => ?_
  go_cut [1, 2] (fun s1 s2 wx => s1 = .pointer (some ⟨w.heap.size, 0, none⟩) ∧ s2 = .pointer (some ⟨w.heap.size + 1, 0, none⟩) ∧ wx = W1)
  case first =>
    go_wp2_with fail
    go_meet
    case rel => exact ⟨rfl, rfl, hW1.symm⟩
  obtain ⟨h1, h2, h3⟩ := hcut
  subst h1 h2
  rw [h3]
  clear h3 hW1
  apply_assumption
  refine wp_seq_k fun K1 hK1 => ?_
  go_cut [] (fun wx => Hid (∃ p : TT, ¬ ((p.k = 9 ∨ p.k = 10) ∧ p.l.length = 1) ∧ Box7 wx w.heap.size p ∧ p.In wx ∧ p.Bl (· < w.heap.size) ∧ eraseM p.tm = eraseM x.tm ∧ p.sz ≤ x.sz ∧ Kept w.heap.size none W1 wx ∧ wx.heap.size = W1.heap.size))
  case first =>
    go_wp2_with fail
    go_loopg [] x.sz (fun g wr => ∃ p : TT, g = p.sz ∧ Hid (Box7 wr w.heap.size p ∧ p.In wr ∧ p.Bl (· < w.heap.size) ∧ eraseM p.tm = eraseM x.tm ∧ p.sz ≤ x.sz ∧ Kept w.heap.size none W1 wr ∧ wr.heap.size = W1.heap.size))
    case atStart => exact ⟨x, rfl, HX.out.1, HX.out.2.1, HX.out.2.2, rfl, Nat.le_refl _, Kept.of_below (Below.refl _ _), rfl⟩
    case round =>
      obtain ⟨p, hg, HR⟩ := hrel
      have HG : Hid (gk = p.sz) := hg
      clear hg HX
      obtain ⟨q0, q1, q2, q3, q4, q5, q6⟩ := HR.out.1.at7
      simp only [Nat.zero_add] at q0 q1 q2 q3 q4 q5 q6
      have lw : w.heap.size < wr.heap.size := World.block_lt_of_cell? _ _ q0
      by_cases hC : (p.k = 9 ∨ p.k = 10) ∧ p.l.length = 1
      · have e1 : decide (9 ≤ p.k) = true := by simp; omega
        have e2 : decide (p.k ≤ 10) = true := by simp; omega
        obtain ⟨y, hl⟩ : ∃ y, p.l = [y] := by
          match h : p.l, hC.2 with
          | [y], _ => exact ⟨y, rfl⟩
        obtain ⟨b, o, ea, ⟨c0, c1, c2, c3, c4, c5, c6⟩, hyi⟩ := HR.out.2.1.part 0 (by rw [hl]; simp)
        simp only [hl, List.getElem_cons_zero, Nat.zero_mul, Nat.add_zero] at c0 c1 c2 c3 c4 c5 c6 hyi
        have hyb : y.Bl (· < w.heap.size) := HR.out.2.2.1.mem (by rw [hl]; simp)
        have hbb : b < w.heap.size := HR.out.2.2.1.own (by rw [hl]; simp) _ ea
        have hbne : b ≠ w.heap.size := by omega
        have lb : b < wr.heap.size := by omega
        have hlen : p.l.length = 1 := hC.2
        have hsy : y.sz < p.sz := by have := p.sz_eq; rw [hl] at this; simp at this; omega
        have hfz := HR.out.1.fz
        have f0 := hfz 0 (by omega)
        have f1 := hfz 1 (by omega)
        have f2 := hfz 2 (by omega)
        have f3 := hfz 3 (by omega)
        have f4 := hfz 4 (by omega)
        have f5 := hfz 5 (by omega)
        have f6 := hfz 6 (by omega)
        have HN : Hid (Box7 (put7 wr w.heap.size y) w.heap.size y ∧ y.In (put7 wr w.heap.size y) ∧ y.Bl (· < w.heap.size) ∧ eraseM y.tm = eraseM x.tm ∧ y.sz ≤ x.sz ∧ Kept w.heap.size none W1 (put7 wr w.heap.size y) ∧ (put7 wr w.heap.size y).heap.size = W1.heap.size) := by
          refine ⟨put7_box HR.out.1, hyi.keptR put7_kept (hyb.mono fun b hb => by omega), hyb, ?_, ?_, HR.out.2.2.2.2.2.1.trans put7_kept, ?_⟩
          · rw [← erase_one p y hl hC.1]
            exact HR.out.2.2.2.1
          · have := HR.out.2.2.2.2.1
            omega
          · rw [← HR.out.2.2.2.2.2.2]
            simp [put7, World.setCell]
        rw [hlen, ea] at q6
        unfold put7 at HN
        clear HR hC hl ea hyi hyb hlen hfz
        go_wp2_with fail
        go_roundg y.sz
        case measure => rw [HG.out]; exact hsy
        case rel => exact ⟨y, rfl, HN⟩
      · have HN : Hid (∃ p : TT, ¬ ((p.k = 9 ∨ p.k = 10) ∧ p.l.length = 1) ∧ Box7 wr w.heap.size p ∧ p.In wr ∧ p.Bl (· < w.heap.size) ∧ eraseM p.tm = eraseM x.tm ∧ p.sz ≤ x.sz ∧ Kept w.heap.size none W1 wr ∧ wr.heap.size = W1.heap.size) := ⟨p, hC, HR.out⟩
        by_cases h9 : 9 ≤ p.k
        · have e1 : decide (9 ≤ p.k) = true := by simpa using h9
          by_cases h10 : p.k ≤ 10
          · have e2 : decide (p.k ≤ 10) = true := by simpa using h10
            have e3 : ((p.l.length : Int) == 1) = false := by
              have : p.l.length ≠ 1 := fun h => hC ⟨by omega, h⟩
              simp; omega
            clear HR hC h9 h10
            go_wp2_with fail
            go_meet
            case rel => exact HN
          · have e2 : decide (p.k ≤ 10) = false := by simpa using h10
            clear HR hC h9 h10
            go_wp2_with fail
            go_meet
            case rel => exact HN
        · have e1 : decide (9 ≤ p.k) = false := by simpa using h9
          clear HR hC h9
          go_wp2_with fail
          go_meet
          case rel => exact HN
  case rest =>
  obtain ⟨p, hC, hbx, hpi, hpb, hpe, hps, hkp, hsw⟩ := hcut.out
  clear hcut HX
  obtain ⟨S, hS⟩ : ∃ S, S = wc.heap.size := ⟨_, rfl⟩
  have hSw1 : w.heap.size + 1 + 1 ≤ S := by have := HW.out.2.1; omega
  obtain ⟨V5, hV5⟩ : ∃ V, V = wc.alloc (.cells #[.int .i64 p.k, .int .i64 p.n, .int .i64 0, .slice none 0 0, .int .i64 0, .slice none 0 0, .slice none 0 0] 27) := ⟨_, rfl⟩
  have hb5 : Below wc.heap.size wc V5 := by rw [hV5]; exact (Below.refl _ _).alloc (Nat.le_refl _) _
  have hs5 : S + 1 ≤ V5.heap.size ∧ V5.heap.size ≤ S + 1 := by rw [hV5, hS]; simp
  obtain ⟨hs5a, hs5b⟩ := hs5
  obtain ⟨q0, q1, q2, q3, q4, q5, q6⟩ := hbx.at7
  simp only [Nat.zero_add] at q0 q1 q2 q3 q4 q5 q6
  have lw : w.heap.size < wc.heap.size := World.block_lt_of_cell? _ _ q0
  obtain ⟨TT0, hTT0⟩ : ∃ T, T = (p.l.map TT.tm).map eraseM := ⟨_, rfl⟩
  have HT0 : Hid (TT0.length = p.l.length ∧ eraseM x.tm = ⟨p.k, p.n, anyY, anyY, TT0⟩ ∧ ∀ j (h : j < p.l.length) (h' : j < TT0.length), TT0[j] = eraseM p.l[j].tm) := by
    subst hTT0
    refine ⟨by simp, by rw [← hpe, erase_else p hC], fun j h h' => by simp⟩
  clear hTT0
  have HC0 : Hid (CW (S + 1 ≤ ·) S (tleaf p.k p.n) V5 TT0 0 (.slice none 0 0) [] V5) := by
    refine ⟨RowT.nil _ _ _, by simp, ⟨none, 0, rfl, ?_⟩, Kept.of_below (Below.refl _ _)⟩
    rw [hV5, hS]
    refine ⟨⟨?_, ?_, ?_, ?_, ?_, ?_, ?_⟩, fun i hi => ?_⟩ <;> simp [go_sem, tleaf]
  have q65 : V5.cell? ⟨w.heap.size, 6, none⟩ = some (.slice p.a p.l.length p.c) := cell_later hb5 q6
  have HP : Hid (p.In V5 ∧ p.Bl (· < w.heap.size) ∧ p.sz ≤ x.sz ∧ Below w.heap.size w V5 ∧ ZB7 V5 (w.heap.size + 1)) := by
    refine ⟨hpi.below hb5, hpb, hps, ?_, ?_⟩
    · exact (HW.out.1.trans (hkp.below (by simp) (by have := HW.out.2.1; omega))).trans (hb5.mono (by omega))
    · exact (HW.out.2.2.kept hkp (by omega)).later hb5
  have hpl : p.l.length ≤ 1000 := by
    have h1 := len_sum p.l
    have h2 := p.sz_eq
    omega
  have HS : Hid (S = wc.heap.size) := hS
  clear hbx hpi hpb hpe hps hkp hC hb5 hsw hS
  apply_assumption
  go_wp2_with fail
  rw [← hV5, ← HS.out]
  clear hV5 HS q0 q1 q2 q3 q4 q5 q6
  go_loopg [32] p.l.length (fun g i wr => ∃ (j : Nat) (v : Value) (cs : List TT), j ≤ p.l.length ∧ g = p.l.length - j ∧ i = .int .i64 (j : Int) ∧ Hid (CW (S + 1 ≤ ·) S (tleaf p.k p.n) V5 TT0 j v cs wr))
  case atStart => exact ⟨0, _, _, Nat.zero_le _, rfl, rfl, HC0⟩
  case round =>
    obtain ⟨j, v, cs, hj, hg, rfl, HC⟩ := hrel
    have HG : Hid (gk = p.l.length - j) := hg
    clear hg HC0
    have hkp := HC.out.kp
    have hsr := hkp.size
    by_cases hlt : j < p.l.length
    · obtain ⟨b, o, ea, ⟨x0, x1, x2, x3, x4, x5, x6⟩, hxj⟩ := HP.out.1.part j hlt
      have hbb : b < w.heap.size := HP.out.2.1.own (fun e => by rw [e] at hlt; simp at hlt) _ ea
      have hbne : b ≠ S := by omega
      replace x0 := hkp.cell x0 hbne
      replace x1 := hkp.cell x1 hbne
      replace x2 := hkp.cell x2 hbne
      replace x3 := hkp.cell x3 hbne
      replace x4 := hkp.cell x4 hbne
      replace x5 := hkp.cell x5 hbne
      replace x6 := hkp.cell x6 hbne
      obtain ⟨y, hy⟩ : ∃ y, y = p.l[j] := ⟨_, rfl⟩
      have hyb : y.Bl (· < w.heap.size) := HP.out.2.1.mem (by rw [hy]; exact List.getElem_mem hlt)
      rw [← hy] at x0 x1 x2 x3 x4 x5 x6 hxj
      have hyr : y.In wr := hxj.keptR hkp (hyb.mono fun b hb => by omega)
      have i1 : (j : Int) < (p.l.length : Int) := by omega
      have i2 : (0 : Int) ≤ (j : Int) := by omega
      have lb : b < wr.heap.size := World.block_lt_of_cell? _ _ x0
      have hcl : cs.length = j := by
        have := congrArg List.length HC.out.tm
        have e := HT0.out.1
        simp only [List.length_map, List.length_take] at this
        omega
      have hcl3 : cs.length ≤ 1000 := by omega
      clear hcl
      have hov : ∀ k, v.ownBlock = some k → V5.heap.size ≤ k ∧ k < wr.heap.size := HC.out.row.lt
      have hb1 : Below wr.heap.size wr (wr.alloc (.cells #[.int .i64 y.k, .int .i64 y.n, .int .i64 y.t.k, .slice y.t.a y.t.l.length y.t.c, .int .i64 y.f.k, .slice y.f.a y.f.l.length y.f.c, .slice y.a y.l.length y.c] 27)).drew := ((Below.refl _ _).alloc (Nat.le_refl _) _).drew
      have HI : Hid (Calls Tryz.prog 38 #[.agg #[.int .i64 y.k, .int .i64 y.n, .int .i64 y.t.k, .slice y.t.a y.t.l.length y.t.c, .int .i64 y.f.k, .slice y.f.a y.f.l.length y.f.c, .slice y.a y.l.length y.c]] (wr.alloc (.cells #[.int .i64 y.k, .int .i64 y.n, .int .i64 y.t.k, .slice y.t.a y.t.l.length y.t.c, .int .i64 y.f.k, .slice y.f.a y.f.l.length y.f.c, .slice y.a y.l.length y.c] 27)).drew (MadeT (eraseM y.tm) (wr.alloc (.cells #[.int .i64 y.k, .int .i64 y.n, .int .i64 y.t.k, .slice y.t.a y.t.l.length y.t.c, .int .i64 y.f.k, .slice y.f.a y.f.l.length y.f.c, .slice y.a y.l.length y.c] 27)).drew)) := by
        refine ih.out y ?_ _ (hyr.below hb1)
        have h1 := p.sz_eq
        have h2 := HP.out.2.2.1
        have e : p.l[j].tm.sz ≤ ((p.l.map TT.tm).map Tm.sz).sum := sz_mem _ _ (List.mem_map.2 ⟨_, List.getElem_mem hlt, rfl⟩)
        have e2 : (p.l.map TT.tm).map Tm.sz = p.l.map TT.sz := by rw [List.map_map]; exact List.map_congr_left fun z _ => z.sz_tm.symm
        rw [e2, ← hy, ← TT.sz_tm] at e
        omega
      have q1 : wr.cell? ⟨S, 6, none⟩ = some v := by
        obtain ⟨a0, c0, hv0, hbx⟩ := HC.out.box
        have := hbx.at7.c6
        simp only [Nat.zero_add] at this
        rw [hv0]
        exact this
      have qf : wr.frozen? ⟨S, 6, none⟩ = false := by
        obtain ⟨a0, c0, hv0, hbx⟩ := HC.out.box
        exact hbx.fz 6 (by omega)
      have hnv : v.ownBlock ≠ some S := fun e => by have := (hov _ e).1; omega
      have hown := HC.out.row.own
      have lS : S < wr.heap.size := World.block_lt_of_cell? _ _ q1
      have HYT : Hid (TT0[j]'(by rw [HT0.out.1]; exact hlt) = eraseM y.tm) := by rw [hy]; exact HT0.out.2.2 j hlt _
      have HXA : Hid (p.a = some ⟨b, o, none⟩) := ea
      obtain ⟨i0, hi0, hz0, hz1, hz2⟩ := info_parts Tryz.info27c
      rw [ea]
      clear ea ih hy hyb hyr hxj hkp
      go_wp2_with fail
      have u1 : (wr.alloc (.cells #[.int .i64 y.k, .int .i64 y.n, .int .i64 y.t.k, .slice y.t.a y.t.l.length y.t.c, .int .i64 y.f.k, .slice y.f.a y.f.l.length y.f.c, .slice y.a y.l.length y.c] 27)).drew.cell? ⟨S, 6, none⟩ = some v := cell_later hb1 q1
      have uf : (wr.alloc (.cells #[.int .i64 y.k, .int .i64 y.n, .int .i64 y.t.k, .slice y.t.a y.t.l.length y.t.c, .int .i64 y.f.k, .slice y.f.a y.f.l.length y.f.c, .slice y.a y.l.length y.c] 27)).drew.frozen? ⟨S, 6, none⟩ = false := (hb1.frozen (p := ⟨S, 6, none⟩) (show S < wr.heap.size by omega)).trans qf
      have uo : (wr.alloc (.cells #[.int .i64 y.k, .int .i64 y.n, .int .i64 y.t.k, .slice y.t.a y.t.l.length y.t.c, .int .i64 y.f.k, .slice y.f.a y.f.l.length y.f.c, .slice y.a y.l.length y.c] 27)).drew.ownsRow V5.heap.size 27 7 v cs.length (cells7 cs) := ownsRow_below hown hb1
      have us : S < (wr.alloc (.cells #[.int .i64 y.k, .int .i64 y.n, .int .i64 y.t.k, .slice y.t.a y.t.l.length y.t.c, .int .i64 y.f.k, .slice y.f.a y.f.l.length y.f.c, .slice y.a y.l.length y.c] 27)).drew.heap.size := World.block_lt_of_cell? _ _ u1
      clear q1 qf hown
      go_region_law
        (first
          | (go_simp; go_at_call 38; refine HI.out.mono ?_; rintro e w2 ⟨z, rfl, hzt, hin, hbl, hb2⟩; replace u1 := cell_later hb2 u1; replace uf := (hb2.frozen (p := ⟨S, 6, none⟩) us).trans uf; replace uo := ownsRow_below uo hb2; replace us : S < w2.heap.size := World.block_lt_of_cell? _ _ u1; have hnew := heap_alloc_new w2 (.cells #[.int .i64 z.k, .int .i64 z.n, .int .i64 z.t.k, .slice z.t.a z.t.l.length z.t.c, .int .i64 z.f.k, .slice z.f.a z.f.l.length z.f.c, .slice z.a z.l.length z.c] 27); have un : S ≠ w2.heap.size := Nat.ne_of_lt us; go_wp2_with fail)
          | (refine step_append_lies _ (by rfl) _ _ _ (by rfl) V5.heap.size 27 i0 _ 7 104 Tryz.underlying25 hi0 hz0 hz1 hz2 rfl (by omega) v cs.length (cells7 cs) (by rfl) (uo.alloc _)
                ⟨w2.heap.size, 0, none⟩ 1 1 [.int .i64 z.k, .int .i64 z.n, .int .i64 z.t.k, .slice z.t.a z.t.l.length z.t.c, .int .i64 z.f.k, .slice z.f.a z.f.l.length z.f.c, .slice z.a z.l.length z.c] (by rfl) (by rfl) (World.news_of_block (cs := #[.int .i64 z.k, .int .i64 z.n, .int .i64 z.t.k, .slice z.t.a z.t.l.length z.t.c, .int .i64 z.f.k, .slice z.f.a z.f.l.length z.f.c, .slice z.a z.l.length z.c]) (t := 27) (fr := (0, 0)) hnew) (by simp [Value.oneCell'])
                (by omega) (by unfold maxLen; omega) (by omega) (by have := hb2.size; simp at this ⊢; omega) (w2.heap.size + 1) (by simp) ?_; intro gg cap1 w3' hown1 hgrow hat hlt3; have hcr : w3'.cell? ⟨S, 6, none⟩ = some v := (by rw [hgrow.cell_far _ (by simp; omega) (Ne.symm hnv)]; exact cell_later ((Below.refl _ _).alloc (Nat.le_refl _) _) u1); have hfr : w3'.frozen? ⟨S, 6, none⟩ = false := (by rw [hgrow.frozen_far _ (by simp; omega) (Ne.symm hnv)]; exact (((Below.refl _ _).alloc (Nat.le_refl _) _).frozen (p := ⟨S, 6, none⟩) us).trans uf)))
      all_goals
        have HN : Hid (CW (S + 1 ≤ ·) S (tleaf p.k p.n) V5 TT0 (j + 1) (.slice (some ⟨gg, 0, none⟩) (cs.length + 1) cap1) (cs ++ [z]) (w3'.setCell ⟨S, 6, none⟩ (.slice (some ⟨gg, 0, none⟩) (cs.length + 1) cap1))) := HC.out.step (by omega) (fun b hb => by omega) (by rw [HT0.out.1]; exact hlt) (hb1.trans (hb2.mono hb1.size)) (hzt.trans HYT.out.symm) hin (hbl.mono fun b hb => by simp at hb; exact ⟨by omega, fun e => by have := (hov b e.symm).2; omega⟩) (by simpa [cells7] using hown1) hgrow hat
        clear hown1 hgrow hat hcr hfr hzt hin hbl hb2 uo uf u1 HI HC
        go_wp2_with fail
        rw [← HXA.out]
        go_roundg (p.l.length - (j + 1))
        case measure => rw [HG.out]; omega
        case rel => exact ⟨j + 1, _, _, by omega, rfl, by go_num, HN⟩
    · have hjl : j = p.l.length := by omega
      obtain ⟨a, cc, hv, hbx⟩ := HC.out.box
      obtain ⟨a', cc', hv', hzi, hzb⟩ := HC.out.row.tree (k := p.k) (n := p.n) (t := ⟨0, none, 0, []⟩) (f := ⟨0, none, 0, []⟩) (fun b hb => by omega) (Tr.In_nil _ _ _ _) (Tr.In_nil _ _ _ _) (Tr.Bl_nil _ _ _ _) (Tr.Bl_nil _ _ _ _)
      rw [hv] at hv'
      obtain ⟨rfl, rfl⟩ : a = a' ∧ cc = cc' := by cases hv'; exact ⟨rfl, rfl⟩
      have htm : (TT.mk p.k p.n ⟨0, none, 0, []⟩ ⟨0, none, 0, []⟩ a cc cs).tm = eraseM x.tm := by
        rw [HT0.out.2.1, TT.tm_mk]
        have h1 := HC.out.tm
        rw [hjl, ← HT0.out.1, List.take_length] at h1
        rw [h1]
        simp [Tr.ty_mk, anyY]
      have hzr : ZB7 wr (w.heap.size + 1) := HP.out.2.2.2.2.kept hkp (by omega)
      have hlow : Below w.heap.size w wr := HP.out.2.2.2.1.trans ((hkp.below (by simp) (by omega)).mono (by omega))
      have HN : Hid (MadeT (eraseM x.tm) w (.returned (.agg #[.int .i64 p.k, .int .i64 p.n, .int .i64 0, .slice none 0 0, .int .i64 0, .slice none 0 0, .slice a cs.length cc])) (put7 wr (w.heap.size + 1) (TT.mk p.k p.n ⟨0, none, 0, []⟩ ⟨0, none, 0, []⟩ a cc cs))) := by
        have hk := put7_kept (w := wr) (J := w.heap.size + 1) (x := (TT.mk p.k p.n ⟨0, none, 0, []⟩ ⟨0, none, 0, []⟩ a cc cs))
        refine ⟨(TT.mk p.k p.n ⟨0, none, 0, []⟩ ⟨0, none, 0, []⟩ a cc cs), rfl, htm, hzi.keptR hk (hzb.mono fun b hb => by omega), hzb.mono fun b hb => by omega, ?_⟩
        exact hlow.trans ((hk.below (by simp) (Nat.le_of_lt hzr.lt)).mono (by omega))
      obtain ⟨e0, e1, e2, e3, e4, e5, e6⟩ := (put7_box (x := (TT.mk p.k p.n ⟨0, none, 0, []⟩ ⟨0, none, 0, []⟩ a cc cs)) hzr.box).at7
      simp only [Nat.zero_add] at e0 e1 e2 e3 e4 e5 e6
      obtain ⟨q0, q1, q2, q3, q4, q5, q6⟩ := hbx.at7
      simp only [Nat.zero_add, tleaf, List.length_nil] at q0 q1 q2 q3 q4 q5 q6
      obtain ⟨⟨y0', y1, y2, y3, y4, y5, y6⟩, f0, f1, f2, f3, f4, f5, f6⟩ := hzr
      have lS : S < wr.heap.size := World.block_lt_of_cell? _ _ q0
      clear HC hbx hzi hzb htm hv' hv ih HP hlow hkp HG
      go_wp2_with fail
      refine bodyPost_ret (v := .agg #[.int .i64 p.k, .int .i64 p.n, .int .i64 0, .slice none 0 0, .int .i64 0, .slice none 0 0, .slice a cs.length cc]) ?_ rfl HN.out
      unfold put7 at e0 e1 e2 e3 e4 e5 e6
      simp only [List.length_nil] at e0 e1 e2 e3 e4 e5 e6
      simp [results, Tryz.results38, go_sem, e0, e1, e2, e3, e4, e5, e6]
/-- EraseTerm. -/
theorem eraseTm_any (m : Nat) : ∀ (x : TT) (w : World), x.sz ≤ m → x.In w → x.sz ≤ 1000 → Calls Tryz.prog 38 #[.agg #[.int .i64 x.k, .int .i64 x.n, .int .i64 x.t.k, .slice x.t.a x.t.l.length x.t.c, .int .i64 x.f.k, .slice x.f.a x.f.l.length x.f.c, .slice x.a x.l.length x.c]] w (MadeT (eraseM x.tm) w) := by
  induction m with
  | zero =>
    intro x w h
    have := x.sz_pos
    omega
  | succ m ih =>
    intro x w hm hx hs
    exact eraseTm_step x w hx hs fun y hy W hyi => ih y W (by omega) hyi (by omega)
end Go.Proofs.YtnddkmccagiclabGreatDoor

/-
  What the laws' own call 'alive' answers: true.
-/
namespace Go.Proofs.YtnddkmccagiclabGreatDoor
open Go.RowKit
/-- (call (fun any (add #0 1)) (as any 6)) -/
def aX : Tm := ⟨8, 0, anyY, anyY, [⟨7, 0, anyY, anyY, [⟨4, 0, anyY, anyY, [⟨1, 0, anyY, anyY, []⟩, ⟨2, 1, anyY, anyY, []⟩]⟩]⟩, ⟨9, 0, anyY, anyY, [⟨2, 6, anyY, anyY, []⟩]⟩]⟩
/-- The same with its casts. -/
def aY : Tm := ⟨8, 0, anyY, anyY, [⟨7, 0, anyY, anyY, [⟨4, 0, anyY, anyY, [⟨10, 3, ⟨1, []⟩, anyY, [⟨1, 0, anyY, anyY, []⟩]⟩, ⟨2, 1, anyY, anyY, []⟩]⟩]⟩, ⟨9, 0, anyY, anyY, [⟨10, 6, anyY, ⟨1, []⟩, [⟨2, 6, anyY, anyY, []⟩]⟩]⟩]⟩
def aS : ByteArray := ⟨#[40, 99, 97, 108, 108, 32, 40, 102, 117, 110, 32, 97, 110, 121, 32, 40, 97, 100, 100, 32, 35, 48, 32, 49, 41, 41, 32, 40, 97, 115, 32, 97, 110, 121, 32, 54, 41, 41]⟩
theorem a_any : isAnyY anyY = true := by simp [isAnyY, anyY, relY_mk, relL]
theorem a_good4 : goodY 4 anyY = true := by simp [goodY, anyY]
theorem aX_good : goodM 0 aX = true := by
  have : goodS 0 40 0 aX 40 = some 33 := by
    simp [aX, goodS, okTop, okTypes, okNum, tells, partsOf, bindL, a_any, a_good4, insOf]
  exact congrArg Option.isSome this
theorem aX_read : readS aX [] 0 = some (aY, ⟨1, []⟩) := by
  simp [aX, aY, readS_mk, readL, takesIn, ruleY, fitL, castL, castY, relY_mk, relL, escFits, escSame, anyY, callY, Tm.sz_mk]
set_option maxRecDepth 100000 in
theorem aS_words : readTm ((wordsOf aS.data.toList).length + 1) (wordsOf aS.data.toList) = some (aX, []) := by kernel_rfl
theorem aS_parse : parseS aS.data.toList = some aX := by
  unfold parseS
  rw [aS_words]
  simp only
  rw [if_pos aX_good]
theorem a_new1 (o : Out) : newC 100 ⟨1, []⟩ anyY o = some ⟨false, out0, 1, out0, none, none, true⟩ := by
  have e : newC 99 ⟨1, []⟩ ⟨1, []⟩ o = none := by rw [newC, if_pos (by simp [relY_mk, relL])]
  rw [newC, if_neg (by simp [anyY, relY_mk, relL, escSame]), if_neg (by simp), if_pos (by rfl)]
  have g : groundY ⟨1, []⟩ = ⟨1, []⟩ := rfl
  simp only [g, e, someC]
theorem a_new2 (o : Out) : newC 100 anyY ⟨1, []⟩ o = some ⟨true, o, 1, out0, none, none, false⟩ := by
  have e : newC 99 ⟨1, []⟩ ⟨1, []⟩ o = none := by rw [newC, if_pos (by simp [relY_mk, relL])]
  rw [newC, if_neg (by simp [anyY, relY_mk, relL, escSame]), if_neg (by simp), if_neg (by simp), if_pos (by rfl)]
  have g : groundY ⟨1, []⟩ = ⟨1, []⟩ := rfl
  simp only [g, e, someC]
theorem aY_run : runM aY 5 = ⟨1, 7, false⟩ := by
  obtain ⟨h1, h2, _⟩ := check_run aX_good aX_read
  have e : runN 13 (st0 aY 5) = ⟨[], [numV 7], 1, 5, out0⟩ := by
    simp [runN, st0, stepS, doS, lookS, bothS, St.plan, St.push, lookT, doT, changeT, aY, Tm.at, changeS, callS, enterS, funV, numV, a_new1, a_new2, ofC, knownV, clampI, Val.core, out0, tm0]
    omega
  rw [runM_of h1 h2 (by omega) (n := 13) (by rw [e]; exact .inr rfl), e]
  rfl
theorem aS_text : textR aS 5 = (⟨1, 7, false⟩, 0) := by
  unfold textR
  rw [if_neg (by show ¬ (1000 < 38); omega), aS_parse]
  simp only
  unfold runR
  rw [if_pos aX_good, aX_read]
  simp only
  rw [if_neg (by omega)]
  show (runM aY 5, (0 : Int)) = _
  rw [aY_run]
end Go.Proofs.YtnddkmccagiclabGreatDoor

/-
  As long as nobody is blamed types change nothing of what a run comes to: plain mathematics; no program in it.
-/
namespace Go.Proofs.YtnddkmccagiclabGreatDoor
theorem tsz_sz : ∀ x : Tm, x.tsz = x.sz := by
  intro x
  induction x using Tm.ind with
  | h k n t f l ih =>
    rw [Tm.tsz_mk, Tm.sz_mk]
    congr 2
    exact List.map_congr_left ih
theorem eraseM_out {x : Tm} (h : ¬ (x.k = 9 ∨ x.k = 10)) : eraseM x = ⟨x.k, x.n, anyY, anyY, x.l.map eraseM⟩ := by
  obtain ⟨k, n, t, f, l⟩ := x
  rw [eraseM_mk]
  simp only at h ⊢
  unfold eraseT
  split
  · rename_i e; rw [if_neg h, e]
  · rfl
theorem eraseM_in {x : Tm} (h : x.k = 9 ∨ x.k = 10) (hl : x.l.length = 1) : eraseM x = eraseM (x.at 0) := by
  obtain ⟨k, n, t, f, l⟩ := x
  match l, hl with
  | [y], _ =>
    rw [eraseM_mk]
    simp only [List.map_cons, List.map_nil, eraseT]
    rw [if_pos h]
    rfl
theorem eraseM_shp : ∀ x : Tm, shp x → shp (eraseM x) ∧ (eraseM x).tsz ≤ x.tsz := by
  intro x
  induction x using Tm.ind with
  | h k n t f l ih =>
    intro h
    obtain ⟨⟨k1, k10, hl, n1, n2, hn, _⟩, hp⟩ := shp_mk.1 h
    by_cases hk : k = 9 ∨ k = 10
    · have hl1 : l.length = 1 := by
        rw [hl]
        rcases hk with rfl | rfl <;> rfl
      have e := eraseM_in (x := ⟨k, n, t, f, l⟩) hk hl1
      rw [e]
      have hm := Tm.at_mem (x := ⟨k, n, t, f, l⟩) (j := 0) (by simp only; omega)
      obtain ⟨h1, h2⟩ := ih _ hm (hp _ hm)
      have := part_tsz (x := ⟨k, n, t, f, l⟩) (j := 0) (by simp only; omega)
      exact ⟨h1, by omega⟩
    · rw [eraseM_out (x := ⟨k, n, t, f, l⟩) hk]
      refine ⟨shp_mk.2 ⟨⟨k1, k10, by simpa using hl, n1, n2, hn, fun h => absurd (.inr h) hk⟩, fun y hy => ?_⟩, ?_⟩
      · obtain ⟨z, hz, rfl⟩ := List.mem_map.1 hy
        exact (ih z hz (hp z hz)).1
      · rw [Tm.tsz_mk, Tm.tsz_mk]
        have : ∀ l : List Tm, (∀ x, x ∈ l → (eraseM x).tsz ≤ x.tsz) → ((l.map eraseM).map Tm.tsz).sum ≤ (l.map Tm.tsz).sum := by
          intro l
          induction l with
          | nil => intro _; simp
          | cons y r ihr =>
            intro hh
            have a := hh y (by simp)
            have b := ihr fun x hx => hh x (by simp [hx])
            simp only [List.map_cons, List.sum_cons]
            omega
        have := this l fun x hx => (ih x hx (hp x hx)).2
        simp only
        omega
end Go.Proofs.YtnddkmccagiclabGreatDoor

/-
  What the call of check's inside answers: what is within the casts and As about a term.
-/
namespace Go.Proofs.YtnddkmccagiclabGreatDoor
open Go.RowKit
/-- A term within another, at which it comes to the same without casts. -/
def InW (x p : TT) (w W : World) : Prop := p.In W ∧ p.Bl (· < w.heap.size) ∧ p.sz ≤ x.sz ∧ eraseM p.tm = eraseM x.tm ∧ ∀ Q : Nat → Prop, x.Bl Q → p.Bl Q
/-- What inside answers. -/
def InPost (x : TT) (w : World) (e : Ending) (w' : World) : Prop :=
  ∃ q : TT, e = .returned (.agg #[.int .i64 q.k, .int .i64 q.n, .int .i64 q.t.k, .slice q.t.a q.t.l.length q.t.c, .int .i64 q.f.k, .slice q.f.a q.f.l.length q.f.c, .slice q.a q.l.length q.c]) ∧ q.In w' ∧ (∀ Q : Nat → Prop, x.Bl Q → q.Bl Q) ∧ q.sz ≤ x.sz ∧ eraseM x.tm = ⟨q.k, q.n, anyY, anyY, (q.l.map TT.tm).map eraseM⟩ ∧ Below w.heap.size w w'
theorem eraseT_stop {k n : Int} {l : List Tm} (hs : ¬ ((k = 9 ∨ k = 10) ∧ l.length = 1)) : eraseT k n l = ⟨k, n, anyY, anyY, l⟩ := by
  match l, hs with
  | [], _ => rfl
  | [y], hs =>
    have h2 : ¬ (k = 9 ∨ k = 10) := fun h => hs ⟨h, rfl⟩
    exact if_neg h2
  | y :: z :: r, _ => rfl
theorem inside_end {x p : TT} {w wr : World} (hb : Below w.heap.size w wr) (hl : LF w.heap.size p wr) (hw : InW x p w wr) (hs : ¬ ((p.k = 9 ∨ p.k = 10) ∧ p.l.length = 1)) : InPost x w (.returned (.agg #[.int .i64 p.k, .int .i64 p.n, .int .i64 p.t.k, .slice p.t.a p.t.l.length p.t.c, .int .i64 p.f.k, .slice p.f.a p.f.l.length p.f.c, .slice p.a p.l.length p.c])) (put7 wr (w.heap.size + 1) p) := by
  obtain ⟨h1, h2, h3, h4, h5⟩ := hw
  have hk := put7_kept (w := wr) (J := w.heap.size + 1) (x := p)
  refine ⟨p, rfl, h1.keptR hk (h2.mono fun b hb => by omega), h5, h3, ?_, hb.trans ((hk.below (by simp) (Nat.le_of_lt hl.lt)).mono (by omega))⟩
  rw [← h4]
  have e : p.tm = ⟨p.k, p.n, p.t.ty, p.f.ty, p.l.map TT.tm⟩ := by cases p; rw [TT.tm_mk]
  rw [e, eraseM_mk, eraseT_stop (by rw [List.length_map, List.length_map]; exact hs)]
theorem inside_step {x p y : TT} {w wr : World} (hb : Below w.heap.size w wr) (hl : LF w.heap.size p wr) (hw : InW x p w wr) (hp : p.l = [y]) (hk9 : p.k = 9 ∨ p.k = 10) (hy : y.In wr) : Below w.heap.size w (put7 wr w.heap.size y) ∧ LF w.heap.size y (put7 wr w.heap.size y) ∧ InW x y w (put7 wr w.heap.size y) := by
  obtain ⟨h1, h2, h3, h4, h5⟩ := hw
  have hk := put7_kept (w := wr) (J := w.heap.size) (x := y)
  have hyb : y.Bl (· < w.heap.size) := h2.mem (by rw [hp]; simp)
  have hll := hl.lt
  refine ⟨hb.trans ((hk.below (by simp) (by omega)).mono (Nat.le_refl _)), ⟨put7_box hl.b, hl.z.kept hk (by omega)⟩, hy.keptR hk (hyb.mono fun b hb => by omega), hyb, ?_, ?_, fun Q hQ => (h5 Q hQ).mem (by rw [hp]; simp)⟩
  · have := p.sz_eq
    rw [hp] at this
    simp at this
    omega
  · rw [← h4]
    obtain ⟨k, n, t, f, a, c, l⟩ := p
    simp only at hp hk9
    subst hp
    rw [TT.tm_mk, eraseM_mk]
    simp [eraseT, hk9]
set_option maxRecDepth 20000 in
set_option maxHeartbeats 8000000 in
theorem inside_any (x : TT) (w : World) (hx : x.In w) : Calls Tryz.prog 47 #[.agg #[.int .i64 x.k, .int .i64 x.n, .int .i64 x.t.k, .slice x.t.a x.t.l.length x.t.c, .int .i64 x.f.k, .slice x.f.a x.f.l.length x.f.c, .slice x.a x.l.length x.c]] w (InPost x w) := by
  obtain ⟨W1, hW1⟩ : ∃ W1, W1 = ((w.alloc (.cells #[.int .i64 x.k, .int .i64 x.n, .int .i64 x.t.k, .slice x.t.a x.t.l.length x.t.c, .int .i64 x.f.k, .slice x.f.a x.f.l.length x.f.c, .slice x.a x.l.length x.c] 27)).alloc (.cells #[.int .i64 0, .int .i64 0, .int .i64 0, .slice none 0 0, .int .i64 0, .slice none 0 0, .slice none 0 0] 27)) := ⟨_, rfl⟩
  have hb1 : Below w.heap.size w W1 := by rw [hW1]; exact ((Below.refl _ _).alloc (Nat.le_refl _) _).alloc (by simp) _
  have HL0 : Hid (Below w.heap.size w W1 ∧ LF w.heap.size x W1 ∧ InW x x w W1) := ⟨hb1, by rw [hW1]; exact LF.start x w, hx.below hb1, hx.bl, Nat.le_refl _, rfl, fun _ h => h⟩
  clear hx hb1
  go_enter Tryz.func47, Tryz.ntmps47
  go_wp2_with fail
  rw [← hW1]
  clear hW1
  go_loopg [] x.sz (fun g wr => ∃ p : TT, g = p.sz ∧ Hid (Below w.heap.size w wr ∧ LF w.heap.size p wr ∧ InW x p w wr))
  case atStart => exact ⟨x, rfl, HL0⟩
  case round =>
    obtain ⟨p, hg, HQ⟩ := hrel
    subst hg
    clear HL0
    by_cases k10 : p.k = 10
    · have e10 : (p.k == 10) = true := by simpa using k10
      have HPK : Hid (p.k = 9 ∨ p.k = 10) := .inr k10
      by_cases hl1 : p.l.length = 1
      · have HPL : Hid (p.l.length = 1) := hl1
        clear k10 hl1
        obtain ⟨b, o, ea, h7, hyi⟩ := HQ.out.2.2.1.part 0 (by rw [HPL.out]; omega)
        obtain ⟨y, hye⟩ : ∃ y, p.l = [y] := List.length_eq_one_iff.1 HPL.out
        have hy0 : p.l[0]'(by rw [HPL.out]; omega) = y := by simp [hye]
        rw [hy0] at h7 hyi
        obtain ⟨d0, d1, d2, d3, d4, d5, d6⟩ := h7
        simp only [Nat.zero_mul, Nat.add_zero] at d0 d1 d2 d3 d4 d5 d6
        have hbx := HQ.out.2.1.b
        obtain ⟨⟨q0, q1, q2, q3, q4, q5, q6⟩, qf⟩ := hbx
        simp only [Nat.zero_add] at q0 q1 q2 q3 q4 q5 q6
        have g0 := qf 0 (by omega)
        have g1 := qf 1 (by omega)
        have g2 := qf 2 (by omega)
        have g3 := qf 3 (by omega)
        have g4 := qf 4 (by omega)
        have g5 := qf 5 (by omega)
        have g6 := qf 6 (by omega)
        clear qf
        rw [ea] at q6
        rw [HPL.out] at q6
        have hbl : b < w.heap.size := HQ.out.2.2.2.1.own (by rw [hye]; simp) _ ea
        have nbH : b ≠ w.heap.size := by omega
        have HN : Hid (Below w.heap.size w (put7 wr w.heap.size y) ∧ LF w.heap.size y (put7 wr w.heap.size y) ∧ InW x y w (put7 wr w.heap.size y)) := inside_step HQ.out.1 HQ.out.2.1 HQ.out.2.2 hye HPK.out hyi
        have HM : Hid (y.sz < p.sz) := by
          have h1 := p.sz_eq
          rw [hye] at h1
          simp at h1
          show _ < _
          omega
        clear HQ HPK HPL ea hyi hye hy0 hbl
        go_wp2_with fail
        go_roundg y.sz
        case measure => exact HM.out
        case rel => exact ⟨y, rfl, HN⟩
      · have HPL : Hid (p.l.length ≠ 1) := hl1
        have el : ((p.l.length : Int) == 1) = false := by simp; omega
        clear k10 hl1
        have HN : Hid (InPost x w (.returned (.agg #[.int .i64 p.k, .int .i64 p.n, .int .i64 p.t.k, .slice p.t.a p.t.l.length p.t.c, .int .i64 p.f.k, .slice p.f.a p.f.l.length p.f.c, .slice p.a p.l.length p.c])) (put7 wr (w.heap.size + 1) p)) := inside_end HQ.out.1 HQ.out.2.1 HQ.out.2.2 (by exact fun h => HPL.out h.2)
        have hbx := HQ.out.2.1.b
        obtain ⟨e0, e1, e2, e3, e4, e5, e6⟩ := (put7_box (x := p) HQ.out.2.1.z.box).at7
        simp only [Nat.zero_add] at e0 e1 e2 e3 e4 e5 e6
        obtain ⟨⟨y0, y1, y2, y3, y4, y5, y6⟩, f0, f1, f2, f3, f4, f5, f6⟩ := HQ.out.2.1.z
        obtain ⟨⟨q0, q1, q2, q3, q4, q5, q6⟩, qf⟩ := hbx
        simp only [Nat.zero_add] at q0 q1 q2 q3 q4 q5 q6
        have g0 := qf 0 (by omega)
        have g1 := qf 1 (by omega)
        have g2 := qf 2 (by omega)
        have g3 := qf 3 (by omega)
        have g4 := qf 4 (by omega)
        have g5 := qf 5 (by omega)
        have g6 := qf 6 (by omega)
        clear qf
        clear HQ HPK HPL
        go_wp2_with fail
        refine bodyPost_ret (v := .agg #[.int .i64 p.k, .int .i64 p.n, .int .i64 p.t.k, .slice p.t.a p.t.l.length p.t.c, .int .i64 p.f.k, .slice p.f.a p.f.l.length p.f.c, .slice p.a p.l.length p.c]) ?_ rfl HN.out
        unfold put7 at e0 e1 e2 e3 e4 e5 e6
        simp [results, Tryz.results47, go_sem, e0, e1, e2, e3, e4, e5, e6]
    · have e10 : (p.k == 10) = false := by simpa using k10
      by_cases k9 : p.k = 9
      · have e9 : (p.k == 9) = true := by simpa using k9
        have HPK : Hid (p.k = 9 ∨ p.k = 10) := .inl k9
        by_cases hl1 : p.l.length = 1
        · have HPL : Hid (p.l.length = 1) := hl1
          clear k10 k9 hl1
          obtain ⟨b, o, ea, h7, hyi⟩ := HQ.out.2.2.1.part 0 (by rw [HPL.out]; omega)
          obtain ⟨y, hye⟩ : ∃ y, p.l = [y] := List.length_eq_one_iff.1 HPL.out
          have hy0 : p.l[0]'(by rw [HPL.out]; omega) = y := by simp [hye]
          rw [hy0] at h7 hyi
          obtain ⟨d0, d1, d2, d3, d4, d5, d6⟩ := h7
          simp only [Nat.zero_mul, Nat.add_zero] at d0 d1 d2 d3 d4 d5 d6
          have hbx := HQ.out.2.1.b
          obtain ⟨⟨q0, q1, q2, q3, q4, q5, q6⟩, qf⟩ := hbx
          simp only [Nat.zero_add] at q0 q1 q2 q3 q4 q5 q6
          have g0 := qf 0 (by omega)
          have g1 := qf 1 (by omega)
          have g2 := qf 2 (by omega)
          have g3 := qf 3 (by omega)
          have g4 := qf 4 (by omega)
          have g5 := qf 5 (by omega)
          have g6 := qf 6 (by omega)
          clear qf
          rw [ea] at q6
          rw [HPL.out] at q6
          have hbl : b < w.heap.size := HQ.out.2.2.2.1.own (by rw [hye]; simp) _ ea
          have nbH : b ≠ w.heap.size := by omega
          have HN : Hid (Below w.heap.size w (put7 wr w.heap.size y) ∧ LF w.heap.size y (put7 wr w.heap.size y) ∧ InW x y w (put7 wr w.heap.size y)) := inside_step HQ.out.1 HQ.out.2.1 HQ.out.2.2 hye HPK.out hyi
          have HM : Hid (y.sz < p.sz) := by
            have h1 := p.sz_eq
            rw [hye] at h1
            simp at h1
            show _ < _
            omega
          clear HQ HPK HPL ea hyi hye hy0 hbl
          go_wp2_with fail
          go_roundg y.sz
          case measure => exact HM.out
          case rel => exact ⟨y, rfl, HN⟩
        · have HPL : Hid (p.l.length ≠ 1) := hl1
          have el : ((p.l.length : Int) == 1) = false := by simp; omega
          clear k10 k9 hl1
          have HN : Hid (InPost x w (.returned (.agg #[.int .i64 p.k, .int .i64 p.n, .int .i64 p.t.k, .slice p.t.a p.t.l.length p.t.c, .int .i64 p.f.k, .slice p.f.a p.f.l.length p.f.c, .slice p.a p.l.length p.c])) (put7 wr (w.heap.size + 1) p)) := inside_end HQ.out.1 HQ.out.2.1 HQ.out.2.2 (by exact fun h => HPL.out h.2)
          have hbx := HQ.out.2.1.b
          obtain ⟨e0, e1, e2, e3, e4, e5, e6⟩ := (put7_box (x := p) HQ.out.2.1.z.box).at7
          simp only [Nat.zero_add] at e0 e1 e2 e3 e4 e5 e6
          obtain ⟨⟨y0, y1, y2, y3, y4, y5, y6⟩, f0, f1, f2, f3, f4, f5, f6⟩ := HQ.out.2.1.z
          obtain ⟨⟨q0, q1, q2, q3, q4, q5, q6⟩, qf⟩ := hbx
          simp only [Nat.zero_add] at q0 q1 q2 q3 q4 q5 q6
          have g0 := qf 0 (by omega)
          have g1 := qf 1 (by omega)
          have g2 := qf 2 (by omega)
          have g3 := qf 3 (by omega)
          have g4 := qf 4 (by omega)
          have g5 := qf 5 (by omega)
          have g6 := qf 6 (by omega)
          clear qf
          clear HQ HPK HPL
          go_wp2_with fail
          refine bodyPost_ret (v := .agg #[.int .i64 p.k, .int .i64 p.n, .int .i64 p.t.k, .slice p.t.a p.t.l.length p.t.c, .int .i64 p.f.k, .slice p.f.a p.f.l.length p.f.c, .slice p.a p.l.length p.c]) ?_ rfl HN.out
          unfold put7 at e0 e1 e2 e3 e4 e5 e6
          simp [results, Tryz.results47, go_sem, e0, e1, e2, e3, e4, e5, e6]
      · have e9 : (p.k == 9) = false := by simpa using k9
        have HPK : Hid (¬ (p.k = 9 ∨ p.k = 10)) := by show ¬ _; omega
        have HPL : Hid True := trivial
        clear k10 k9
        have HN : Hid (InPost x w (.returned (.agg #[.int .i64 p.k, .int .i64 p.n, .int .i64 p.t.k, .slice p.t.a p.t.l.length p.t.c, .int .i64 p.f.k, .slice p.f.a p.f.l.length p.f.c, .slice p.a p.l.length p.c])) (put7 wr (w.heap.size + 1) p)) := inside_end HQ.out.1 HQ.out.2.1 HQ.out.2.2 (by exact fun h => HPK.out h.1)
        have hbx := HQ.out.2.1.b
        obtain ⟨e0, e1, e2, e3, e4, e5, e6⟩ := (put7_box (x := p) HQ.out.2.1.z.box).at7
        simp only [Nat.zero_add] at e0 e1 e2 e3 e4 e5 e6
        obtain ⟨⟨y0, y1, y2, y3, y4, y5, y6⟩, f0, f1, f2, f3, f4, f5, f6⟩ := HQ.out.2.1.z
        obtain ⟨⟨q0, q1, q2, q3, q4, q5, q6⟩, qf⟩ := hbx
        simp only [Nat.zero_add] at q0 q1 q2 q3 q4 q5 q6
        have g0 := qf 0 (by omega)
        have g1 := qf 1 (by omega)
        have g2 := qf 2 (by omega)
        have g3 := qf 3 (by omega)
        have g4 := qf 4 (by omega)
        have g5 := qf 5 (by omega)
        have g6 := qf 6 (by omega)
        clear qf
        clear HQ HPK HPL
        go_wp2_with fail
        refine bodyPost_ret (v := .agg #[.int .i64 p.k, .int .i64 p.n, .int .i64 p.t.k, .slice p.t.a p.t.l.length p.t.c, .int .i64 p.f.k, .slice p.f.a p.f.l.length p.f.c, .slice p.a p.l.length p.c]) ?_ rfl HN.out
        unfold put7 at e0 e1 e2 e3 e4 e5 e6
        simp [results, Tryz.results47, go_sem, e0, e1, e2, e3, e4, e5, e6]
end Go.Proofs.YtnddkmccagiclabGreatDoor
