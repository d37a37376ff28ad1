/-
  What the calls of run's Run and Text answer.
-/
import Derived.Test.YtnddkmccagiclabGreatDoorLot15cde8c079
import Derived.Test.YtnddkmccagiclabGreatDoorLota83715f69c
import Derived.Test.YtnddkmccagiclabGreatDoorLotac1f1cd27a
import Derived.Test.YtnddkmccagiclabGreatDoorLotb81d36a7bf
import Derived.Test.YtnddkmccagiclabGreatDoorLote6c3f9598a
namespace Go.Proofs.YtnddkmccagiclabGreatDoor
open Go.RowKit

/-- What Run makes of a term: the outcome, the error. -/
def runR (x : Tm) (f : Int) : Out × Int := if goodM 0 x = true then (match readS x [] 0 with
  | none => (out0, 2)
  | some p => if f < 0 ∨ 100 < f then (out0, 3) else (runM p.1 f.toNat, 0)) else (out0, 1)

/-- What such a call answers. -/
def OutPost (r : Out × Int) (w : World) (e : Ending) (w' : World) : Prop := e = .returned (.tuple #[.agg #[.int .i64 r.1.k, .int .i64 r.1.n, .bool r.1.b], .int .i64 r.2]) ∧ Below w.heap.size w w'

/-- outcome, at whatever number. -/
theorem outcome_all (y : TT) (f : Int) (w : World) (hy : y.In w) (sy : shp y.tm) (hz : y.tm.tsz ≤ 100) :
    Calls Tryz.prog 26 #[.agg #[.int .i64 y.k, .int .i64 y.n, .int .i64 y.t.k, .slice y.t.a y.t.l.length y.t.c, .int .i64 y.f.k, .slice y.f.a y.f.l.length y.f.c, .slice y.a y.l.length y.c], .int .i64 f] w (OutPost (if f < 0 ∨ 100 < f then (out0, 3) else (runM y.tm f.toNat, 0)) w) := by
  by_cases hf : f < 0 ∨ 100 < f
  · rw [if_pos hf]
    exact outcome_range y f hf w
  · rw [if_neg hf]
    have e : f = ((f.toNat : Nat) : Int) := by omega
    have := outcome_any y f.toNat (by omega) w hy sy hz
    rw [← e] at this
    exact this

set_option maxRecDepth 20000 in
set_option maxHeartbeats 8000000 in
/-- Run. -/
theorem runFn_any (x : TT) (f : Int) (w : World) (hg : Gp w) (hx : x.In w) (hnb : x.nb) :
    Calls Tryz.prog 11 #[.agg #[.int .i64 x.k, .int .i64 x.n, .int .i64 x.t.k, .slice x.t.a x.t.l.length x.t.c, .int .i64 x.f.k, .slice x.f.a x.f.l.length x.f.c, .slice x.a x.l.length x.c], .int .i64 f] w (OutPost (runR x.tm f) w) := by
  obtain ⟨W1, hW1⟩ : ∃ W, W = (w.alloc (.cells #[.int .i64 x.k, .int .i64 x.n, .int .i64 x.t.k, .slice x.t.a x.t.l.length x.t.c, .int .i64 x.f.k, .slice x.f.a x.f.l.length x.f.c, .slice x.a x.l.length x.c] 27)).alloc (.cells #[.int .i64 0, .int .i64 0, .bool false] 29) := ⟨_, rfl⟩
  have hb1 : Below w.heap.size w W1 := by rw [hW1]; exact ((Below.refl _ _).alloc (Nat.le_refl _) _).alloc (by simp) _
  have hs1 : W1.heap.size = w.heap.size + 1 + 1 := by rw [hW1]; simp
  have z0 : W1.cell? ⟨w.heap.size + 1, 0, none⟩ = some (.int .i64 0) := by rw [hW1]; simp [go_sem]
  have z1 : W1.cell? ⟨w.heap.size + 1, 1, none⟩ = some (.int .i64 0) := by rw [hW1]; simp [go_sem]
  have z2 : W1.cell? ⟨w.heap.size + 1, 2, none⟩ = some (.bool false) := by rw [hW1]; simp [go_sem]
  have zf : ∀ i, W1.frozen? ⟨w.heap.size + 1, i, none⟩ = false := by intro i; rw [hW1]; simp [go_sem]
  have HC : Hid (Calls Tryz.prog 25 #[.agg #[.int .i64 x.k, .int .i64 x.n, .int .i64 x.t.k, .slice x.t.a x.t.l.length x.t.c, .int .i64 x.f.k, .slice x.f.a x.f.l.length x.f.c, .slice x.a x.l.length x.c]] W1 (CkPost x W1)) := check_any x W1 (hg.below hb1) (hx.below hb1) hnb
  have HZ : Hid (∀ W, Below W1.heap.size W1 W → W.cell? ⟨w.heap.size + 1, 0, none⟩ = some (.int .i64 0) ∧ W.cell? ⟨w.heap.size + 1, 1, none⟩ = some (.int .i64 0) ∧ W.cell? ⟨w.heap.size + 1, 2, none⟩ = some (.bool false) ∧ W.frozen? ⟨w.heap.size + 1, 0, none⟩ = false ∧ W.frozen? ⟨w.heap.size + 1, 1, none⟩ = false ∧ W.frozen? ⟨w.heap.size + 1, 2, none⟩ = false ∧ w.heap.size + 1 < W.heap.size ∧ Below w.heap.size w W) := fun W hW =>
    ⟨cell_later hW z0, cell_later hW z1, cell_later hW z2, (hW.frozen (p := ⟨w.heap.size + 1, 0, none⟩) (by rw [hs1]; show w.heap.size + 1 < _; omega)).trans (zf 0), (hW.frozen (p := ⟨w.heap.size + 1, 1, none⟩) (by rw [hs1]; show w.heap.size + 1 < _; omega)).trans (zf 1), (hW.frozen (p := ⟨w.heap.size + 1, 2, none⟩) (by rw [hs1]; show w.heap.size + 1 < _; omega)).trans (zf 2), by have := hW.size; omega, hb1.trans (hW.mono hb1.size)⟩
  obtain ⟨R, hR⟩ : ∃ R, R = runR x.tm f := ⟨_, rfl⟩
  rw [← hR]
  have HR : Hid (R = runR x.tm f) := hR
  have HE : Hid (∀ (o : Out) (er : Int) (W : World), R = (o, er) → Below w.heap.size w W → OutPost R w (.returned (.tuple #[.agg #[.int .i64 o.k, .int .i64 o.n, .bool o.b], .int .i64 er])) (((W.setCell ⟨w.heap.size + 1, 0, none⟩ (.int .i64 o.k)).setCell ⟨w.heap.size + 1, 1, none⟩ (.int .i64 o.n)).setCell ⟨w.heap.size + 1, 2, none⟩ (.bool o.b))) := fun o er W h1 h2 => by
    rw [h1]
    exact ⟨rfl, ((h2.setCell (by simp) _).setCell (by simp) _).setCell (by simp) _⟩
  clear hR hb1 hs1 z0 z1 z2 zf hg hx hnb
  go_enter Tryz.func11, Tryz.ntmps11
  go_wp2_with fail
  rw [← hW1]
  clear hW1
  refine HC.out.mono ?_
  rintro e w2 ⟨hb2, ⟨hgd, rfl⟩ | ⟨hgd, hrd, rfl⟩ | ⟨hgd, y, i, hrd, rfl, hyi, hii, hi44⟩⟩
  · have HR1 : Hid (R = (out0, 1)) := by rw [HR.out]; unfold runR; rw [if_neg (by rw [hgd]; simp)]; rfl
    obtain ⟨W3, hW3⟩ : ∃ W3, W3 = (w2.alloc (.cells #[.int .i64 0, .int .i64 0, .int .i64 0, .slice none 0 0, .int .i64 0, .slice none 0 0, .slice none 0 0] 27)).alloc (.cells #[.int .i64 0, .slice none 0 0] 24) := ⟨_, rfl⟩
    have hA : Below W1.heap.size W1 W3 := hb2.trans ((show Below w2.heap.size w2 W3 by rw [hW3]; exact ((Below.refl _ _).alloc (Nat.le_refl _) _).alloc (by simp) _).mono hb2.size)
    obtain ⟨r0, r1, r2, f0, f1, f2, rl, hB⟩ := HZ.out W3 hA
    have HB : Hid (Below w.heap.size w W3) := hB
    clear hA hB hgd hb2 HC HZ
    go_upto_region 2 with fail
    rw [← hW3]
    clear hW3
    go_wp2_with fail
    obtain ⟨q0, q1, q2⟩ := set3_cells (u := .int .i64 0) (v := .int .i64 0) (z := .bool false) r0 r1 r2
    exact bodyPost_ret (v := .tuple #[.agg #[.int .i64 0, .int .i64 0, .bool false], .int .i64 1]) (by simp [results, Tryz.results11, go_sem, q0, q1, q2]) rfl (HE.out out0 1 W3 HR1.out HB.out)
  · have HR1 : Hid (R = (out0, 2)) := by rw [HR.out]; unfold runR; rw [if_pos hgd, hrd]; rfl
    obtain ⟨W3, hW3⟩ : ∃ W3, W3 = (w2.alloc (.cells #[.int .i64 0, .int .i64 0, .int .i64 0, .slice none 0 0, .int .i64 0, .slice none 0 0, .slice none 0 0] 27)).alloc (.cells #[.int .i64 0, .slice none 0 0] 24) := ⟨_, rfl⟩
    have hA : Below W1.heap.size W1 W3 := hb2.trans ((show Below w2.heap.size w2 W3 by rw [hW3]; exact ((Below.refl _ _).alloc (Nat.le_refl _) _).alloc (by simp) _).mono hb2.size)
    obtain ⟨r0, r1, r2, f0, f1, f2, rl, hB⟩ := HZ.out W3 hA
    have HB : Hid (Below w.heap.size w W3) := hB
    clear hA hB hgd hrd hb2 HC HZ
    go_upto_region 2 with fail
    rw [← hW3]
    clear hW3
    go_wp2_with fail
    obtain ⟨q0, q1, q2⟩ := set3_cells (u := .int .i64 0) (v := .int .i64 0) (z := .bool false) r0 r1 r2
    exact bodyPost_ret (v := .tuple #[.agg #[.int .i64 0, .int .i64 0, .bool false], .int .i64 2]) (by simp [results, Tryz.results11, go_sem, q0, q1, q2]) rfl (HE.out out0 2 W3 HR1.out HB.out)
  · obtain ⟨sy, zy, _⟩ := check_run hgd hrd
    obtain ⟨r, hr⟩ : ∃ r : Out × Int, r = (if f < 0 ∨ 100 < f then (out0, 3) else (runM y.tm f.toNat, 0)) := ⟨_, rfl⟩
    have HR1 : Hid (R = r) := by rw [HR.out, hr]; unfold runR; rw [if_pos hgd, hrd]; exact rfl
    obtain ⟨W3, hW3⟩ : ∃ W3, W3 = (w2.alloc (.cells #[.int .i64 y.k, .int .i64 y.n, .int .i64 y.t.k, .slice y.t.a y.t.l.length y.t.c, .int .i64 y.f.k, .slice y.f.a y.f.l.length y.f.c, .slice y.a y.l.length y.c] 27)).alloc (.cells #[.int .i64 i.k, .slice i.a i.l.length i.c] 24) := ⟨_, rfl⟩
    have hA2 : Below w2.heap.size w2 W3 := by rw [hW3]; exact ((Below.refl _ _).alloc (Nat.le_refl _) _).alloc (by simp) _
    have hA : Below W1.heap.size W1 W3 := hb2.trans (hA2.mono hb2.size)
    have p0 : W3.cell? ⟨w2.heap.size, 0, none⟩ = some (.int .i64 y.k) := by rw [hW3]; simp [go_sem]
    have p1 : W3.cell? ⟨w2.heap.size, 1, none⟩ = some (.int .i64 y.n) := by rw [hW3]; simp [go_sem]
    have p2 : W3.cell? ⟨w2.heap.size, 2, none⟩ = some (.int .i64 y.t.k) := by rw [hW3]; simp [go_sem]
    have p3 : W3.cell? ⟨w2.heap.size, 3, none⟩ = some (.slice y.t.a y.t.l.length y.t.c) := by rw [hW3]; simp [go_sem]
    have p4 : W3.cell? ⟨w2.heap.size, 4, none⟩ = some (.int .i64 y.f.k) := by rw [hW3]; simp [go_sem]
    have p5 : W3.cell? ⟨w2.heap.size, 5, none⟩ = some (.slice y.f.a y.f.l.length y.f.c) := by rw [hW3]; simp [go_sem]
    have p6 : W3.cell? ⟨w2.heap.size, 6, none⟩ = some (.slice y.a y.l.length y.c) := by rw [hW3]; simp [go_sem]
    have HO : Hid (Calls Tryz.prog 26 #[.agg #[.int .i64 y.k, .int .i64 y.n, .int .i64 y.t.k, .slice y.t.a y.t.l.length y.t.c, .int .i64 y.f.k, .slice y.f.a y.f.l.length y.f.c, .slice y.a y.l.length y.c], .int .i64 f] W3 fun e w' => e = .returned (.tuple #[.agg #[.int .i64 r.1.k, .int .i64 r.1.n, .bool r.1.b], .int .i64 r.2]) ∧ Below W1.heap.size W1 w') := by
      refine (outcome_all y f W3 (hyi.below hA2) sy zy).mono ?_
      rintro e w' ⟨he, hb⟩
      rw [hr]
      exact ⟨he, hA.trans (hb.mono hA.size)⟩
    have lw2 : w2.heap.size < W3.heap.size := World.block_lt_of_cell? _ _ p0
    clear hA hA2 hgd hrd hb2 HC hyi hii hi44 sy zy hr
    go_upto_region 2 with fail
    rw [← hW3]
    clear hW3
    go_wp2_with fail
    refine HO.out.mono ?_
    rintro e w4 ⟨rfl, hb4⟩
    obtain ⟨r0, r1, r2, f0, f1, f2, rl, hB⟩ := HZ.out w4 hb4
    have HB : Hid (Below w.heap.size w w4) := hB
    clear hb4 hB HZ p0 p1 p2 p3 p4 p5 p6
    go_wp2_with fail
    obtain ⟨q0, q1, q2⟩ := set3_cells (u := .int .i64 r.1.k) (v := .int .i64 r.1.n) (z := .bool r.1.b) r0 r1 r2
    exact bodyPost_ret (v := .tuple #[.agg #[.int .i64 r.1.k, .int .i64 r.1.n, .bool r.1.b], .int .i64 r.2]) (by simp [results, Tryz.results11, go_sem, q0, q1, q2]) rfl (HE.out r.1 r.2 w4 HR1.out HB.out)

/-- What Text makes of a text. -/
def textR (s : ByteArray) (f : Int) : Out × Int := if 1000 < s.size then (out0, 4) else (match parseS s.data.toList with
  | none => (out0, 1)
  | some x => runR x f)

set_option maxRecDepth 20000 in
set_option maxHeartbeats 8000000 in
/-- Text. -/
theorem textFn_any (s : ByteArray) (hm : s.size ≤ 9223372036854775807) (f : Int) (w : World) (hg : Gl w) : Calls Tryz.prog 17 #[.string s, .int .i64 f] w (OutPost (textR s f) w) := by
  obtain ⟨W1, hW1⟩ : ∃ W, W = w.alloc (.cells #[.int .i64 0, .int .i64 0, .bool false] 29) := ⟨_, rfl⟩
  have hb1 : Below w.heap.size w W1 := by rw [hW1]; exact (Below.refl _ _).alloc (Nat.le_refl _) _
  have hs1 : W1.heap.size = w.heap.size + 1 := by rw [hW1]; simp
  have z0 : W1.cell? ⟨w.heap.size, 0, none⟩ = some (.int .i64 0) := by rw [hW1]; simp [go_sem]
  have z1 : W1.cell? ⟨w.heap.size, 1, none⟩ = some (.int .i64 0) := by rw [hW1]; simp [go_sem]
  have z2 : W1.cell? ⟨w.heap.size, 2, none⟩ = some (.bool false) := by rw [hW1]; simp [go_sem]
  have zf : ∀ i, W1.frozen? ⟨w.heap.size, i, none⟩ = false := by intro i; rw [hW1]; simp [go_sem]
  have HC : Hid (Calls Tryz.prog 18 #[.string s] W1 (PsPost s W1)) := parse_any s hm W1 (hg.below hb1)
  have HZ : Hid (∀ W, Below W1.heap.size W1 W → W.cell? ⟨w.heap.size, 0, none⟩ = some (.int .i64 0) ∧ W.cell? ⟨w.heap.size, 1, none⟩ = some (.int .i64 0) ∧ W.cell? ⟨w.heap.size, 2, none⟩ = some (.bool false) ∧ W.frozen? ⟨w.heap.size, 0, none⟩ = false ∧ W.frozen? ⟨w.heap.size, 1, none⟩ = false ∧ W.frozen? ⟨w.heap.size, 2, none⟩ = false ∧ w.heap.size < W.heap.size ∧ Below w.heap.size w W ∧ Gl W) := fun W hW =>
    ⟨cell_later hW z0, cell_later hW z1, cell_later hW z2, (hW.frozen (p := ⟨w.heap.size, 0, none⟩) (by rw [hs1]; show w.heap.size < _; omega)).trans (zf 0), (hW.frozen (p := ⟨w.heap.size, 1, none⟩) (by rw [hs1]; show w.heap.size < _; omega)).trans (zf 1), (hW.frozen (p := ⟨w.heap.size, 2, none⟩) (by rw [hs1]; show w.heap.size < _; omega)).trans (zf 2), by have := hW.size; omega, hb1.trans (hW.mono hb1.size), hg.below (hb1.trans (hW.mono hb1.size))⟩
  obtain ⟨R, hR⟩ : ∃ R, R = textR s f := ⟨_, rfl⟩
  rw [← hR]
  have HR : Hid (R = textR s f) := hR
  have HE : Hid (∀ (o : Out) (er : Int) (W : World), R = (o, er) → Below w.heap.size w W → OutPost R w (.returned (.tuple #[.agg #[.int .i64 o.k, .int .i64 o.n, .bool o.b], .int .i64 er])) (((W.setCell ⟨w.heap.size, 0, none⟩ (.int .i64 o.k)).setCell ⟨w.heap.size, 1, none⟩ (.int .i64 o.n)).setCell ⟨w.heap.size, 2, none⟩ (.bool o.b))) := fun o er W h1 h2 => by
    rw [h1]
    exact ⟨rfl, ((h2.setCell (by simp) _).setCell (by simp) _).setCell (by simp) _⟩
  clear hR hb1 hs1 z0 z1 z2 zf hg hm
  go_enter Tryz.func17, Tryz.ntmps17
  go_wp2_with fail
  rw [← hW1]
  clear hW1
  refine HC.out.mono ?_
  rintro e w2 ⟨x, er, rfl, hxi, hnb, hb2, hcase⟩
  have hc2 : (er = 0 ∧ Hid (R = runR x.tm f)) ∨ ((er != 0) = true ∧ Hid (R = (out0, er))) := by
    rcases hcase with ⟨h1, rfl, _⟩ | ⟨h1, h2, rfl, _⟩ | ⟨h1, h2, rfl⟩
    · refine .inr ⟨rfl, ?_⟩
      rw [HR.out]; unfold textR; rw [if_pos h1]; exact rfl
    · refine .inr ⟨rfl, ?_⟩
      rw [HR.out]; unfold textR; rw [if_neg (by omega), h2]; exact rfl
    · refine .inl ⟨rfl, ?_⟩
      rw [HR.out]; unfold textR; rw [if_neg (by omega), h2]; exact rfl
  obtain ⟨W3, hW3⟩ : ∃ W3, W3 = w2.alloc (.cells #[.int .i64 x.k, .int .i64 x.n, .int .i64 x.t.k, .slice x.t.a x.t.l.length x.t.c, .int .i64 x.f.k, .slice x.f.a x.f.l.length x.f.c, .slice x.a x.l.length x.c] 27) := ⟨_, rfl⟩
  have hA2 : Below w2.heap.size w2 W3 := by rw [hW3]; exact (Below.refl _ _).alloc (Nat.le_refl _) _
  have hA : Below W1.heap.size W1 W3 := hb2.trans (hA2.mono hb2.size)
  have p0 : W3.cell? ⟨w2.heap.size, 0, none⟩ = some (.int .i64 x.k) := by rw [hW3]; simp [go_sem]
  have p1 : W3.cell? ⟨w2.heap.size, 1, none⟩ = some (.int .i64 x.n) := by rw [hW3]; simp [go_sem]
  have p2 : W3.cell? ⟨w2.heap.size, 2, none⟩ = some (.int .i64 x.t.k) := by rw [hW3]; simp [go_sem]
  have p3 : W3.cell? ⟨w2.heap.size, 3, none⟩ = some (.slice x.t.a x.t.l.length x.t.c) := by rw [hW3]; simp [go_sem]
  have p4 : W3.cell? ⟨w2.heap.size, 4, none⟩ = some (.int .i64 x.f.k) := by rw [hW3]; simp [go_sem]
  have p5 : W3.cell? ⟨w2.heap.size, 5, none⟩ = some (.slice x.f.a x.f.l.length x.f.c) := by rw [hW3]; simp [go_sem]
  have p6 : W3.cell? ⟨w2.heap.size, 6, none⟩ = some (.slice x.a x.l.length x.c) := by rw [hW3]; simp [go_sem]
  have lw2 : w2.heap.size < W3.heap.size := World.block_lt_of_cell? _ _ p0
  obtain ⟨r0, r1, r2, f0, f1, f2, rl, hB, hG3⟩ := HZ.out W3 hA
  have HO : Hid (Calls Tryz.prog 11 #[.agg #[.int .i64 x.k, .int .i64 x.n, .int .i64 x.t.k, .slice x.t.a x.t.l.length x.t.c, .int .i64 x.f.k, .slice x.f.a x.f.l.length x.f.c, .slice x.a x.l.length x.c], .int .i64 f] W3 fun e w' => e = .returned (.tuple #[.agg #[.int .i64 (runR x.tm f).1.k, .int .i64 (runR x.tm f).1.n, .bool (runR x.tm f).1.b], .int .i64 (runR x.tm f).2]) ∧ Below W1.heap.size W1 w') := by
    refine (runFn_any x f W3 hG3.gp (hxi.below hA2) hnb).mono ?_
    rintro e w' ⟨he, hb⟩
    exact ⟨he, hA.trans (hb.mono hA.size)⟩
  have HB : Hid (Below w.heap.size w W3) := hB
  clear hA hA2 hb2 HC hxi hnb hB hG3 hcase HR
  rcases hc2 with ⟨rfl, HR1⟩ | ⟨he, HR1⟩
  · obtain ⟨r, hr⟩ : ∃ r, r = runR x.tm f := ⟨_, rfl⟩
    rw [← hr] at HO HR1
    clear hr r0 r1 r2 f0 f1 f2 rl
    go_upto_region 2 with fail
    rw [← hW3]
    clear hW3
    go_wp2_with fail
    refine HO.out.mono ?_
    rintro e w4 ⟨rfl, hb4⟩
    obtain ⟨r0, r1, r2, f0, f1, f2, rl, hB, _⟩ := HZ.out w4 hb4
    have HB4 : Hid (Below w.heap.size w w4) := hB
    clear hb4 hB HZ p0 p1 p2 p3 p4 p5 p6
    go_wp2_with fail
    obtain ⟨q0, q1, q2⟩ := set3_cells (u := .int .i64 r.1.k) (v := .int .i64 r.1.n) (z := .bool r.1.b) r0 r1 r2
    exact bodyPost_ret (v := .tuple #[.agg #[.int .i64 r.1.k, .int .i64 r.1.n, .bool r.1.b], .int .i64 r.2]) (by simp [results, Tryz.results17, go_sem, q0, q1, q2]) rfl (HE.out r.1 r.2 w4 HR1.out HB4.out)
  · clear HO HZ p0 p1 p2 p3 p4 p5 p6
    go_upto_region 2 with fail
    rw [← hW3]
    clear hW3
    go_wp2_with fail
    obtain ⟨q0, q1, q2⟩ := set3_cells (u := .int .i64 0) (v := .int .i64 0) (z := .bool false) r0 r1 r2
    exact bodyPost_ret (v := .tuple #[.agg #[.int .i64 0, .int .i64 0, .bool false], .int .i64 er]) (by simp [results, Tryz.results17, go_sem, q0, q1, q2]) rfl (HE.out out0 er W3 HR1.out HB.out)
end Go.Proofs.YtnddkmccagiclabGreatDoor

/-
  What the laws' own call 'alive' answers: true.
-/
namespace Go.Proofs.YtnddkmccagiclabGreatDoor
open Go.RowKit

/-- (call (fun any (add #0 1)) (as any 6)) -/
def aX : Tm := ⟨8, 0, anyY, anyY, [⟨7, 0, anyY, anyY, [⟨4, 0, anyY, anyY, [⟨1, 0, anyY, anyY, []⟩, ⟨2, 1, anyY, anyY, []⟩]⟩]⟩, ⟨9, 0, anyY, anyY, [⟨2, 6, anyY, anyY, []⟩]⟩]⟩
/-- The same with its casts. -/
def aY : Tm := ⟨8, 0, anyY, anyY, [⟨7, 0, anyY, anyY, [⟨4, 0, anyY, anyY, [⟨10, 3, ⟨1, []⟩, anyY, [⟨1, 0, anyY, anyY, []⟩]⟩, ⟨2, 1, anyY, anyY, []⟩]⟩]⟩, ⟨9, 0, anyY, anyY, [⟨10, 6, anyY, ⟨1, []⟩, [⟨2, 6, anyY, anyY, []⟩]⟩]⟩]⟩
def aS : ByteArray := ⟨#[40, 99, 97, 108, 108, 32, 40, 102, 117, 110, 32, 97, 110, 121, 32, 40, 97, 100, 100, 32, 35, 48, 32, 49, 41, 41, 32, 40, 97, 115, 32, 97, 110, 121, 32, 54, 41, 41]⟩

theorem a_any : isAnyY anyY = true := by simp [isAnyY, anyY, relY_mk, relL]
theorem a_good4 : goodY 4 anyY = true := by simp [goodY, anyY]

theorem aX_good : goodM 0 aX = true := by
  have : goodS 0 40 0 aX 40 = some 33 := by
    simp [aX, goodS, okTop, okTypes, okNum, tells, partsOf, bindL, a_any, a_good4, insOf]
  exact congrArg Option.isSome this

theorem aX_read : readS aX [] 0 = some (aY, ⟨1, []⟩) := by
  simp [aX, aY, readS_mk, readL, takesIn, ruleY, fitL, castL, castY, relY_mk, relL, escFits, escSame, anyY, callY, Tm.sz_mk]

set_option maxRecDepth 100000 in
theorem aS_words : readTm ((wordsOf aS.data.toList).length + 1) (wordsOf aS.data.toList) = some (aX, []) := by kernel_rfl

theorem aS_parse : parseS aS.data.toList = some aX := by
  unfold parseS
  rw [aS_words]
  simp only
  rw [if_pos aX_good]

theorem a_new1 (o : Out) : newC 100 ⟨1, []⟩ anyY o = some ⟨false, out0, 1, out0, none, none, true⟩ := by
  have e : newC 99 ⟨1, []⟩ ⟨1, []⟩ o = none := by rw [newC, if_pos (by simp [relY_mk, relL])]
  rw [newC, if_neg (by simp [anyY, relY_mk, relL, escSame]), if_neg (by simp), if_pos (by rfl)]
  have g : groundY ⟨1, []⟩ = ⟨1, []⟩ := rfl
  simp only [g, e, someC]
theorem a_new2 (o : Out) : newC 100 anyY ⟨1, []⟩ o = some ⟨true, o, 1, out0, none, none, false⟩ := by
  have e : newC 99 ⟨1, []⟩ ⟨1, []⟩ o = none := by rw [newC, if_pos (by simp [relY_mk, relL])]
  rw [newC, if_neg (by simp [anyY, relY_mk, relL, escSame]), if_neg (by simp), if_neg (by simp), if_pos (by rfl)]
  have g : groundY ⟨1, []⟩ = ⟨1, []⟩ := rfl
  simp only [g, e, someC]

theorem aY_run : runM aY 5 = ⟨1, 7, false⟩ := by
  obtain ⟨h1, h2, _⟩ := check_run aX_good aX_read
  have e : runN 13 (st0 aY 5) = ⟨[], [numV 7], 1, 5, out0⟩ := by
    simp [runN, st0, stepS, doS, lookS, bothS, St.plan, St.push, lookT, doT, changeT, aY, Tm.at, changeS, callS, enterS, funV, numV, a_new1, a_new2, ofC, knownV, clampI, Val.core, out0, tm0]
    omega
  rw [runM_of h1 h2 (by omega) (n := 13) (by rw [e]; exact .inr rfl), e]
  rfl

theorem aS_text : textR aS 5 = (⟨1, 7, false⟩, 0) := by
  unfold textR
  rw [if_neg (by show ¬ (1000 < 38); omega), aS_parse]
  simp only
  unfold runR
  rw [if_pos aX_good, aX_read]
  simp only
  rw [if_neg (by omega)]
  show (runM aY 5, (0 : Int)) = _
  rw [aY_run]

set_option maxRecDepth 20000 in
set_option maxHeartbeats 4000000 in
/-- alive. -/
theorem alive_any (w : World) (hg : Gl w) : Calls Tryz.prog 12 #[] w fun e w' => e = .returned (.bool true) ∧ Below w.heap.size w w' := by
  have HT : Hid (Calls Tryz.prog 17 #[.string aS, .int .i64 5] w fun e w' => e = .returned (.tuple #[.agg #[.int .i64 1, .int .i64 7, .bool false], .int .i64 0]) ∧ Below w.heap.size w w') := by
    have := textFn_any aS (by show 38 ≤ 9223372036854775807; omega) 5 w hg
    rw [aS_text] at this
    exact this
  unfold aS at HT
  clear hg
  go_enter Tryz.func12, Tryz.ntmps12
  go_wp2_with fail
  refine HT.out.mono ?_
  rintro e w2 ⟨rfl, hb⟩
  have HB : Hid (Below w.heap.size w w2) := hb
  clear hb HT
  go_wp2_with fail
  go_ret
  exact ⟨rfl, HB.out.alloc HB.out.size _⟩
end Go.Proofs.YtnddkmccagiclabGreatDoor

/-
  Plain mathematics of check: where all is told nothing is cast; who says less is not refused; no program in it.
-/
namespace Go.Proofs.YtnddkmccagiclabGreatDoor

theorem len2 {α : Type} {l : List α} (h : l.length = 2) : ∃ a b, l = [a, b] := by
  match l, h with
  | [a, b], _ => exact ⟨a, b, rfl⟩
theorem len3 {α : Type} {l : List α} (h : l.length = 3) : ∃ a b c, l = [a, b, c] := by
  match l, h with
  | [a, b, c], _ => exact ⟨a, b, c, rfl⟩

/-! ### All told -/

def sureM : Tm → Bool
  | ⟨k, _, t, _, l⟩ => (!(tells k) || sureY t) && (l.map fun x => sureM x).all id
theorem sureM_mk (k n : Int) (t f : Ty) (l : List Tm) : sureM ⟨k, n, t, f, l⟩ = ((!(tells k) || sureY t) && l.all sureM) := by
  rw [sureM, List.all_map]
  rfl

/-- Two types that are sure fit only if they are one. -/
theorem sure_one : ∀ (n : Nat) (a b : Ty), goodY n a = true → goodY n b = true → sureY a = true → sureY b = true → relY escFits a b = true → a = b
  | 0, a, b, h, _, _, _, _ => by simp [goodY] at h
  | n + 1, a, b, ha, hb, sa, sb, h => by
    rcases goodY_cases ha with ⟨ka, rfl, hka⟩ | ⟨x, y, rfl, hx, hy⟩
    · have k0 : ka ≠ 0 := by simpa [sureY_mk] using sa
      rcases goodY_cases hb with ⟨kb, rfl, hkb⟩ | ⟨x', y', rfl, hx', hy'⟩
      · have k1 : kb ≠ 0 := by simpa [sureY_mk] using sb
        simp [relY_mk, relL, escFits, k0, k1] at h
        rw [h]
      · simp [relY_mk, relL, escFits, k0] at h
    · rcases goodY_cases hb with ⟨kb, rfl, hkb⟩ | ⟨x', y', rfl, hx', hy'⟩
      · have k1 : kb ≠ 0 := by simpa [sureY_mk] using sb
        simp [relY_mk, relL, escFits, k1] at h
      · have sa' : sureY x = true ∧ sureY y = true := by simpa [sureY_mk] using sa
        have sb' : sureY x' = true ∧ sureY y' = true := by simpa [sureY_mk] using sb
        rw [two _ _ _ _ _ rfl, Bool.and_eq_true] at h
        rw [sure_one n x x' hx hx' sa'.1 sb'.1 h.1, sure_one n y y' hy hy' sa'.2 sb'.2 h.2]

theorem sure_num : sureY ⟨1, []⟩ = true := by simp [sureY_mk]
theorem sure_truth : sureY ⟨2, []⟩ = true := by simp [sureY_mk]

theorem rule_sure {k n : Int} {t : Ty} {ps takes : List Ty} {i : Ty} {us : List Ty} (m : Nat) (hm : 4 ≤ m) (h1 : 1 ≤ k) (h9 : k ≤ 9) (hl : ps.length = partsOf k) (hn : k = 1 → n.toNat < takes.length) (ht : goodY 4 t = true) (hp : ∀ u, u ∈ ps → goodY m u = true)
    (st : tells k = true → sureY t = true) (sp : ∀ u, u ∈ ps → sureY u = true) (sT : ∀ u, u ∈ takes → sureY u = true) (h : ruleY k n t ps takes = some (i, us)) (hf : fitL ps us = true) : sureY i = true ∧ us = ps := by
  have hk : k = 1 ∨ k = 2 ∨ k = 3 ∨ k = 4 ∨ k = 5 ∨ k = 6 ∨ k = 7 ∨ k = 8 ∨ k = 9 := by omega
  obtain ⟨m, rfl⟩ : ∃ r, m = r + 1 := ⟨m - 1, by omega⟩
  rcases hk with rfl | rfl | rfl | rfl | rfl | rfl | rfl | rfl | rfl
  · have hl0 : ps = [] := List.length_eq_zero_iff.1 (by rw [hl]; rfl)
    subst hl0
    have hn' := hn rfl
    simp [ruleY, hn'] at h
    obtain ⟨rfl, rfl⟩ := h
    exact ⟨sT _ (List.getElem_mem hn'), rfl⟩
  · have hl0 : ps = [] := List.length_eq_zero_iff.1 (by rw [hl]; rfl)
    subst hl0
    simp [ruleY] at h
    obtain ⟨rfl, rfl⟩ := h
    exact ⟨sure_num, rfl⟩
  · have hl0 : ps = [] := List.length_eq_zero_iff.1 (by rw [hl]; rfl)
    subst hl0
    simp [ruleY] at h
    obtain ⟨rfl, rfl⟩ := h
    exact ⟨sure_truth, rfl⟩
  · obtain ⟨a, b, rfl⟩ : ∃ a b, ps = [a, b] := len2 (by rw [hl]; rfl)
    simp [ruleY] at h
    obtain ⟨rfl, rfl⟩ := h
    simp only [fitL, Bool.and_eq_true, Bool.and_true] at hf
    rw [sure_one (m + 1) a ⟨1, []⟩ (hp a (by simp)) (goodY_num _) (sp a (by simp)) sure_num hf.1, sure_one (m + 1) b ⟨1, []⟩ (hp b (by simp)) (goodY_num _) (sp b (by simp)) sure_num hf.2]
    exact ⟨sure_num, rfl⟩
  · obtain ⟨a, b, rfl⟩ : ∃ a b, ps = [a, b] := len2 (by rw [hl]; rfl)
    simp [ruleY] at h
    obtain ⟨rfl, rfl⟩ := h
    simp only [fitL, Bool.and_eq_true, Bool.and_true] at hf
    rw [sure_one (m + 1) a ⟨1, []⟩ (hp a (by simp)) (goodY_num _) (sp a (by simp)) sure_num hf.1, sure_one (m + 1) b ⟨1, []⟩ (hp b (by simp)) (goodY_num _) (sp b (by simp)) sure_num hf.2]
    exact ⟨sure_truth, rfl⟩
  · obtain ⟨a, b, c, rfl⟩ : ∃ a b c, ps = [a, b, c] := len3 (by rw [hl]; rfl)
    have h' : ifY ⟨2, []⟩ b c = some (i, us) := by simpa [ruleY] using h
    unfold ifY at h'
    split at h'
    · rename_i hbc
      have e := sure_one (m + 1) b c (hp b (by simp)) (hp c (by simp)) (sp b (by simp)) (sp c (by simp)) hbc
      subst e
      rw [(join_facts (m + 1) b b (hp b (by simp)) (hp b (by simp))).2.2.2.2] at h'
      cases h'
      simp only [fitL, Bool.and_eq_true, Bool.and_true] at hf
      rw [sure_one (m + 1) a ⟨2, []⟩ (hp a (by simp)) (goodY_truth _) (sp a (by simp)) sure_truth hf.1]
      exact ⟨sp _ (by simp), rfl⟩
    · cases h'
  · obtain ⟨a, rfl⟩ : ∃ a, ps = [a] := List.length_eq_one_iff.1 (by rw [hl]; rfl)
    have h' : some (Ty.mk 3 [t, a], [a]) = some (i, us) := by simpa [ruleY] using h
    cases h'
    refine ⟨?_, rfl⟩
    simp [sureY_mk, st rfl, sp a (by simp)]
  · obtain ⟨a, b, rfl⟩ : ∃ a b, ps = [a, b] := len2 (by rw [hl]; rfl)
    have h' : callY a = some (i, us) := by simpa [ruleY] using h
    have sa := sp a (by simp)
    rcases goodY_cases (hp a (by simp)) with ⟨k, rfl, hk⟩ | ⟨x, y, rfl, hx, hy⟩
    · rcases hk with rfl | rfl | rfl
      · simp [sureY_mk] at sa
      · simp [callY] at h'
      · simp [callY] at h'
    · simp [callY] at h'
      obtain ⟨rfl, rfl⟩ := h'
      have sa' : sureY x = true ∧ sureY y = true := by simpa [sureY_mk] using sa
      simp only [fitL, Bool.and_eq_true, Bool.and_true] at hf
      rw [sure_one (m + 1) b x (hp b (by simp)) (goodY_more m _ _ (by omega) hx) (sp b (by simp)) sa'.1 hf.2]
      exact ⟨sa'.2, rfl⟩
  · obtain ⟨a, rfl⟩ : ∃ a, ps = [a] := List.length_eq_one_iff.1 (by rw [hl]; rfl)
    have h' : some (t, [t]) = some (i, us) := by simpa [ruleY] using h
    cases h'
    simp only [fitL, Bool.and_true] at hf
    rw [sure_one (m + 1) a t (hp a (by simp)) (goodY_more 4 _ _ (by omega) ht) (sp a (by simp)) (st rfl) hf]
    exact ⟨st rfl, rfl⟩

theorem castL_same : ∀ ps : List (Nat × Tm × Ty), castL ps (ps.map fun p => p.2.2) = ps.map fun p => p.2.1
  | [] => rfl
  | p :: r => by simp [castL, castY, relY_refl, castL_same r]

theorem readL_same {takes : List Ty} : ∀ (l : List Tm) (c : Nat) (ps : List (Nat × Tm × Ty)), readL l takes c = some ps → (∀ x, x ∈ l → ∀ c y i, readS x takes c = some (y, i) → y = x) → ps.map (fun p => p.2.1) = l
  | [], c, ps, h, _ => by rw [readL] at h; cases h; rfl
  | x :: r, c, ps, h, hQ => by
    obtain ⟨y, i, q, h1, h2, rfl⟩ := readL_cons h
    simp [hQ x (by simp) c y i h1, readL_same r _ q h2 fun z hz => hQ z (by simp [hz])]

/-- Where all is told the type is sure, and nothing is cast. -/
theorem read_sure : ∀ (x : Tm) (takes : List Ty) (c : Nat) (y : Tm) (i : Ty), okTm x takes.length → (∀ u, u ∈ takes → goodY 4 u = true) → (∀ u, u ∈ takes → sureY u = true) → sureM x = true → readS x takes c = some (y, i) → sureY i = true ∧ y = x := by
  intro x
  induction x using Tm.ind with
  | h k n t f l ih =>
    intro takes c y i hok hT hS hs h
    obtain ⟨h0, h1⟩ := okTm_mk.1 hok
    obtain ⟨k1, k9, hl, hf0, ht, _, hn⟩ := okTop_all h0
    obtain ⟨ps, us, e1, e2, e3, rfl⟩ := readS_some h
    rw [sureM_mk, Bool.and_eq_true] at hs
    have st : tells k = true → sureY t = true := fun hk => by simpa [hk] using hs.1
    have hlen := readL_length _ _ _ _ e1
    have hTS : ∀ u, u ∈ takesIn k t takes → sureY u = true := by
      intro u hu
      unfold takesIn at hu
      split at hu
      · rename_i hk
        rcases List.mem_cons.1 hu with rfl | hu
        · exact st (by rw [hk]; rfl)
        · exact hS u hu
      · exact hS u hu
    have key : ∀ x, x ∈ l → ∀ c y i, readS x (takesIn k t takes) c = some (y, i) → sureY i = true ∧ y = x := fun x hx c y i hr =>
      ih x hx _ c y i (by rw [takesIn_length]; exact h1 x hx) (takesIn_good ht hT) hTS (List.all_eq_true.1 hs.2 x hx) hr
    have hp : ∀ u, u ∈ ps.map (fun p => p.2.2) → goodY ((l.map Tm.sz).sum + 4) u = true ∧ sureY u = true := by
      intro u hu
      obtain ⟨j, hj, rfl⟩ := List.getElem_of_mem hu
      have hj' : j < ps.length := by simpa using hj
      have := readL_all (Q := fun x _ _ i => goodY (x.sz + 4) i = true ∧ sureY i = true) l _ ps e1 (fun x hx c y i hr => ⟨read_good x _ c y i (by rw [takesIn_length]; exact h1 x hx) (takesIn_good ht hT) hr, (key x hx c y i hr).1⟩) j hj' (by omega)
      have hs := sz_mem l l[j] (List.getElem_mem _)
      simpa using And.intro (goodY_more _ ((l.map Tm.sz).sum + 4) _ (by omega) this.1) this.2
    have hn' : k = 1 → n.toNat < (takesIn k t takes).length := by
      intro hk
      have := hn hk
      rw [takesIn_length, hk]
      simp
      omega
    obtain ⟨si, rfl⟩ := rule_sure ((l.map Tm.sz).sum + 4) (by omega) k1 k9 (by simpa using hlen.trans hl) hn' ht (fun u hu => (hp u hu).1) st (fun u hu => (hp u hu).2) hTS e2 e3
    refine ⟨si, ?_⟩
    rw [castL_same, readL_same l _ ps e1 fun x hx c y i hr => (key x hx c y i hr).2, isAny_eq hf0]

/-! ### Sites -/

def sitesM : Tm → List (Int × Ty × Ty)
  | ⟨k, n, t, f, l⟩ => (if k = 10 then [(n, f, t)] else []) ++ (l.map fun x => sitesM x).flatten
theorem sitesM_mk (k n : Int) (t f : Ty) (l : List Tm) : sitesM ⟨k, n, t, f, l⟩ = (if k = 10 then [(n, f, t)] else []) ++ l.flatMap sitesM := by
  rw [sitesM]
  rfl

theorem sites_ok : ∀ (x : Tm) (ins : Nat), okTm x ins → sitesM x = [] := by
  intro x
  induction x using Tm.ind with
  | h k n t f l ih =>
    intro ins hok
    obtain ⟨h0, h1⟩ := okTm_mk.1 hok
    obtain ⟨k1, k9, _⟩ := okTop_all h0
    rw [sitesM_mk, if_neg (by omega), List.nil_append, List.flatMap_eq_nil_iff]
    exact fun x hx => ih x hx _ (h1 x hx)

/-! ### Less told -/

/-- Two lists, each with each. -/
def both {α β : Type} : (l : List α) → List β → ((x : α) → x ∈ l → β → Prop) → Prop
  | [], [], _ => True
  | x :: r, y :: s, f => f x List.mem_cons_self y ∧ both r s (fun z h y => f z (List.mem_cons_of_mem _ h) y)
  | _, _, _ => False

/-- A term that tells less: some types that were told are Any. -/
def looser : Tm → Tm → Prop
  | ⟨k, n, t, f, l⟩, ⟨k', n', t', f', l'⟩ => k' = k ∧ n' = n ∧ f' = f ∧ (t' = t ∨ tells k = true ∧ t' = anyY) ∧ both l l' fun x _ y => looser x y

def looserL : List Tm → List Tm → Prop
  | [], [] => True
  | x :: r, y :: s => looser x y ∧ looserL r s
  | _, _ => False

theorem both_looser : ∀ l l' : List Tm, (both l l' fun x _ y => looser x y) = looserL l l'
  | [], [] => rfl
  | x :: r, y :: s => by simp only [both, looserL, both_looser r s]
  | [], _ :: _ => rfl
  | _ :: _, [] => rfl

theorem looser_mk {k n k' n' : Int} {t f t' f' : Ty} {l l' : List Tm} : looser ⟨k, n, t, f, l⟩ ⟨k', n', t', f', l'⟩ ↔ k' = k ∧ n' = n ∧ f' = f ∧ (t' = t ∨ tells k = true ∧ t' = anyY) ∧ looserL l l' := by
  rw [looser, both_looser]

theorem looserL_len : ∀ l m : List Tm, looserL l m → m.length = l.length
  | [], [], _ => rfl
  | x :: r, y :: s, h => by simp [looserL_len r s h.2]
  | [], _ :: _, h => by simp [looserL] at h
  | _ :: _, [], h => by simp [looserL] at h

theorem looserL_at : ∀ (l m : List Tm), looserL l m → ∀ j (h : j < l.length) (h' : j < m.length), looser l[j] m[j]
  | [], _, _, j, hj, _ => by simp at hj
  | _ :: _, [], _, j, _, hj => by simp at hj
  | x :: r, y :: s, h, 0, _, _ => h.1
  | x :: r, y :: s, h, j + 1, h1, h2 => looserL_at r s h.2 j (by simpa using h1) (by simpa using h2)

theorem looserL_snoc : ∀ (l m : List Tm) (x y : Tm), looserL l m → looser x y → looserL (l ++ [x]) (m ++ [y])
  | [], [], x, y, _, h => by simp [looserL, h]
  | a :: r, b :: s, x, y, h, h' => by
    simp only [List.cons_append, looserL]
    exact ⟨h.1, looserL_snoc r s x y h.2 h'⟩
  | [], _ :: _, _, _, h, _ => by simp [looserL] at h
  | _ :: _, [], _, _, h, _ => by simp [looserL] at h

theorem looserL_sz : ∀ (l m : List Tm), (∀ x, x ∈ l → ∀ u, looser x u → u.sz = x.sz) → looserL l m → m.map Tm.sz = l.map Tm.sz
  | [], [], _, _ => rfl
  | x :: r, y :: s, h, hl => by
    simp [h x (by simp) y hl.1, looserL_sz r s (fun z hz => h z (by simp [hz])) hl.2]
  | [], _ :: _, _, h => by simp [looserL] at h
  | _ :: _, [], _, h => by simp [looserL] at h

theorem looser_sz : ∀ (x u : Tm), looser x u → u.sz = x.sz := by
  intro x
  induction x using Tm.ind with
  | h k n t f l ih =>
    rintro ⟨k', n', t', f', l'⟩ h
    rw [Tm.sz_mk, Tm.sz_mk, looserL_sz l l' ih (looser_mk.1 h).2.2.2.2]

theorem bindL_looser {f g : Tm → Nat → Option Nat} (hf : ∀ x u, looser x u → ∀ q q', f x q = some q' → g u q = some q') : ∀ (l m : List Tm) (r r' : Nat), looserL l m → bindL f l r = some r' → bindL g m r = some r'
  | [], [], r, r', _, h => h
  | x :: l, y :: m, r, r', hl, h => by
    simp only [bindL] at h ⊢
    cases hq : f x r with
    | none => rw [hq] at h; cases h
    | some q =>
      rw [hq] at h
      rw [hf x y hl.1 r q hq]
      exact bindL_looser hf l m q r' hl.2 h
  | [], _ :: _, _, _, h, _ => by simp [looserL] at h
  | _ :: _, [], _, _, h, _ => by simp [looserL] at h

theorem okTop_looser {k n : Int} {t f t' : Ty} {l l' : List Tm} {ins : Int} (ht : t' = t ∨ tells k = true ∧ t' = anyY) (hl : l'.length = l.length) (h : okTop 0 ins ⟨k, n, t, f, l⟩ = true) : okTop 0 ins ⟨k, n, t', f, l'⟩ = true := by
  rcases ht with rfl | ⟨hk, rfl⟩
  · simpa [okTop, hl] using h
  · simp only [okTop, okTypes, hk, if_true, hl, Bool.and_eq_true] at h ⊢
    exact ⟨h.1, ⟨h.2.1.1, goodY_any 3⟩, h.2.2⟩

theorem good_looser : ∀ (n : Nat) (ins : Int) (x u : Tm) (r r' : Nat), looser x u → goodS 0 n ins x r = some r' → goodS 0 n ins u r = some r'
  | 0, _, _, _, _, _, _, h => by simp [goodS] at h
  | _ + 1, _, _, _, 0, _, _, h => by simp [goodS] at h
  | n + 1, ins, ⟨k, m, t, f, l⟩, ⟨k', m', t', f', l'⟩, r + 1, r', hx, h => by
    obtain ⟨rfl, rfl, rfl, ht, hl⟩ := looser_mk.1 hx
    simp only [goodS] at h ⊢
    split at h
    · rename_i h0
      rw [if_pos (okTop_looser ht (looserL_len _ _ hl) h0)]
      exact bindL_looser (fun x u hu q q' => good_looser n _ x u q q' hu) l l' r r' hl h
    · cases h

theorem goodM_looser {x u : Tm} (h : looser x u) (hx : goodM 0 x = true) : goodM 0 u = true := by
  obtain ⟨r', hr⟩ := Option.isSome_iff_exists.1 hx
  exact Option.isSome_iff_exists.2 ⟨r', good_looser 40 0 x u 40 r' h hr⟩

theorem finerL_at {l m : List Ty} (h : relL escFiner l m = true) (j : Nat) : relY escFiner (l.getD j ⟨0, []⟩) (m.getD j ⟨0, []⟩) = true := by
  induction l generalizing m j with
  | nil =>
    cases m with
    | nil => simp [relY_mk, relL]
    | cons => simp [relL] at h
  | cons x r ih =>
    cases m with
    | nil => simp [relL] at h
    | cons y s =>
      simp only [relL, Bool.and_eq_true] at h
      match j with
      | 0 => simpa using h.1
      | j + 1 => simpa using ih h.2 j

theorem fits_both (n : Nat) {a b a' b' : Ty} (ha : goodY n a = true) (hb : goodY n b = true) (ha' : goodY n a' = true) (hb' : goodY n b' = true) (h : relY escFits a b = true) (h1 : relY escFiner a a' = true) (h2 : relY escFiner b b' = true) : relY escFits a' b' = true := by
  have g1 := fits_coarser n a b b' ha hb hb' h h2
  rw [fits_sym n a b' ha hb'] at g1
  have g2 := fits_coarser n b' a a' hb' ha ha' g1 h1
  rw [fits_sym n b' a' hb' ha'] at g2
  exact g2

theorem join_mono (n : Nat) {a b a' b' : Ty} (ha : goodY n a = true) (hb : goodY n b = true) (ha' : goodY n a' = true) (hb' : goodY n b' = true) (h1 : relY escFiner a a' = true) (h2 : relY escFiner b b' = true) : relY escFiner (joinY a b) (joinY a' b') = true := by
  obtain ⟨gj, f1, f2, _, _⟩ := join_facts n a' b' ha' hb'
  exact join_least n a b _ ha hb gj (finer_trans n a a' _ ha ha' gj h1 f1) (finer_trans n b b' _ hb hb' gj h2 f2)

theorem finer_refl : ∀ (n : Nat) (a : Ty), goodY n a = true → relY escFiner a a = true
  | 0, a, h => by simp [goodY] at h
  | n + 1, a, ha => by
    rcases goodY_cases ha with ⟨ka, rfl, _⟩ | ⟨x, y, rfl, hx, hy⟩
    · simp [relY_mk, relL]
    · rw [two _ _ _ _ _ rfl, finer_refl n x hx, finer_refl n y hy]; rfl

theorem fitL_self (m : Nat) : ∀ ps : List Ty, (∀ u, u ∈ ps → goodY m u = true) → fitL ps ps = true
  | [], _ => rfl
  | x :: r, h => by simp [fitL, fits_refl m x (h x (by simp)), fitL_self m r fun u hu => h u (by simp [hu])]

theorem rule_loose {k n : Int} {t t' : Ty} {ps ps' takes takes' : List Ty} {i : Ty} {us : List Ty} (m : Nat) (hm : 4 ≤ m) (h1 : 1 ≤ k) (h9 : k ≤ 9) (hl : ps.length = partsOf k) (ht : goodY 4 t = true) (ht' : goodY 4 t' = true)
    (hp : ∀ u, u ∈ ps → goodY m u = true) (hp' : ∀ u, u ∈ ps' → goodY m u = true) (ft : relY escFiner t t' = true) (fp : relL escFiner ps ps' = true) (fT : relL escFiner takes takes' = true) (h : ruleY k n t ps takes = some (i, us)) (hf : fitL ps us = true) :
    ∃ i' us', ruleY k n t' ps' takes' = some (i', us') ∧ fitL ps' us' = true ∧ relY escFiner i i' = true := by
  have hk : k = 1 ∨ k = 2 ∨ k = 3 ∨ k = 4 ∨ k = 5 ∨ k = 6 ∨ k = 7 ∨ k = 8 ∨ k = 9 := by omega
  obtain ⟨m, rfl⟩ : ∃ r, m = r + 1 := ⟨m - 1, by omega⟩
  have hlp := relL_len _ _ _ fp
  have num := goodY_num m
  have truth := goodY_truth m
  rcases hk with rfl | rfl | rfl | rfl | rfl | rfl | rfl | rfl | rfl
  · have hl0 : ps' = [] := List.length_eq_zero_iff.1 (by rw [← hlp, hl]; rfl)
    subst hl0
    have h' : some (takes.getD n.toNat ⟨0, []⟩, []) = some (i, us) := by simpa [ruleY] using h
    cases h'
    exact ⟨takes'.getD n.toNat ⟨0, []⟩, [], by simp [ruleY], rfl, finerL_at fT _⟩
  · have hl0 : ps' = [] := List.length_eq_zero_iff.1 (by rw [← hlp, hl]; rfl)
    subst hl0
    simp [ruleY] at h
    obtain ⟨rfl, rfl⟩ := h
    exact ⟨_, _, by simp [ruleY]; exact ⟨rfl, rfl⟩, rfl, by simp [relY_mk, relL]⟩
  · have hl0 : ps' = [] := List.length_eq_zero_iff.1 (by rw [← hlp, hl]; rfl)
    subst hl0
    simp [ruleY] at h
    obtain ⟨rfl, rfl⟩ := h
    exact ⟨_, _, by simp [ruleY]; exact ⟨rfl, rfl⟩, rfl, by simp [relY_mk, relL]⟩
  · obtain ⟨a, b, rfl⟩ : ∃ a b, ps = [a, b] := len2 (by rw [hl]; rfl)
    obtain ⟨a', b', rfl⟩ : ∃ a b, ps' = [a, b] := len2 (by rw [← hlp]; rfl)
    simp only [relL, Bool.and_eq_true, Bool.and_true] at fp
    simp [ruleY] at h
    obtain ⟨rfl, rfl⟩ := h
    simp only [fitL, Bool.and_eq_true, Bool.and_true] at hf
    refine ⟨⟨1, []⟩, [⟨1, []⟩, ⟨1, []⟩], by simp [ruleY], ?_, by simp [relY_mk, relL]⟩
    simp only [fitL, Bool.and_eq_true, Bool.and_true]
    exact ⟨fits_both (m + 1) (hp a (by simp)) num (hp' a' (by simp)) num hf.1 fp.1 (finer_refl _ _ num), fits_both (m + 1) (hp b (by simp)) num (hp' b' (by simp)) num hf.2 fp.2 (finer_refl _ _ num)⟩
  · obtain ⟨a, b, rfl⟩ : ∃ a b, ps = [a, b] := len2 (by rw [hl]; rfl)
    obtain ⟨a', b', rfl⟩ : ∃ a b, ps' = [a, b] := len2 (by rw [← hlp]; rfl)
    simp only [relL, Bool.and_eq_true, Bool.and_true] at fp
    simp [ruleY] at h
    obtain ⟨rfl, rfl⟩ := h
    simp only [fitL, Bool.and_eq_true, Bool.and_true] at hf
    refine ⟨⟨2, []⟩, [⟨1, []⟩, ⟨1, []⟩], by simp [ruleY], ?_, by simp [relY_mk, relL]⟩
    simp only [fitL, Bool.and_eq_true, Bool.and_true]
    exact ⟨fits_both (m + 1) (hp a (by simp)) num (hp' a' (by simp)) num hf.1 fp.1 (finer_refl _ _ num), fits_both (m + 1) (hp b (by simp)) num (hp' b' (by simp)) num hf.2 fp.2 (finer_refl _ _ num)⟩
  · obtain ⟨a, b, c, rfl⟩ : ∃ a b c, ps = [a, b, c] := len3 (by rw [hl]; rfl)
    obtain ⟨a', b', c', rfl⟩ : ∃ a b c, ps' = [a, b, c] := len3 (by rw [← hlp]; rfl)
    simp only [relL, Bool.and_eq_true, Bool.and_true] at fp
    have h' : ifY ⟨2, []⟩ b c = some (i, us) := by simpa [ruleY] using h
    unfold ifY at h'
    split at h'
    · rename_i hbc
      cases h'
      simp only [fitL, Bool.and_eq_true, Bool.and_true] at hf
      have gb := hp b (by simp)
      have gc := hp c (by simp)
      have gb' := hp' b' (by simp)
      have gc' := hp' c' (by simp)
      obtain ⟨gj, f1, f2, _, _⟩ := join_facts (m + 1) b' c' gb' gc'
      have hbc' := fits_both (m + 1) gb gc gb' gc' hbc fp.2.1 fp.2.2
      refine ⟨joinY b' c', [⟨2, []⟩, joinY b' c', joinY b' c'], by simp [ruleY, ifY, hbc'], ?_, join_mono (m + 1) gb gc gb' gc' fp.2.1 fp.2.2⟩
      simp only [fitL, Bool.and_eq_true, Bool.and_true]
      exact ⟨fits_both (m + 1) (hp a (by simp)) truth (hp' a' (by simp)) truth hf.1 fp.1 (finer_refl _ _ truth), finer_fits (m + 1) _ _ gb' gj f1, finer_fits (m + 1) _ _ gc' gj f2⟩
    · cases h'
  · obtain ⟨a, rfl⟩ : ∃ a, ps = [a] := List.length_eq_one_iff.1 (by rw [hl]; rfl)
    obtain ⟨a', rfl⟩ : ∃ a, ps' = [a] := List.length_eq_one_iff.1 (by rw [← hlp]; rfl)
    simp only [relL, Bool.and_true] at fp
    have h' : some (Ty.mk 3 [t, a], [a]) = some (i, us) := by simpa [ruleY] using h
    cases h'
    refine ⟨⟨3, [t', a']⟩, [a'], by simp [ruleY], fitL_self (m + 1) _ hp', ?_⟩
    rw [two _ _ _ _ _ rfl, ft, fp]; rfl
  · obtain ⟨a, b, rfl⟩ : ∃ a b, ps = [a, b] := len2 (by rw [hl]; rfl)
    obtain ⟨a', b', rfl⟩ : ∃ a b, ps' = [a, b] := len2 (by rw [← hlp]; rfl)
    simp only [relL, Bool.and_eq_true, Bool.and_true] at fp
    have h' : callY a = some (i, us) := by simpa [ruleY] using h
    have ga := hp a (by simp)
    have ga' := hp' a' (by simp)
    have anyCase : a' = ⟨0, []⟩ → ∃ i' us', ruleY 8 n t' [a', b'] takes' = some (i', us') ∧ fitL [a', b'] us' = true ∧ relY escFiner i i' = true := by
      rintro rfl
      refine ⟨⟨0, []⟩, [⟨3, [⟨0, []⟩, ⟨0, []⟩]⟩, ⟨0, []⟩], by simp [ruleY, callY], ?_, any_coarser _ _⟩
      simp [fitL, any_left, any_right]
    rcases goodY_cases ga' with ⟨k', rfl, hk'⟩ | ⟨x', y', rfl, hx', hy'⟩
    · rcases goodY_cases ga with ⟨k, rfl, hk⟩ | ⟨x, y, rfl, hx, hy⟩
      · rcases hk with rfl | rfl | rfl
        · have : k' = 0 := by
            have := fp.1
            simp [relY_mk, relL, escFiner] at this
            omega
          subst this
          exact anyCase rfl
        · simp [callY] at h'
        · simp [callY] at h'
      · have : k' = 0 := by
          have := fp.1
          simp [relY_mk, relL, escFiner] at this
          omega
        subst this
        exact anyCase rfl
    · rcases goodY_cases ga with ⟨k, rfl, hk⟩ | ⟨x, y, rfl, hx, hy⟩
      · have := fp.1
        simp [relY_mk, relL, escFiner] at this
      · simp [callY] at h'
        obtain ⟨rfl, rfl⟩ := h'
        simp only [fitL, Bool.and_eq_true, Bool.and_true] at hf
        have f1 := fp.1
        rw [two _ _ _ _ _ rfl, Bool.and_eq_true] at f1
        refine ⟨y', [⟨3, [x', y']⟩, x'], by simp [ruleY, callY], ?_, f1.2⟩
        simp only [fitL, Bool.and_eq_true, Bool.and_true]
        exact ⟨fits_refl (m + 1) _ ga', fits_both (m + 1) (hp b (by simp)) (goodY_more m _ _ (by omega) hx) (hp' b' (by simp)) (goodY_more m _ _ (by omega) hx') hf.2 fp.2 f1.1⟩
  · obtain ⟨a, rfl⟩ : ∃ a, ps = [a] := List.length_eq_one_iff.1 (by rw [hl]; rfl)
    obtain ⟨a', rfl⟩ : ∃ a, ps' = [a] := List.length_eq_one_iff.1 (by rw [← hlp]; rfl)
    simp only [relL, Bool.and_true] at fp
    have h' : some (t, [t]) = some (i, us) := by simpa [ruleY] using h
    cases h'
    simp only [fitL, Bool.and_true] at hf
    refine ⟨t', [t'], by simp [ruleY], ?_, ft⟩
    simp only [fitL, Bool.and_true]
    exact fits_both (m + 1) (hp a (by simp)) (goodY_more 4 _ _ (by omega) ht) (hp' a' (by simp)) (goodY_more 4 _ _ (by omega) ht') hf fp ft

theorem readL_loose {takes takes' : List Ty} : ∀ (l l' : List Tm) (c : Nat) (ps : List (Nat × Tm × Ty)), looserL l l' → readL l takes c = some ps →
    (∀ x, x ∈ l → ∀ u, looser x u → ∀ c y i, readS x takes c = some (y, i) → ∃ y' i', readS u takes' c = some (y', i') ∧ relY escFiner i i' = true) →
    ∃ ps', readL l' takes' c = some ps' ∧ relL escFiner (ps.map fun p => p.2.2) (ps'.map fun p => p.2.2) = true
  | [], [], c, ps, _, h, _ => by rw [readL] at h; cases h; exact ⟨[], by rw [readL], by simp [relL]⟩
  | x :: r, u :: s, c, ps, hl, h, hQ => by
    obtain ⟨y, i, q, h1, h2, rfl⟩ := readL_cons h
    obtain ⟨y', i', g1, g2⟩ := hQ x (by simp) u hl.1 c y i h1
    obtain ⟨q', g3, g4⟩ := readL_loose r s _ q hl.2 h2 fun z hz => hQ z (by simp [hz])
    refine ⟨(c, y', i') :: q', ?_, by simp [relL, g2, g4]⟩
    rw [readL, g1, looser_sz x u hl.1]
    simp [g3]
  | [], _ :: _, _, _, h, _, _ => by simp [looserL] at h
  | _ :: _, [], _, _, h, _, _ => by simp [looserL] at h

theorem looser_ok : ∀ (x u : Tm) (ins : Nat), looser x u → okTm x ins → okTm u ins := by
  intro x
  induction x using Tm.ind with
  | h k n t f l ih =>
    rintro ⟨k', n', t', f', l'⟩ ins h hok
    obtain ⟨rfl, rfl, rfl, ht, hl⟩ := looser_mk.1 h
    obtain ⟨h0, h1⟩ := okTm_mk.1 hok
    have hlen := looserL_len _ _ hl
    refine okTm_mk.2 ⟨okTop_looser ht hlen h0, fun y hy => ?_⟩
    obtain ⟨j, hj, rfl⟩ := List.getElem_of_mem hy
    exact ih l[j] (List.getElem_mem _) _ _ (looserL_at l l' hl j (by omega) hj) (h1 _ (List.getElem_mem _))

theorem relL_refl_good (m : Nat) : ∀ l : List Ty, (∀ u, u ∈ l → goodY m u = true) → relL escFiner l l = true
  | [], _ => by simp [relL]
  | x :: r, h => by simp [relL, finer_refl m x (h x (by simp)), relL_refl_good m r fun u hu => h u (by simp [hu])]

/-- Who says less is not refused for it, and its type says less. -/
theorem read_loose : ∀ (x u : Tm) (takes takes' : List Ty) (c : Nat) (y : Tm) (i : Ty), looser x u → okTm x takes.length → (∀ u, u ∈ takes → goodY 4 u = true) → (∀ u, u ∈ takes' → goodY 4 u = true) → relL escFiner takes takes' = true → readS x takes c = some (y, i) →
    ∃ y' i', readS u takes' c = some (y', i') ∧ relY escFiner i i' = true := by
  intro x
  induction x using Tm.ind with
  | h k n t f l ih =>
    rintro ⟨k', n', t', f', l'⟩ takes takes' c y i hu hok hT hT' fT h
    have hok' := looser_ok _ _ _ hu hok
    obtain ⟨rfl, rfl, rfl, htt, hl⟩ := looser_mk.1 hu
    obtain ⟨h0, h1⟩ := okTm_mk.1 hok
    obtain ⟨h0', h1'⟩ := okTm_mk.1 hok'
    obtain ⟨k1, k9, hlp, _, ht, _, _⟩ := okTop_all h0
    obtain ⟨_, _, hlp', _, ht', _, _⟩ := okTop_all h0'
    obtain ⟨ps, us, e1, e2, e3, rfl⟩ := readS_some h
    have ft : relY escFiner t t' = true := by
      rcases htt with rfl | ⟨_, rfl⟩
      · exact finer_refl 4 _ ht
      · exact any_coarser _ _
    have fT2 : relL escFiner (takesIn k' t takes) (takesIn k' t' takes') = true := by
      unfold takesIn
      split
      · simp [relL, ft, fT]
      · exact fT
    have hTl := relL_len _ _ _ fT
    obtain ⟨ps', g1, g2⟩ := readL_loose (takes' := takesIn k' t' takes') l l' (c + 1) ps hl e1 fun z hz u hzu c y i hr =>
      ih z hz u _ _ c y i hzu (by rw [takesIn_length]; exact h1 z hz) (takesIn_good ht hT) (takesIn_good ht' hT') fT2 hr
    have hlen := readL_length _ _ _ _ e1
    have hlen' := readL_length _ _ _ _ g1
    have hp : ∀ u, u ∈ ps.map (fun p => p.2.2) → goodY ((l.map Tm.sz).sum + 4) u = true := by
      intro u hu
      obtain ⟨j, hj, rfl⟩ := List.getElem_of_mem hu
      have hj' : j < ps.length := by simpa using hj
      have := readL_all (Q := fun x _ _ i => goodY (x.sz + 4) i = true) l _ ps e1 (fun x hx c y i hr => read_good x _ c y i (by rw [takesIn_length]; exact h1 x hx) (takesIn_good ht hT) hr) j hj' (by omega)
      have hs := sz_mem l l[j] (List.getElem_mem _)
      simpa using goodY_more _ ((l.map Tm.sz).sum + 4) _ (by omega) this
    have hsz : (l'.map Tm.sz).sum = (l.map Tm.sz).sum := by
      rw [looserL_sz l l' (fun x _ u => looser_sz x u) hl]
    have hp' : ∀ u, u ∈ ps'.map (fun p => p.2.2) → goodY ((l.map Tm.sz).sum + 4) u = true := by
      intro u hu
      obtain ⟨j, hj, rfl⟩ := List.getElem_of_mem hu
      have hj' : j < ps'.length := by simpa using hj
      have := readL_all (Q := fun x _ _ i => goodY (x.sz + 4) i = true) l' _ ps' g1 (fun x hx c y i hr => read_good x _ c y i (by rw [takesIn_length, ← hTl]; exact h1' x hx) (takesIn_good ht' hT') hr) j hj' (by omega)
      have hs := sz_mem l' l'[j] (List.getElem_mem _)
      simpa using goodY_more _ ((l.map Tm.sz).sum + 4) _ (by omega) this
    obtain ⟨i', us', r1, r2, r3⟩ := rule_loose ((l.map Tm.sz).sum + 4) (by omega) k1 k9 (by simpa using hlen.trans hlp) ht ht' hp hp' ft g2 fT2 e2 e3
    refine ⟨⟨k', n', t', anyY, castL ps' us'⟩, i', ?_, r3⟩
    rw [readS_mk, g1]
    simp [r1, r2]
end Go.Proofs.YtnddkmccagiclabGreatDoor

/-
  Plain mathematics of check: each term is cast once at most, between types that fit and are not alike; without casts it is the term; no program in it.
-/
namespace Go.Proofs.YtnddkmccagiclabGreatDoor

/-- A term without casts, As and types. -/
def eraseM : Tm → Tm
  | ⟨k, n, _, _, l⟩ => match l.map fun x => eraseM x with
    | [x] => if k = 9 ∨ k = 10 then x else ⟨k, n, anyY, anyY, [x]⟩
    | m => ⟨k, n, anyY, anyY, m⟩

/-- Of a term whose parts are erased. -/
def eraseT (k n : Int) : List Tm → Tm
  | [x] => if k = 9 ∨ k = 10 then x else ⟨k, n, anyY, anyY, [x]⟩
  | m => ⟨k, n, anyY, anyY, m⟩

theorem eraseM_mk (k n : Int) (t f : Ty) (l : List Tm) : eraseM ⟨k, n, t, f, l⟩ = eraseT k n (l.map eraseM) := by
  rw [eraseM]
  rfl

theorem erase_cast (n : Int) (x : Tm) (i u : Ty) : eraseM (castY n x i u) = eraseM x := by
  unfold castY
  split
  · rfl
  · rw [eraseM_mk]; simp [eraseT]

/-- A cast, as it should be. -/
def siteOk (m : Nat) (s : Int × Ty × Ty) : Prop := goodY m s.2.1 = true ∧ goodY m s.2.2 = true ∧ relY escFits s.2.1 s.2.2 = true ∧ relY escSame s.2.1 s.2.2 = false

theorem siteOk.more {m m' : Nat} {s : Int × Ty × Ty} (h : siteOk m s) (hm : m ≤ m') : siteOk m' s := ⟨goodY_more _ _ _ hm h.1, goodY_more _ _ _ hm h.2.1, h.2.2⟩

/-- The casts of what came of a term: between its number and the number behind it; growing; as they should be; how many nodes; what is left without them. -/
structure SitesOk (m : Nat) (x y : Tm) (lo hi : Nat) : Prop where
  inn : ∀ s, s ∈ sitesM y → (lo : Int) ≤ s.1 ∧ s.1 < (hi : Int) ∧ siteOk m s
  grow : ((sitesM y).map fun s => s.1).Pairwise (· < ·)
  sz : y.sz = x.sz + (sitesM y).length
  er : eraseM y = eraseM x

theorem castY_sites (m : Nat) {x y : Tm} {n : Nat} {i u : Ty} (h : SitesOk m x y (n + 1) (n + x.sz)) (hi : goodY m i = true) (hu : goodY m u = true) (hf : relY escFits i u = true) : SitesOk m x (castY (n : Int) y i u) n (n + x.sz) := by
  have hp := x.sz_pos
  by_cases hs : relY escSame i u = true
  · have e : castY (n : Int) y i u = y := by simp [castY, hs]
    rw [e]
    exact ⟨fun s hsm => ⟨by have := (h.inn s hsm).1; omega, (h.inn s hsm).2⟩, h.grow, h.sz, h.er⟩
  · have hs' : relY escSame i u = false := by simpa using hs
    have e : castY (n : Int) y i u = ⟨10, n, u, i, [y]⟩ := by simp [castY, hs']
    have e2 : sitesM (castY (n : Int) y i u) = ((n : Int), i, u) :: sitesM y := by rw [e, sitesM_mk]; simp
    refine ⟨fun s hsm => ?_, ?_, ?_, by rw [erase_cast, h.er]⟩
    · rw [e2] at hsm
      rcases List.mem_cons.1 hsm with rfl | hsm
      · exact ⟨Int.le_refl _, by simp; omega, hi, hu, hf, hs'⟩
      · exact ⟨by have := (h.inn s hsm).1; omega, (h.inn s hsm).2⟩
    · rw [e2, List.map_cons, List.pairwise_cons]
      refine ⟨fun a ha => ?_, h.grow⟩
      obtain ⟨s, hsm, rfl⟩ := List.mem_map.1 ha
      have := (h.inn s hsm).1
      simp only
      omega
    · rw [e2, e, Tm.sz_mk]
      simp [h.sz]
      omega

theorem castL_sites (m : Nat) {takes : List Ty} : ∀ (l : List Tm) (c : Nat) (ps : List (Nat × Tm × Ty)) (us : List Ty), readL l takes c = some ps → us.length = ps.length → fitL (ps.map fun p => p.2.2) us = true → (∀ u, u ∈ us → goodY m u = true) →
    (∀ x, x ∈ l → ∀ c y i, readS x takes c = some (y, i) → goodY m i = true ∧ SitesOk m x y (c + 1) (c + x.sz)) →
    (∀ s, s ∈ (castL ps us).flatMap sitesM → (c : Int) ≤ s.1 ∧ s.1 < ((c + (l.map Tm.sz).sum : Nat) : Int) ∧ siteOk m s) ∧ (((castL ps us).flatMap sitesM).map fun s => s.1).Pairwise (· < ·) ∧
      ((castL ps us).map Tm.sz).sum = (l.map Tm.sz).sum + ((castL ps us).flatMap sitesM).length ∧ (castL ps us).map eraseM = l.map eraseM
  | [], c, ps, us, h, _, _, _, _ => by rw [readL] at h; cases h; simp [castL]
  | x :: r, c, ps, us, h, hl, hf, hu, hQ => by
    obtain ⟨y, i, q, h1, h2, rfl⟩ := readL_cons h
    match us, hl, hf, hu with
    | [], hl, _, _ => simp at hl
    | u :: vs, hl, hf, hu =>
      simp only [List.map_cons, fitL, Bool.and_eq_true] at hf
      obtain ⟨gi, so⟩ := hQ x (by simp) c y i h1
      have S := castY_sites m so gi (hu u (by simp)) hf.1
      obtain ⟨r1, r2, r3, r4⟩ := castL_sites m r (c + x.sz) q vs h2 (by simpa using hl) hf.2 (fun v hv => hu v (by simp [hv])) fun z hz => hQ z (by simp [hz])
      have e : castL ((c, y, i) :: q) (u :: vs) = castY (c : Int) y i u :: castL q vs := rfl
      rw [e]
      refine ⟨fun s hs => ?_, ?_, ?_, ?_⟩
      · rw [List.flatMap_cons, List.mem_append] at hs
        rcases hs with hs | hs
        · obtain ⟨a, b, d⟩ := S.inn s hs
          refine ⟨a, ?_, d⟩
          simp only [List.map_cons, List.sum_cons]
          omega
        · obtain ⟨a, b, d⟩ := r1 s hs
          refine ⟨by omega, ?_, d⟩
          simp only [List.map_cons, List.sum_cons]
          omega
      · rw [List.flatMap_cons, List.map_append, List.pairwise_append]
        refine ⟨S.grow, r2, fun a ha b hb => ?_⟩
        obtain ⟨s, hs, rfl⟩ := List.mem_map.1 ha
        obtain ⟨s', hs', rfl⟩ := List.mem_map.1 hb
        have := (S.inn s hs).2.1
        have := (r1 s' hs').1
        omega
      · rw [List.flatMap_cons, List.length_append, List.map_cons, List.sum_cons, List.map_cons, List.sum_cons, S.sz, r3]
        omega
      · rw [List.map_cons, List.map_cons, S.er, r4]

theorem read_sites : ∀ (x : Tm) (takes : List Ty) (c : Nat) (y : Tm) (i : Ty), okTm x takes.length → (∀ u, u ∈ takes → goodY 4 u = true) → readS x takes c = some (y, i) → SitesOk (x.sz + 4) x y (c + 1) (c + x.sz) := by
  intro x
  induction x using Tm.ind with
  | h k n t f l ih =>
    intro takes c y i hok hT h
    obtain ⟨h0, h1⟩ := okTm_mk.1 hok
    obtain ⟨k1, k9, hl, _, ht, _, _⟩ := okTop_all h0
    obtain ⟨ps, us, e1, e2, e3, rfl⟩ := readS_some h
    have hlen := readL_length _ _ _ _ e1
    have hp : ∀ x, x ∈ l → ∀ c y i, readS x (takesIn k t takes) c = some (y, i) → goodY ((l.map Tm.sz).sum + 4) i = true ∧ SitesOk ((l.map Tm.sz).sum + 4) x y (c + 1) (c + x.sz) := by
      intro x hx c y i hr
      have hs := sz_mem l x hx
      have ho : okTm x (takesIn k t takes).length := by rw [takesIn_length]; exact h1 x hx
      have S := ih x hx _ c y i ho (takesIn_good ht hT) hr
      exact ⟨goodY_more _ _ _ (by omega) (read_good x _ c y i ho (takesIn_good ht hT) hr), fun s hsm => ⟨(S.inn s hsm).1, (S.inn s hsm).2.1, (S.inn s hsm).2.2.more (by omega)⟩, S.grow, S.sz, S.er⟩
    have hg : ∀ u, u ∈ ps.map (fun p => p.2.2) → goodY ((l.map Tm.sz).sum + 4) u = true := by
      intro u hu
      obtain ⟨j, hj, rfl⟩ := List.getElem_of_mem hu
      have hj' : j < ps.length := by simpa using hj
      have := readL_all (Q := fun _ _ _ i => goodY ((l.map Tm.sz).sum + 4) i = true) l _ ps e1 (fun x hx c y i hr => (hp x hx c y i hr).1) j hj' (by omega)
      simpa using this
    obtain ⟨r1, _, r3⟩ := rule_good ((l.map Tm.sz).sum + 4) (by omega) k1 k9 (by simpa using hlen.trans hl) ht (takesIn_good ht hT) hg e2
    have up : ∀ x, x ∈ l → ∀ c y i, readS x (takesIn k t takes) c = some (y, i) → goodY ((l.map Tm.sz).sum + 4 + 1) i = true ∧ SitesOk ((l.map Tm.sz).sum + 4 + 1) x y (c + 1) (c + x.sz) := by
      intro x hx c y i hr
      obtain ⟨g, S⟩ := hp x hx c y i hr
      exact ⟨goodY_more _ _ _ (by omega) g, fun s hsm => ⟨(S.inn s hsm).1, (S.inn s hsm).2.1, (S.inn s hsm).2.2.more (by omega)⟩, S.grow, S.sz, S.er⟩
    obtain ⟨s1, s2, s3, s4⟩ := castL_sites ((l.map Tm.sz).sum + 4 + 1) l (c + 1) ps us e1 (by simpa using r1) e3 r3 up
    have e : sitesM ⟨k, n, t, anyY, castL ps us⟩ = (castL ps us).flatMap sitesM := by rw [sitesM_mk, if_neg (by omega), List.nil_append]
    refine ⟨fun s hs => ?_, by rw [e]; exact s2, ?_, ?_⟩
    · rw [e] at hs
      obtain ⟨a, b, d⟩ := s1 s hs
      rw [Tm.sz_mk]
      exact ⟨a, by omega, d.more (by omega)⟩
    · rw [e, Tm.sz_mk, Tm.sz_mk, s3]
      omega
    · rw [eraseM_mk, eraseM_mk, s4]
end Go.Proofs.YtnddkmccagiclabGreatDoor
