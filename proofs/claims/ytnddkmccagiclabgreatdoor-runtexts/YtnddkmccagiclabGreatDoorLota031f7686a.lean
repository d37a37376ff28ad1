/-
  What the calls of run's Run and Text answer.
-/
import Derived.Test.YtnddkmccagiclabGreatDoorLot789dfea93b
import Derived.Test.YtnddkmccagiclabGreatDoorLot2c1b367ec8
import Derived.Test.YtnddkmccagiclabGreatDoorLoteba9d6d245
import Derived.Test.YtnddkmccagiclabGreatDoorLot1dd949ab90
import Derived.Test.YtnddkmccagiclabGreatDoorLotfef4768764
import Derived.Test.YtnddkmccagiclabGreatDoorLot4ae5b21284
import Derived.Shelf.Strings.SlTrimAscii
import Derived.Test.YtnddkmccagiclabGreatDoorLotffd82e37e5
import Derived.Laws.Runes
import Derived.Scope
import Derived.Deep.RegionHeld3
import Derived.Lib.IndexBytes
import Derived.Deep.LoopGhost
import Derived.Lib.IndexAny
import Derived.Laws.RangeAny
import Derived.Lib.SpaceUEq
import Derived.Lib.OthersKept
import Derived.Test.YtnddkmccagiclabGreatDoorLot2ebbd2cd4c
import Derived.Lib.Join
import Derived.Lib.AppendIntMem
namespace Go.Proofs.YtnddkmccagiclabGreatDoor
open Go.RowKit
/-- What Run makes of a term: the outcome, the error. -/
def runR (x : Tm) (f : Int) : Out × Int := if goodM 0 x = true then (match readS x [] 0 with
  | none => (out0, 2)
  | some p => if f < 0 ∨ 100 < f then (out0, 3) else (runM p.1 f.toNat, 0)) else (out0, 1)
/-- What such a call answers. -/
def OutPost (r : Out × Int) (w : World) (e : Ending) (w' : World) : Prop := e = .returned (.tuple #[.agg #[.int .i64 r.1.k, .int .i64 r.1.n, .bool r.1.b], .int .i64 r.2]) ∧ Below w.heap.size w w'
/-- outcome, at whatever number. -/
theorem outcome_all (y : TT) (f : Int) (w : World) (hy : y.In w) (sy : shp y.tm) (hz : y.tm.tsz ≤ 100) :
    Calls Tryz.prog 26 #[.agg #[.int .i64 y.k, .int .i64 y.n, .int .i64 y.t.k, .slice y.t.a y.t.l.length y.t.c, .int .i64 y.f.k, .slice y.f.a y.f.l.length y.f.c, .slice y.a y.l.length y.c], .int .i64 f] w (OutPost (if f < 0 ∨ 100 < f then (out0, 3) else (runM y.tm f.toNat, 0)) w) := by
  by_cases hf : f < 0 ∨ 100 < f
  · rw [if_pos hf]
    exact outcome_range y f hf w
  · rw [if_neg hf]
    have e : f = ((f.toNat : Nat) : Int) := by omega
    have := outcome_any y f.toNat (by omega) w hy sy hz
    rw [← e] at this
    exact this
set_option maxRecDepth 20000 in
set_option maxHeartbeats 8000000 in
/-- Run. -/
theorem runFn_any (x : TT) (f : Int) (w : World) (hg : Gp w) (hx : x.In w) (hnb : x.nb) :
    Calls Tryz.prog 11 #[.agg #[.int .i64 x.k, .int .i64 x.n, .int .i64 x.t.k, .slice x.t.a x.t.l.length x.t.c, .int .i64 x.f.k, .slice x.f.a x.f.l.length x.f.c, .slice x.a x.l.length x.c], .int .i64 f] w (OutPost (runR x.tm f) w) := by
  obtain ⟨W1, hW1⟩ : ∃ W, W = (w.alloc (.cells #[.int .i64 x.k, .int .i64 x.n, .int .i64 x.t.k, .slice x.t.a x.t.l.length x.t.c, .int .i64 x.f.k, .slice x.f.a x.f.l.length x.f.c, .slice x.a x.l.length x.c] 27)).alloc (.cells #[.int .i64 0, .int .i64 0, .bool false] 29) := ⟨_, rfl⟩
  have hb1 : Below w.heap.size w W1 := by rw [hW1]; exact ((Below.refl _ _).alloc (Nat.le_refl _) _).alloc (by simp) _
  have hs1 : W1.heap.size = w.heap.size + 1 + 1 := by rw [hW1]; simp
  have z0 : W1.cell? ⟨w.heap.size + 1, 0, none⟩ = some (.int .i64 0) := by rw [hW1]; simp [go_sem]
  have z1 : W1.cell? ⟨w.heap.size + 1, 1, none⟩ = some (.int .i64 0) := by rw [hW1]; simp [go_sem]
  have z2 : W1.cell? ⟨w.heap.size + 1, 2, none⟩ = some (.bool false) := by rw [hW1]; simp [go_sem]
  have zf : ∀ i, W1.frozen? ⟨w.heap.size + 1, i, none⟩ = false := by intro i; rw [hW1]; simp [go_sem]
  have HC : Hid (Calls Tryz.prog 25 #[.agg #[.int .i64 x.k, .int .i64 x.n, .int .i64 x.t.k, .slice x.t.a x.t.l.length x.t.c, .int .i64 x.f.k, .slice x.f.a x.f.l.length x.f.c, .slice x.a x.l.length x.c]] W1 (CkPost x W1)) := check_any x W1 (hg.below hb1) (hx.below hb1) hnb
  have HZ : Hid (∀ W, Below W1.heap.size W1 W → W.cell? ⟨w.heap.size + 1, 0, none⟩ = some (.int .i64 0) ∧ W.cell? ⟨w.heap.size + 1, 1, none⟩ = some (.int .i64 0) ∧ W.cell? ⟨w.heap.size + 1, 2, none⟩ = some (.bool false) ∧ W.frozen? ⟨w.heap.size + 1, 0, none⟩ = false ∧ W.frozen? ⟨w.heap.size + 1, 1, none⟩ = false ∧ W.frozen? ⟨w.heap.size + 1, 2, none⟩ = false ∧ w.heap.size + 1 < W.heap.size ∧ Below w.heap.size w W) := fun W hW =>
    ⟨cell_later hW z0, cell_later hW z1, cell_later hW z2, (hW.frozen (p := ⟨w.heap.size + 1, 0, none⟩) (by rw [hs1]; show w.heap.size + 1 < _; omega)).trans (zf 0), (hW.frozen (p := ⟨w.heap.size + 1, 1, none⟩) (by rw [hs1]; show w.heap.size + 1 < _; omega)).trans (zf 1), (hW.frozen (p := ⟨w.heap.size + 1, 2, none⟩) (by rw [hs1]; show w.heap.size + 1 < _; omega)).trans (zf 2), by have := hW.size; omega, hb1.trans (hW.mono hb1.size)⟩
  obtain ⟨R, hR⟩ : ∃ R, R = runR x.tm f := ⟨_, rfl⟩
  rw [← hR]
  have HR : Hid (R = runR x.tm f) := hR
  have HE : Hid (∀ (o : Out) (er : Int) (W : World), R = (o, er) → Below w.heap.size w W → OutPost R w (.returned (.tuple #[.agg #[.int .i64 o.k, .int .i64 o.n, .bool o.b], .int .i64 er])) (((W.setCell ⟨w.heap.size + 1, 0, none⟩ (.int .i64 o.k)).setCell ⟨w.heap.size + 1, 1, none⟩ (.int .i64 o.n)).setCell ⟨w.heap.size + 1, 2, none⟩ (.bool o.b))) := fun o er W h1 h2 => by
    rw [h1]
    exact ⟨rfl, ((h2.setCell (by simp) _).setCell (by simp) _).setCell (by simp) _⟩
  clear hR hb1 hs1 z0 z1 z2 zf hg hx hnb
  go_enter Tryz.func11, Tryz.ntmps11
  go_wp2_with fail
  rw [← hW1]
  clear hW1
  refine HC.out.mono ?_
  rintro e w2 ⟨hb2, ⟨hgd, rfl⟩ | ⟨hgd, hrd, rfl⟩ | ⟨hgd, y, i, hrd, rfl, hyi, hii, hi44⟩⟩
  · have HR1 : Hid (R = (out0, 1)) := by rw [HR.out]; unfold runR; rw [if_neg (by rw [hgd]; simp)]; rfl
    obtain ⟨W3, hW3⟩ : ∃ W3, W3 = (w2.alloc (.cells #[.int .i64 0, .int .i64 0, .int .i64 0, .slice none 0 0, .int .i64 0, .slice none 0 0, .slice none 0 0] 27)).alloc (.cells #[.int .i64 0, .slice none 0 0] 24) := ⟨_, rfl⟩
    have hA : Below W1.heap.size W1 W3 := hb2.trans ((show Below w2.heap.size w2 W3 by rw [hW3]; exact ((Below.refl _ _).alloc (Nat.le_refl _) _).alloc (by simp) _).mono hb2.size)
    obtain ⟨r0, r1, r2, f0, f1, f2, rl, hB⟩ := HZ.out W3 hA
    have HB : Hid (Below w.heap.size w W3) := hB
    clear hA hB hgd hb2 HC HZ
    go_upto_region 2 with fail
    rw [← hW3]
    clear hW3
    go_wp2_with fail
    obtain ⟨q0, q1, q2⟩ := set3_cells (u := .int .i64 0) (v := .int .i64 0) (z := .bool false) r0 r1 r2
    exact bodyPost_ret (v := .tuple #[.agg #[.int .i64 0, .int .i64 0, .bool false], .int .i64 1]) (by simp [results, Tryz.results11, go_sem, q0, q1, q2]) rfl (HE.out out0 1 W3 HR1.out HB.out)
  · have HR1 : Hid (R = (out0, 2)) := by rw [HR.out]; unfold runR; rw [if_pos hgd, hrd]; rfl
    obtain ⟨W3, hW3⟩ : ∃ W3, W3 = (w2.alloc (.cells #[.int .i64 0, .int .i64 0, .int .i64 0, .slice none 0 0, .int .i64 0, .slice none 0 0, .slice none 0 0] 27)).alloc (.cells #[.int .i64 0, .slice none 0 0] 24) := ⟨_, rfl⟩
    have hA : Below W1.heap.size W1 W3 := hb2.trans ((show Below w2.heap.size w2 W3 by rw [hW3]; exact ((Below.refl _ _).alloc (Nat.le_refl _) _).alloc (by simp) _).mono hb2.size)
    obtain ⟨r0, r1, r2, f0, f1, f2, rl, hB⟩ := HZ.out W3 hA
    have HB : Hid (Below w.heap.size w W3) := hB
    clear hA hB hgd hrd hb2 HC HZ
    go_upto_region 2 with fail
    rw [← hW3]
    clear hW3
    go_wp2_with fail
    obtain ⟨q0, q1, q2⟩ := set3_cells (u := .int .i64 0) (v := .int .i64 0) (z := .bool false) r0 r1 r2
    exact bodyPost_ret (v := .tuple #[.agg #[.int .i64 0, .int .i64 0, .bool false], .int .i64 2]) (by simp [results, Tryz.results11, go_sem, q0, q1, q2]) rfl (HE.out out0 2 W3 HR1.out HB.out)
  · obtain ⟨sy, zy, _⟩ := check_run hgd hrd
    obtain ⟨r, hr⟩ : ∃ r : Out × Int, r = (if f < 0 ∨ 100 < f then (out0, 3) else (runM y.tm f.toNat, 0)) := ⟨_, rfl⟩
    have HR1 : Hid (R = r) := by rw [HR.out, hr]; unfold runR; rw [if_pos hgd, hrd]; exact rfl
    obtain ⟨W3, hW3⟩ : ∃ W3, W3 = (w2.alloc (.cells #[.int .i64 y.k, .int .i64 y.n, .int .i64 y.t.k, .slice y.t.a y.t.l.length y.t.c, .int .i64 y.f.k, .slice y.f.a y.f.l.length y.f.c, .slice y.a y.l.length y.c] 27)).alloc (.cells #[.int .i64 i.k, .slice i.a i.l.length i.c] 24) := ⟨_, rfl⟩
    have hA2 : Below w2.heap.size w2 W3 := by rw [hW3]; exact ((Below.refl _ _).alloc (Nat.le_refl _) _).alloc (by simp) _
    have hA : Below W1.heap.size W1 W3 := hb2.trans (hA2.mono hb2.size)
    have p0 : W3.cell? ⟨w2.heap.size, 0, none⟩ = some (.int .i64 y.k) := by rw [hW3]; simp [go_sem]
    have p1 : W3.cell? ⟨w2.heap.size, 1, none⟩ = some (.int .i64 y.n) := by rw [hW3]; simp [go_sem]
    have p2 : W3.cell? ⟨w2.heap.size, 2, none⟩ = some (.int .i64 y.t.k) := by rw [hW3]; simp [go_sem]
    have p3 : W3.cell? ⟨w2.heap.size, 3, none⟩ = some (.slice y.t.a y.t.l.length y.t.c) := by rw [hW3]; simp [go_sem]
    have p4 : W3.cell? ⟨w2.heap.size, 4, none⟩ = some (.int .i64 y.f.k) := by rw [hW3]; simp [go_sem]
    have p5 : W3.cell? ⟨w2.heap.size, 5, none⟩ = some (.slice y.f.a y.f.l.length y.f.c) := by rw [hW3]; simp [go_sem]
    have p6 : W3.cell? ⟨w2.heap.size, 6, none⟩ = some (.slice y.a y.l.length y.c) := by rw [hW3]; simp [go_sem]
    have HO : Hid (Calls Tryz.prog 26 #[.agg #[.int .i64 y.k, .int .i64 y.n, .int .i64 y.t.k, .slice y.t.a y.t.l.length y.t.c, .int .i64 y.f.k, .slice y.f.a y.f.l.length y.f.c, .slice y.a y.l.length y.c], .int .i64 f] W3 fun e w' => e = .returned (.tuple #[.agg #[.int .i64 r.1.k, .int .i64 r.1.n, .bool r.1.b], .int .i64 r.2]) ∧ Below W1.heap.size W1 w') := by
      refine (outcome_all y f W3 (hyi.below hA2) sy zy).mono ?_
      rintro e w' ⟨he, hb⟩
      rw [hr]
      exact ⟨he, hA.trans (hb.mono hA.size)⟩
    have lw2 : w2.heap.size < W3.heap.size := World.block_lt_of_cell? _ _ p0
    clear hA hA2 hgd hrd hb2 HC hyi hii hi44 sy zy hr
    go_upto_region 2 with fail
    rw [← hW3]
    clear hW3
    go_wp2_with fail
    refine HO.out.mono ?_
    rintro e w4 ⟨rfl, hb4⟩
    obtain ⟨r0, r1, r2, f0, f1, f2, rl, hB⟩ := HZ.out w4 hb4
    have HB : Hid (Below w.heap.size w w4) := hB
    clear hb4 hB HZ p0 p1 p2 p3 p4 p5 p6
    go_wp2_with fail
    obtain ⟨q0, q1, q2⟩ := set3_cells (u := .int .i64 r.1.k) (v := .int .i64 r.1.n) (z := .bool r.1.b) r0 r1 r2
    exact bodyPost_ret (v := .tuple #[.agg #[.int .i64 r.1.k, .int .i64 r.1.n, .bool r.1.b], .int .i64 r.2]) (by simp [results, Tryz.results11, go_sem, q0, q1, q2]) rfl (HE.out r.1 r.2 w4 HR1.out HB.out)
/-- What Text makes of a text. -/
def textR (s : ByteArray) (f : Int) : Out × Int := if 1000 < s.size then (out0, 4) else (match parseS s.data.toList with
  | none => (out0, 1)
  | some x => runR x f)
set_option maxRecDepth 20000 in
set_option maxHeartbeats 8000000 in
/-- Text. -/
theorem textFn_any (s : ByteArray) (hm : s.size ≤ 9223372036854775807) (f : Int) (w : World) (hg : Gl w) : Calls Tryz.prog 17 #[.string s, .int .i64 f] w (OutPost (textR s f) w) := by
  obtain ⟨W1, hW1⟩ : ∃ W, W = w.alloc (.cells #[.int .i64 0, .int .i64 0, .bool false] 29) := ⟨_, rfl⟩
  have hb1 : Below w.heap.size w W1 := by rw [hW1]; exact (Below.refl _ _).alloc (Nat.le_refl _) _
  have hs1 : W1.heap.size = w.heap.size + 1 := by rw [hW1]; simp
  have z0 : W1.cell? ⟨w.heap.size, 0, none⟩ = some (.int .i64 0) := by rw [hW1]; simp [go_sem]
  have z1 : W1.cell? ⟨w.heap.size, 1, none⟩ = some (.int .i64 0) := by rw [hW1]; simp [go_sem]
  have z2 : W1.cell? ⟨w.heap.size, 2, none⟩ = some (.bool false) := by rw [hW1]; simp [go_sem]
  have zf : ∀ i, W1.frozen? ⟨w.heap.size, i, none⟩ = false := by intro i; rw [hW1]; simp [go_sem]
  have HC : Hid (Calls Tryz.prog 18 #[.string s] W1 (PsPost s W1)) := parse_any s hm W1 (hg.below hb1)
  have HZ : Hid (∀ W, Below W1.heap.size W1 W → W.cell? ⟨w.heap.size, 0, none⟩ = some (.int .i64 0) ∧ W.cell? ⟨w.heap.size, 1, none⟩ = some (.int .i64 0) ∧ W.cell? ⟨w.heap.size, 2, none⟩ = some (.bool false) ∧ W.frozen? ⟨w.heap.size, 0, none⟩ = false ∧ W.frozen? ⟨w.heap.size, 1, none⟩ = false ∧ W.frozen? ⟨w.heap.size, 2, none⟩ = false ∧ w.heap.size < W.heap.size ∧ Below w.heap.size w W ∧ Gl W) := fun W hW =>
    ⟨cell_later hW z0, cell_later hW z1, cell_later hW z2, (hW.frozen (p := ⟨w.heap.size, 0, none⟩) (by rw [hs1]; show w.heap.size < _; omega)).trans (zf 0), (hW.frozen (p := ⟨w.heap.size, 1, none⟩) (by rw [hs1]; show w.heap.size < _; omega)).trans (zf 1), (hW.frozen (p := ⟨w.heap.size, 2, none⟩) (by rw [hs1]; show w.heap.size < _; omega)).trans (zf 2), by have := hW.size; omega, hb1.trans (hW.mono hb1.size), hg.below (hb1.trans (hW.mono hb1.size))⟩
  obtain ⟨R, hR⟩ : ∃ R, R = textR s f := ⟨_, rfl⟩
  rw [← hR]
  have HR : Hid (R = textR s f) := hR
  have HE : Hid (∀ (o : Out) (er : Int) (W : World), R = (o, er) → Below w.heap.size w W → OutPost R w (.returned (.tuple #[.agg #[.int .i64 o.k, .int .i64 o.n, .bool o.b], .int .i64 er])) (((W.setCell ⟨w.heap.size, 0, none⟩ (.int .i64 o.k)).setCell ⟨w.heap.size, 1, none⟩ (.int .i64 o.n)).setCell ⟨w.heap.size, 2, none⟩ (.bool o.b))) := fun o er W h1 h2 => by
    rw [h1]
    exact ⟨rfl, ((h2.setCell (by simp) _).setCell (by simp) _).setCell (by simp) _⟩
  clear hR hb1 hs1 z0 z1 z2 zf hg hm
  go_enter Tryz.func17, Tryz.ntmps17
  go_wp2_with fail
  rw [← hW1]
  clear hW1
  refine HC.out.mono ?_
  rintro e w2 ⟨x, er, rfl, hxi, hnb, hb2, hcase⟩
  have hc2 : (er = 0 ∧ Hid (R = runR x.tm f)) ∨ ((er != 0) = true ∧ Hid (R = (out0, er))) := by
    rcases hcase with ⟨h1, rfl, _⟩ | ⟨h1, h2, rfl, _⟩ | ⟨h1, h2, rfl⟩
    · refine .inr ⟨rfl, ?_⟩
      rw [HR.out]; unfold textR; rw [if_pos h1]; exact rfl
    · refine .inr ⟨rfl, ?_⟩
      rw [HR.out]; unfold textR; rw [if_neg (by omega), h2]; exact rfl
    · refine .inl ⟨rfl, ?_⟩
      rw [HR.out]; unfold textR; rw [if_neg (by omega), h2]; exact rfl
  obtain ⟨W3, hW3⟩ : ∃ W3, W3 = w2.alloc (.cells #[.int .i64 x.k, .int .i64 x.n, .int .i64 x.t.k, .slice x.t.a x.t.l.length x.t.c, .int .i64 x.f.k, .slice x.f.a x.f.l.length x.f.c, .slice x.a x.l.length x.c] 27) := ⟨_, rfl⟩
  have hA2 : Below w2.heap.size w2 W3 := by rw [hW3]; exact (Below.refl _ _).alloc (Nat.le_refl _) _
  have hA : Below W1.heap.size W1 W3 := hb2.trans (hA2.mono hb2.size)
  have p0 : W3.cell? ⟨w2.heap.size, 0, none⟩ = some (.int .i64 x.k) := by rw [hW3]; simp [go_sem]
  have p1 : W3.cell? ⟨w2.heap.size, 1, none⟩ = some (.int .i64 x.n) := by rw [hW3]; simp [go_sem]
  have p2 : W3.cell? ⟨w2.heap.size, 2, none⟩ = some (.int .i64 x.t.k) := by rw [hW3]; simp [go_sem]
  have p3 : W3.cell? ⟨w2.heap.size, 3, none⟩ = some (.slice x.t.a x.t.l.length x.t.c) := by rw [hW3]; simp [go_sem]
  have p4 : W3.cell? ⟨w2.heap.size, 4, none⟩ = some (.int .i64 x.f.k) := by rw [hW3]; simp [go_sem]
  have p5 : W3.cell? ⟨w2.heap.size, 5, none⟩ = some (.slice x.f.a x.f.l.length x.f.c) := by rw [hW3]; simp [go_sem]
  have p6 : W3.cell? ⟨w2.heap.size, 6, none⟩ = some (.slice x.a x.l.length x.c) := by rw [hW3]; simp [go_sem]
  have lw2 : w2.heap.size < W3.heap.size := World.block_lt_of_cell? _ _ p0
  obtain ⟨r0, r1, r2, f0, f1, f2, rl, hB, hG3⟩ := HZ.out W3 hA
  have HO : Hid (Calls Tryz.prog 11 #[.agg #[.int .i64 x.k, .int .i64 x.n, .int .i64 x.t.k, .slice x.t.a x.t.l.length x.t.c, .int .i64 x.f.k, .slice x.f.a x.f.l.length x.f.c, .slice x.a x.l.length x.c], .int .i64 f] W3 fun e w' => e = .returned (.tuple #[.agg #[.int .i64 (runR x.tm f).1.k, .int .i64 (runR x.tm f).1.n, .bool (runR x.tm f).1.b], .int .i64 (runR x.tm f).2]) ∧ Below W1.heap.size W1 w') := by
    refine (runFn_any x f W3 hG3.gp (hxi.below hA2) hnb).mono ?_
    rintro e w' ⟨he, hb⟩
    exact ⟨he, hA.trans (hb.mono hA.size)⟩
  have HB : Hid (Below w.heap.size w W3) := hB
  clear hA hA2 hb2 HC hxi hnb hB hG3 hcase HR
  rcases hc2 with ⟨rfl, HR1⟩ | ⟨he, HR1⟩
  · obtain ⟨r, hr⟩ : ∃ r, r = runR x.tm f := ⟨_, rfl⟩
    rw [← hr] at HO HR1
    clear hr r0 r1 r2 f0 f1 f2 rl
    go_upto_region 2 with fail
    rw [← hW3]
    clear hW3
    go_wp2_with fail
    refine HO.out.mono ?_
    rintro e w4 ⟨rfl, hb4⟩
    obtain ⟨r0, r1, r2, f0, f1, f2, rl, hB, _⟩ := HZ.out w4 hb4
    have HB4 : Hid (Below w.heap.size w w4) := hB
    clear hb4 hB HZ p0 p1 p2 p3 p4 p5 p6
    go_wp2_with fail
    obtain ⟨q0, q1, q2⟩ := set3_cells (u := .int .i64 r.1.k) (v := .int .i64 r.1.n) (z := .bool r.1.b) r0 r1 r2
    exact bodyPost_ret (v := .tuple #[.agg #[.int .i64 r.1.k, .int .i64 r.1.n, .bool r.1.b], .int .i64 r.2]) (by simp [results, Tryz.results17, go_sem, q0, q1, q2]) rfl (HE.out r.1 r.2 w4 HR1.out HB4.out)
  · clear HO HZ p0 p1 p2 p3 p4 p5 p6
    go_upto_region 2 with fail
    rw [← hW3]
    clear hW3
    go_wp2_with fail
    obtain ⟨q0, q1, q2⟩ := set3_cells (u := .int .i64 0) (v := .int .i64 0) (z := .bool false) r0 r1 r2
    exact bodyPost_ret (v := .tuple #[.agg #[.int .i64 0, .int .i64 0, .bool false], .int .i64 er]) (by simp [results, Tryz.results17, go_sem, q0, q1, q2]) rfl (HE.out out0 er W3 HR1.out HB.out)
end Go.Proofs.YtnddkmccagiclabGreatDoor

/-
  What the call of ref's RunTerm answers: what Run does.
-/
namespace Go.Proofs.YtnddkmccagiclabGreatDoor
open Go.RowKit
set_option maxRecDepth 20000 in
set_option maxHeartbeats 8000000 in
/-- ref's RunTerm. -/
theorem lawRun_any (x : TT) (f : Int) (w : World) (hx : x.In w) (hsz : x.sz ≤ 2000000) (hok : x.ok 100000000) :
    Calls Tryz.prog 20 #[.agg #[.int .i64 x.k, .int .i64 x.n, .int .i64 x.t.k, .slice x.t.a x.t.l.length x.t.c, .int .i64 x.f.k, .slice x.f.a x.f.l.length x.f.c, .slice x.a x.l.length x.c], .int .i64 f] w (OutPost (runR x.tm f) w) := by
  obtain ⟨W1, hW1⟩ : ∃ W, W = (w.alloc (.cells #[.int .i64 x.k, .int .i64 x.n, .int .i64 x.t.k, .slice x.t.a x.t.l.length x.t.c, .int .i64 x.f.k, .slice x.f.a x.f.l.length x.f.c, .slice x.a x.l.length x.c] 27)).alloc (.cells #[.int .i64 0, .int .i64 0, .bool false] 29) := ⟨_, rfl⟩
  have hb1 : Below w.heap.size w W1 := by rw [hW1]; exact ((Below.refl _ _).alloc (Nat.le_refl _) _).alloc (by simp) _
  have hs1 : W1.heap.size = w.heap.size + 1 + 1 := by rw [hW1]; simp
  have z0 : W1.cell? ⟨w.heap.size + 1, 0, none⟩ = some (.int .i64 0) := by rw [hW1]; simp [go_sem]
  have z1 : W1.cell? ⟨w.heap.size + 1, 1, none⟩ = some (.int .i64 0) := by rw [hW1]; simp [go_sem]
  have z2 : W1.cell? ⟨w.heap.size + 1, 2, none⟩ = some (.bool false) := by rw [hW1]; simp [go_sem]
  have zf : ∀ i, W1.frozen? ⟨w.heap.size + 1, i, none⟩ = false := by intro i; rw [hW1]; simp [go_sem]
  have HC : Hid (Calls Tryz.prog 35 #[.agg #[.int .i64 x.k, .int .i64 x.n, .int .i64 x.t.k, .slice x.t.a x.t.l.length x.t.c, .int .i64 x.f.k, .slice x.f.a x.f.l.length x.f.c, .slice x.a x.l.length x.c]] W1 (CkPost x W1)) := checkTerm_any x W1 (hx.below hb1) hsz hok
  have HZ : Hid (∀ W, Below W1.heap.size W1 W → W.cell? ⟨w.heap.size + 1, 0, none⟩ = some (.int .i64 0) ∧ W.cell? ⟨w.heap.size + 1, 1, none⟩ = some (.int .i64 0) ∧ W.cell? ⟨w.heap.size + 1, 2, none⟩ = some (.bool false) ∧ W.frozen? ⟨w.heap.size + 1, 0, none⟩ = false ∧ W.frozen? ⟨w.heap.size + 1, 1, none⟩ = false ∧ W.frozen? ⟨w.heap.size + 1, 2, none⟩ = false ∧ w.heap.size + 1 < W.heap.size ∧ Below w.heap.size w W) := fun W hW =>
    ⟨cell_later hW z0, cell_later hW z1, cell_later hW z2, (hW.frozen (p := ⟨w.heap.size + 1, 0, none⟩) (by rw [hs1]; show w.heap.size + 1 < _; omega)).trans (zf 0), (hW.frozen (p := ⟨w.heap.size + 1, 1, none⟩) (by rw [hs1]; show w.heap.size + 1 < _; omega)).trans (zf 1), (hW.frozen (p := ⟨w.heap.size + 1, 2, none⟩) (by rw [hs1]; show w.heap.size + 1 < _; omega)).trans (zf 2), by have := hW.size; omega, hb1.trans (hW.mono hb1.size)⟩
  obtain ⟨R, hR⟩ : ∃ R, R = runR x.tm f := ⟨_, rfl⟩
  rw [← hR]
  have HR : Hid (R = runR x.tm f) := hR
  have HE : Hid (∀ (o : Out) (er : Int) (W : World), R = (o, er) → Below w.heap.size w W → OutPost R w (.returned (.tuple #[.agg #[.int .i64 o.k, .int .i64 o.n, .bool o.b], .int .i64 er])) (((W.setCell ⟨w.heap.size + 1, 0, none⟩ (.int .i64 o.k)).setCell ⟨w.heap.size + 1, 1, none⟩ (.int .i64 o.n)).setCell ⟨w.heap.size + 1, 2, none⟩ (.bool o.b))) := fun o er W h1 h2 => by
    rw [h1]
    exact ⟨rfl, ((h2.setCell (by simp) _).setCell (by simp) _).setCell (by simp) _⟩
  clear hR hb1 hs1 z0 z1 z2 zf hx hsz hok
  go_enter Tryz.func20, Tryz.ntmps20
  go_wp2_with fail
  rw [← hW1]
  clear hW1
  refine HC.out.mono ?_
  rintro e w2 ⟨hb2, ⟨hgd, rfl⟩ | ⟨hgd, hrd, rfl⟩ | ⟨hgd, y, i, hrd, rfl, hyi, hii, hi44⟩⟩
  · have HR1 : Hid (R = (out0, 1)) := by rw [HR.out]; unfold runR; rw [if_neg (by rw [hgd]; simp)]; rfl
    obtain ⟨W3, hW3⟩ : ∃ W3, W3 = (w2.alloc (.cells #[.int .i64 0, .int .i64 0, .int .i64 0, .slice none 0 0, .int .i64 0, .slice none 0 0, .slice none 0 0] 27)).alloc (.cells #[.int .i64 0, .slice none 0 0] 24) := ⟨_, rfl⟩
    have hA : Below W1.heap.size W1 W3 := hb2.trans ((show Below w2.heap.size w2 W3 by rw [hW3]; exact ((Below.refl _ _).alloc (Nat.le_refl _) _).alloc (by simp) _).mono hb2.size)
    obtain ⟨r0, r1, r2, f0, f1, f2, rl, hB⟩ := HZ.out W3 hA
    have HB : Hid (Below w.heap.size w W3) := hB
    clear hA hB hgd hb2 HC HZ
    go_upto_region 2 with fail
    rw [← hW3]
    clear hW3
    go_wp2_with fail
    obtain ⟨q0, q1, q2⟩ := set3_cells (u := .int .i64 0) (v := .int .i64 0) (z := .bool false) r0 r1 r2
    exact bodyPost_ret (v := .tuple #[.agg #[.int .i64 0, .int .i64 0, .bool false], .int .i64 1]) (by simp [results, Tryz.results20, go_sem, q0, q1, q2]) rfl (HE.out out0 1 W3 HR1.out HB.out)
  · have HR1 : Hid (R = (out0, 2)) := by rw [HR.out]; unfold runR; rw [if_pos hgd, hrd]; rfl
    obtain ⟨W3, hW3⟩ : ∃ W3, W3 = (w2.alloc (.cells #[.int .i64 0, .int .i64 0, .int .i64 0, .slice none 0 0, .int .i64 0, .slice none 0 0, .slice none 0 0] 27)).alloc (.cells #[.int .i64 0, .slice none 0 0] 24) := ⟨_, rfl⟩
    have hA : Below W1.heap.size W1 W3 := hb2.trans ((show Below w2.heap.size w2 W3 by rw [hW3]; exact ((Below.refl _ _).alloc (Nat.le_refl _) _).alloc (by simp) _).mono hb2.size)
    obtain ⟨r0, r1, r2, f0, f1, f2, rl, hB⟩ := HZ.out W3 hA
    have HB : Hid (Below w.heap.size w W3) := hB
    clear hA hB hgd hrd hb2 HC HZ
    go_upto_region 2 with fail
    rw [← hW3]
    clear hW3
    go_wp2_with fail
    obtain ⟨q0, q1, q2⟩ := set3_cells (u := .int .i64 0) (v := .int .i64 0) (z := .bool false) r0 r1 r2
    exact bodyPost_ret (v := .tuple #[.agg #[.int .i64 0, .int .i64 0, .bool false], .int .i64 2]) (by simp [results, Tryz.results20, go_sem, q0, q1, q2]) rfl (HE.out out0 2 W3 HR1.out HB.out)
  · obtain ⟨sy, zy, hty⟩ := check_run hgd hrd
    have HR1 : Hid (R = (if f < 0 ∨ 100 < f then (out0, 3) else (runM y.tm f.toNat, 0))) := by rw [HR.out]; unfold runR; rw [if_pos hgd, hrd]; exact rfl
    obtain ⟨W3, hW3⟩ : ∃ W3, W3 = (w2.alloc (.cells #[.int .i64 y.k, .int .i64 y.n, .int .i64 y.t.k, .slice y.t.a y.t.l.length y.t.c, .int .i64 y.f.k, .slice y.f.a y.f.l.length y.f.c, .slice y.a y.l.length y.c] 27)).alloc (.cells #[.int .i64 i.k, .slice i.a i.l.length i.c] 24) := ⟨_, rfl⟩
    have hA2 : Below w2.heap.size w2 W3 := by rw [hW3]; exact ((Below.refl _ _).alloc (Nat.le_refl _) _).alloc (by simp) _
    have hA : Below W1.heap.size W1 W3 := hb2.trans (hA2.mono hb2.size)
    have p0 : W3.cell? ⟨w2.heap.size, 0, none⟩ = some (.int .i64 y.k) := by rw [hW3]; simp [go_sem]
    have p1 : W3.cell? ⟨w2.heap.size, 1, none⟩ = some (.int .i64 y.n) := by rw [hW3]; simp [go_sem]
    have p2 : W3.cell? ⟨w2.heap.size, 2, none⟩ = some (.int .i64 y.t.k) := by rw [hW3]; simp [go_sem]
    have p3 : W3.cell? ⟨w2.heap.size, 3, none⟩ = some (.slice y.t.a y.t.l.length y.t.c) := by rw [hW3]; simp [go_sem]
    have p4 : W3.cell? ⟨w2.heap.size, 4, none⟩ = some (.int .i64 y.f.k) := by rw [hW3]; simp [go_sem]
    have p5 : W3.cell? ⟨w2.heap.size, 5, none⟩ = some (.slice y.f.a y.f.l.length y.f.c) := by rw [hW3]; simp [go_sem]
    have p6 : W3.cell? ⟨w2.heap.size, 6, none⟩ = some (.slice y.a y.l.length y.c) := by rw [hW3]; simp [go_sem]
    have lw2 : w2.heap.size < W3.heap.size := World.block_lt_of_cell? _ _ p0
    by_cases hf0 : f < 0
    · have HR2 : Hid (R = (out0, 3)) := by rw [HR1.out, if_pos (by omega)]; rfl
      obtain ⟨r0, r1, r2, f0, f1, f2, rl, hB⟩ := HZ.out W3 hA
      have HB : Hid (Below w.heap.size w W3) := hB
      clear hA hA2 hgd hrd hb2 HC hyi hii hi44 sy zy hty hB HZ HR1
      go_upto_region 2 with fail
      rw [← hW3]
      clear hW3
      go_wp2_with fail
      obtain ⟨q0, q1, q2⟩ := set3_cells (u := .int .i64 0) (v := .int .i64 0) (z := .bool false) r0 r1 r2
      exact bodyPost_ret (v := .tuple #[.agg #[.int .i64 0, .int .i64 0, .bool false], .int .i64 3]) (by simp [results, Tryz.results20, go_sem, q0, q1, q2]) rfl (HE.out out0 3 W3 HR2.out HB.out)
    by_cases hf1 : 100 < f
    · have HR2 : Hid (R = (out0, 3)) := by rw [HR1.out, if_pos (by omega)]; rfl
      obtain ⟨r0, r1, r2, f0, f1, f2, rl, hB⟩ := HZ.out W3 hA
      have HB : Hid (Below w.heap.size w W3) := hB
      clear hA hA2 hgd hrd hb2 HC hyi hii hi44 sy zy hty hB HZ HR1
      go_upto_region 2 with fail
      rw [← hW3]
      clear hW3
      go_wp2_with fail
      obtain ⟨q0, q1, q2⟩ := set3_cells (u := .int .i64 0) (v := .int .i64 0) (z := .bool false) r0 r1 r2
      exact bodyPost_ret (v := .tuple #[.agg #[.int .i64 0, .int .i64 0, .bool false], .int .i64 3]) (by simp [results, Tryz.results20, go_sem, q0, q1, q2]) rfl (HE.out out0 3 W3 HR2.out HB.out)
    · have HR2 : Hid (R = (runM y.tm f.toNat, 0)) := by rw [HR1.out, if_neg (by omega)]; rfl
      have HO : Hid (Calls Tryz.prog 36 #[.agg #[.int .i64 y.k, .int .i64 y.n, .int .i64 y.t.k, .slice y.t.a y.t.l.length y.t.c, .int .i64 y.f.k, .slice y.f.a y.f.l.length y.f.c, .slice y.a y.l.length y.c], .int .i64 f] W3 fun e w' => e = .returned (.agg #[.int .i64 (runM y.tm f.toNat).k, .int .i64 (runM y.tm f.toNat).n, .bool (runM y.tm f.toNat).b]) ∧ Below W1.heap.size W1 w') := by
        have e : ((f.toNat : Nat) : Int) = f := by omega
        have h1 := lawOut_any true y i.ty f.toNat W3 (by omega) (hyi.below hA2) ⟨sy, fun h => by cases h⟩ zy (fun _ => hty)
        rw [e] at h1
        refine h1.mono ?_
        rintro e w' ⟨he, hb⟩
        exact ⟨he, hA.trans (hb.mono hA.size)⟩
      obtain ⟨r, hr⟩ : ∃ r, r = runM y.tm f.toNat := ⟨_, rfl⟩
      rw [← hr] at HO HR2
      clear hA hA2 hgd hrd hb2 HC hyi hii hi44 sy zy hty hr HR1
      go_upto_region 2 with fail
      rw [← hW3]
      clear hW3
      go_wp2_with fail
      refine HO.out.mono ?_
      rintro e w4 ⟨rfl, hb4⟩
      obtain ⟨r0, r1, r2, f0, f1, f2, rl, hB⟩ := HZ.out w4 hb4
      have HB : Hid (Below w.heap.size w w4) := hB
      clear hb4 hB HZ p0 p1 p2 p3 p4 p5 p6
      go_wp2_with fail
      obtain ⟨q0, q1, q2⟩ := set3_cells (u := .int .i64 r.k) (v := .int .i64 r.n) (z := .bool r.b) r0 r1 r2
      exact bodyPost_ret (v := .tuple #[.agg #[.int .i64 r.k, .int .i64 r.n, .bool r.b], .int .i64 0]) (by simp [results, Tryz.results20, go_sem, q0, q1, q2]) rfl (HE.out r 0 w4 HR2.out HB.out)
end Go.Proofs.YtnddkmccagiclabGreatDoor

/-
  The document's own way to read a text: brackets first, into trees of words, then terms: it comes to what the words, read one behind the other, come to; the plain mathematics, no program in it.
-/
namespace Go.Proofs.YtnddkmccagiclabGreatDoor
/-- A tree of words: a word, or trees within brackets. -/
structure Tn where
  w : List UInt8
  l : List Tn
  o : Bool
theorem Tn.ind {P : Tn → Prop} (h : ∀ w l o, (∀ x, x ∈ l → P x) → P ⟨w, l, o⟩) : ∀ t, P t
  | ⟨w, l, o⟩ => h w l o fun x _ => Tn.ind h x
/-- Its words, one behind the other. -/
def Tn.flat : Tn → List (List UInt8)
  | ⟨w, l, o⟩ => if o = true then [40] :: ((l.map fun t => t.flat).flatten ++ [[41]]) else [w]
theorem Tn.flat_mk (w : List UInt8) (l : List Tn) (o : Bool) : (Tn.mk w l o).flat = if o = true then [40] :: ((l.map Tn.flat).flatten ++ [[41]]) else [w] := by
  rw [Tn.flat]
def flatL (l : List Tn) : List (List UInt8) := (l.map Tn.flat).flatten
theorem flatL_nil : flatL [] = [] := rfl
theorem flatL_cons (x : Tn) (l : List Tn) : flatL (x :: l) = x.flat ++ flatL l := rfl
theorem flat_open (w : List UInt8) (l : List Tn) : (Tn.mk w l true).flat = [40] :: (flatL l ++ [[41]]) := by
  rw [Tn.flat_mk, if_pos rfl]; rfl
theorem flat_word (w : List UInt8) (l : List Tn) : (Tn.mk w l false).flat = [w] := by
  rw [Tn.flat_mk, if_neg (by simp)]
theorem flat_pos (x : Tn) : 1 ≤ x.flat.length := by
  obtain ⟨w, l, o⟩ := x
  cases o
  · rw [flat_word]; simp
  · rw [flat_open]; simp
/-- Words are no brackets and not empty; words have no parts, brackets no word. -/
def Tn.nice : Tn → Prop
  | ⟨w, l, o⟩ => (o = true → w = []) ∧ (o = false → l = [] ∧ plainW w) ∧ ∀ x, x ∈ l → x.nice
theorem Tn.nice_mk {w : List UInt8} {l : List Tn} {o : Bool} : (Tn.mk w l o).nice ↔ (o = true → w = []) ∧ (o = false → l = [] ∧ plainW w) ∧ ∀ x, x ∈ l → x.nice := by
  rw [Tn.nice]
theorem nice_open {l : List Tn} : (Tn.mk [] l true).nice ↔ ∀ x, x ∈ l → x.nice := by
  rw [Tn.nice_mk]; exact ⟨fun h => h.2.2, fun h => ⟨fun _ => rfl, fun h => (by cases h), h⟩⟩
theorem nice_word {w : List UInt8} : (Tn.mk w [] false).nice ↔ plainW w := by
  rw [Tn.nice_mk]; exact ⟨fun h => (h.2.1 rfl).2, fun h => ⟨fun h => (by cases h), fun _ => ⟨rfl, h⟩, fun x h => by cases h⟩⟩
theorem nice_kind {x : Tn} (h : x.nice) : (∃ l, x = ⟨[], l, true⟩ ∧ ∀ y, y ∈ l → y.nice) ∨ ∃ w, x = ⟨w, [], false⟩ ∧ plainW w := by
  obtain ⟨w, l, o⟩ := x
  obtain ⟨h1, h2, h3⟩ := Tn.nice_mk.1 h
  cases o
  · obtain ⟨rfl, h'⟩ := h2 rfl
    exact .inr ⟨w, rfl, h'⟩
  · obtain rfl := h1 rfl
    exact .inl ⟨l, rfl, h3⟩
theorem plain_ne {w : List UInt8} (h : plainW w) : w ≠ [40] ∧ w ≠ [41] := by
  constructor
  · rintro rfl
    have := (h.2 40 (by simp)).2
    revert this; decide
  · rintro rfl
    have := (h.2 41 (by simp)).2
    revert this; decide
/-! ### Trees of words -/
/-- The trees of a row of words, up to its end, or within brackets up to their end. -/
def treesT : Nat → List (List UInt8) → Bool → Option (List Tn × List (List UInt8))
  | 0, _, _ => none
  | _ + 1, [], wi => if wi = true then none else some ([], [])
  | n + 1, x :: r, wi =>
    if x = [41] then (if wi = true then some ([], r) else none)
    else if x = [40] then (treesT n r true).bind fun p => (treesT n p.2 wi).map fun q => (⟨[], p.1, true⟩ :: q.1, q.2)
    else (treesT n r wi).map fun q => (⟨x, [], false⟩ :: q.1, q.2)
theorem treesT_more : ∀ (n m : Nat) (ws : List (List UInt8)) (wi : Bool) (q : List Tn × List (List UInt8)), n ≤ m → treesT n ws wi = some q → treesT m ws wi = some q
  | 0, _, _, _, _, _, h => by simp [treesT] at h
  | n + 1, 0, _, _, _, hm, _ => by omega
  | n + 1, m + 1, [], wi, q, hm, h => by simpa [treesT] using h
  | n + 1, m + 1, x :: r, wi, q, hm, h => by
    rw [treesT] at h ⊢
    by_cases h1 : x = [41]
    · rw [if_pos h1] at h ⊢; exact h
    · rw [if_neg h1] at h ⊢
      by_cases h2 : x = [40]
      · rw [if_pos h2] at h ⊢
        obtain ⟨p, hp, h⟩ := Option.bind_eq_some_iff.1 h
        obtain ⟨q', hq, rfl⟩ := Option.map_eq_some_iff.1 h
        rw [treesT_more n m r true p (by omega) hp, Option.bind_some, treesT_more n m p.2 wi q' (by omega) hq]
        rfl
      · rw [if_neg h2] at h ⊢
        obtain ⟨q', hq, rfl⟩ := Option.map_eq_some_iff.1 h
        rw [treesT_more n m r wi q' (by omega) hq]
        rfl
/-- Trees laid out are read as they were. -/
theorem treesT_flat : ∀ (N : Nat) (l : List Tn) (rest : List (List UInt8)) (wi : Bool) (m : Nat) (q : List Tn × List (List UInt8)), (flatL l).length ≤ N → (∀ x, x ∈ l → x.nice) → treesT m rest wi = some q → treesT ((flatL l).length + m) (flatL l ++ rest) wi = some (l ++ q.1, q.2)
  | _, [], rest, wi, m, q, _, _, h => by
    rw [flatL_nil]; simpa using h
  | 0, x :: l, rest, wi, m, q, hN, _, _ => by
    have := flat_pos x
    rw [flatL_cons, List.length_append] at hN
    omega
  | N + 1, x :: l, rest, wi, m, q, hN, hl, h => by
    rw [flatL_cons, List.length_append] at hN
    have hp := flat_pos x
    have h2 := treesT_flat N l rest wi m q (by omega) (fun y hy => hl y (List.mem_cons_of_mem _ hy)) h
    rcases nice_kind (hl x List.mem_cons_self) with ⟨l', rfl, hl'⟩ | ⟨w, rfl, hw⟩
    · rw [flatL_cons, flat_open]
      rw [flat_open] at hN
      simp only [List.length_cons, List.length_append, List.length_nil] at hN
      have h1 := treesT_flat N l' ([41] :: (flatL l ++ rest)) true 1 ([], flatL l ++ rest) (by omega) hl' (by simp [treesT])
      simp only [List.append_nil] at h1
      have e : ([40] :: (flatL l' ++ [[41]]) ++ flatL l ++ rest) = [40] :: (flatL l' ++ [41] :: (flatL l ++ rest)) := by simp
      rw [e]
      have hf : (([40] :: (flatL l' ++ [[41]])) ++ flatL l).length + m = ((flatL l').length + 1 + ((flatL l).length + m)) + 1 := by simp; omega
      rw [hf, treesT, if_neg (by simp), if_pos rfl]
      rw [treesT_more _ _ _ _ _ (by omega) h1, Option.bind_some, treesT_more _ _ _ _ _ (by omega) h2]
      rfl
    · rw [flatL_cons, flat_word]
      have hn := plain_ne hw
      have hf : (([w] : List (List UInt8)) ++ flatL l).length + m = ((flatL l).length + m) + 1 := by simp; omega
      rw [hf, List.append_assoc, List.singleton_append, treesT, if_neg hn.2, if_neg hn.1, h2]
      rfl
/-- What is read is laid out so. -/
theorem treesT_back : ∀ (n : Nat) (ws : List (List UInt8)) (wi : Bool) (l : List Tn) (rest : List (List UInt8)), (∀ x, x ∈ ws → x = [40] ∨ x = [41] ∨ plainW x) → treesT n ws wi = some (l, rest) → (∀ x, x ∈ l → x.nice) ∧ ws = flatL l ++ (if wi = true then [41] :: rest else []) ∧ (wi = false → rest = [])
  | 0, _, _, _, _, _, h => by simp [treesT] at h
  | n + 1, [], wi, l, rest, _, h => by
    cases wi
    · simp only [treesT, Bool.false_eq_true, if_false, Option.some.injEq, Prod.mk.injEq] at h
      obtain ⟨rfl, rfl⟩ := h
      exact ⟨(fun x h => by cases h), by simp [flatL], fun _ => rfl⟩
    · simp [treesT] at h
  | n + 1, x :: r, wi, l, rest, hws, h => by
    rw [treesT] at h
    by_cases h1 : x = [41]
    · rw [if_pos h1] at h
      cases wi
      · simp at h
      · simp only [if_true, Option.some.injEq, Prod.mk.injEq] at h
        obtain ⟨rfl, rfl⟩ := h
        exact ⟨(fun x h => by cases h), by simp [flatL, h1], fun h => by cases h⟩
    · rw [if_neg h1] at h
      have hr : ∀ y, y ∈ r → y = [40] ∨ y = [41] ∨ plainW y := fun y hy => hws y (List.mem_cons_of_mem _ hy)
      by_cases h2 : x = [40]
      · rw [if_pos h2] at h
        obtain ⟨p, hp, h⟩ := Option.bind_eq_some_iff.1 h
        obtain ⟨q, hq, he⟩ := Option.map_eq_some_iff.1 h
        obtain ⟨rfl, rfl⟩ := Prod.mk.inj he
        obtain ⟨a1, a2, _⟩ := treesT_back n r true p.1 p.2 hr hp
        rw [if_pos rfl] at a2
        have hp2 : ∀ y, y ∈ p.2 → y = [40] ∨ y = [41] ∨ plainW y := fun y hy => hr y (by rw [a2]; simp [hy])
        obtain ⟨b1, b2, b3⟩ := treesT_back n p.2 wi q.1 q.2 hp2 hq
        refine ⟨fun y hy => ?_, ?_, b3⟩
        · rcases List.mem_cons.1 hy with rfl | hy
          · exact nice_open.2 a1
          · exact b1 y hy
        · rw [flatL_cons, flat_open, h2, a2]
          rw [List.append_assoc, ← b2]
          simp
      · rw [if_neg h2] at h
        obtain ⟨q, hq, he⟩ := Option.map_eq_some_iff.1 h
        obtain ⟨rfl, rfl⟩ := Prod.mk.inj he
        obtain ⟨b1, b2, b3⟩ := treesT_back n r wi q.1 q.2 hr hq
        have hx : plainW x := by
          rcases hws x List.mem_cons_self with h | h | h
          · exact absurd h h2
          · exact absurd h h1
          · exact h
        refine ⟨fun y hy => ?_, ?_, b3⟩
        · rcases List.mem_cons.1 hy with rfl | hy
          · exact nice_word.2 hx
          · exact b1 y hy
        · rw [flatL_cons, flat_word, List.append_assoc, ← b2]
          rfl
/-! ### Of a text -/
def trimS : List UInt8 → List UInt8
  | [] => []
  | c :: r => if spB c = true then trimS r else c :: r
def midB (c : UInt8) : Bool := !(spB c || brB c)
def takeW (s : List UInt8) : List UInt8 := s.takeWhile midB
def dropW (s : List UInt8) : List UInt8 := s.dropWhile midB
/-- The trees of a text, and what is left. -/
def treesS : Nat → List UInt8 → Bool → Option (List Tn × List UInt8)
  | 0, _, _ => none
  | n + 1, s, wi =>
    match trimS s with
    | [] => if wi = true then none else some ([], [])
    | c :: r =>
      if c = 41 then (if wi = true then some ([], r) else none)
      else if c = 40 then (treesS n r true).bind fun p => (treesS n p.2 wi).map fun q => (⟨[], p.1, true⟩ :: q.1, q.2)
      else (treesS n (dropW (c :: r)) wi).map fun q => (⟨takeW (c :: r), [], false⟩ :: q.1, q.2)
theorem trim_tok : ∀ s, tokW [] (trimS s) = tokW [] s
  | [] => rfl
  | c :: r => by
    rw [trimS]
    by_cases h : spB c = true
    · rw [if_pos h, trim_tok r, tokW, if_pos h]; simp [flush]
    · rw [if_neg h]
theorem trim_head : ∀ (s : List UInt8) (c : UInt8) (r : List UInt8), trimS s = c :: r → spB c = false
  | [], c, r, h => by simp [trimS] at h
  | d :: s, c, r, h => by
    rw [trimS] at h
    by_cases hd : spB d = true
    · rw [if_pos hd] at h; exact trim_head s c r h
    · rw [if_neg hd] at h
      obtain ⟨rfl, rfl⟩ := List.cons.inj h
      simpa using hd
theorem trim_len : ∀ s, (trimS s).length ≤ s.length
  | [] => by simp [trimS]
  | c :: r => by
    rw [trimS]
    split
    · have := trim_len r; simp; omega
    · simp
theorem word_split (c : UInt8) (r : List UInt8) (h1 : spB c = false) (h2 : c ≠ 41) (h3 : c ≠ 40) : plainW (takeW (c :: r)) ∧ delim (dropW (c :: r)) ∧ takeW (c :: r) ++ dropW (c :: r) = c :: r ∧ (dropW (c :: r)).length ≤ r.length := by
  have hb : brB c = false := by simp [brB, h2, h3]
  have hm : midB c = true := by simp [midB, h1, hb]
  have e1 : takeW (c :: r) = c :: r.takeWhile midB := by simp [takeW, hm]
  have e2 : dropW (c :: r) = r.dropWhile midB := by simp [dropW, hm]
  refine ⟨⟨by rw [e1]; simp, fun d hd => ?_⟩, ?_, List.takeWhile_append_dropWhile, ?_⟩
  · have : midB d = true := List.all_eq_true.1 (List.all_takeWhile (p := midB) (l := c :: r)) d hd
    simpa [midB] using this
  · rw [e2]
    cases hd : r.dropWhile midB with
    | nil => exact .inl rfl
    | cons d s =>
      refine .inr ⟨d, s, rfl, ?_⟩
      have := List.head_dropWhile_not (p := midB) (l := r) (by rw [hd]; simp)
      simp only [hd, List.head_cons] at this
      simpa [midB, Classical.or_iff_not_imp_left] using this
  · rw [e2]
    exact (List.dropWhile_suffix (p := midB) (l := r)).length_le
theorem trees_tok : ∀ (n : Nat) (s : List UInt8) (wi : Bool), (treesS n s wi).map (fun p => (p.1, tokW [] p.2)) = treesT n (tokW [] s) wi
  | 0, _, _ => rfl
  | n + 1, s, wi => by
    rw [← trim_tok s, treesS]
    cases hs : trimS s with
    | nil =>
      cases wi
      · simp [treesT, tokW, flush]
      · simp [treesT, tokW, flush]
    | cons c r =>
      have hsp := trim_head s c r hs
      by_cases h1 : c = 41
      · subst h1
        simp only [if_true]
        rw [tok_close, treesT, if_pos rfl]
        cases wi <;> simp
      · by_cases h2 : c = 40
        · subst h2
          simp only [if_neg h1, if_true]
          rw [tok_open, treesT, if_neg (by decide), if_pos rfl, ← trees_tok n r true]
          cases treesS n r true with
          | none => rfl
          | some p =>
            simp only [Option.bind_some, Option.map_some]
            rw [← trees_tok n p.2 wi]
            cases treesS n p.2 wi <;> rfl
        · simp only [if_neg h1, if_neg h2]
          obtain ⟨a1, a2, a3, _⟩ := word_split c r hsp h1 h2
          have e : tokW [] (c :: r) = takeW (c :: r) :: tokW [] (dropW (c :: r)) := by
            conv => lhs; rw [← a3]
            exact tok_plain _ _ a1 a2
          rw [e, treesT, if_neg (plain_ne a1).2, if_neg (plain_ne a1).1, ← trees_tok n (dropW (c :: r)) wi]
          cases treesS n (dropW (c :: r)) wi <;> rfl
theorem tok_kinds : ∀ (s cur : List UInt8), (∀ c ∈ cur, spB c = false ∧ brB c = false) → ∀ x, x ∈ tokW cur s → x = [40] ∨ x = [41] ∨ plainW x := by
  have fl : ∀ cur : List UInt8, (∀ c ∈ cur, spB c = false ∧ brB c = false) → ∀ x, x ∈ flush cur → x = [40] ∨ x = [41] ∨ plainW x := by
    intro cur hc x hx
    rw [flush] at hx
    split at hx
    · cases hx
    · obtain rfl : x = cur := by simpa using hx
      exact .inr (.inr ⟨by assumption, hc⟩)
  intro s
  induction s with
  | nil => intro cur hc x hx; exact fl cur hc x hx
  | cons c r ih =>
    intro cur hc x hx
    rw [tokW] at hx
    split at hx
    · rcases List.mem_append.1 hx with h | h
      · exact fl cur hc x h
      · exact ih [] (fun _ h => by cases h) x h
    · rename_i hs
      split at hx
      · rename_i hb
        rcases List.mem_append.1 hx with h | h
        · rcases List.mem_append.1 h with h | h
          · exact fl cur hc x h
          · obtain rfl : x = [c] := by simpa using h
            simp only [brB, Bool.or_eq_true, beq_iff_eq] at hb
            rcases hb with rfl | rfl
            · exact .inl rfl
            · exact .inr (.inl rfl)
        · exact ih [] (fun _ h => by cases h) x h
      · rename_i hb
        refine ih (cur ++ [c]) (fun d hd => ?_) x hx
        rcases List.mem_append.1 hd with h | h
        · exact hc d h
        · obtain rfl : d = c := by simpa using h
          exact ⟨by simpa using hs, by simpa using hb⟩
/-- What is left is less. -/
theorem trees_less : ∀ (n : Nat) (s : List UInt8) (wi : Bool) (p : List Tn × List UInt8), treesS n s wi = some p → p.2.length ≤ s.length ∧ (wi = true → p.2.length + 1 ≤ s.length)
  | 0, _, _, _, h => by simp [treesS] at h
  | n + 1, s, wi, p, h => by
    rw [treesS] at h
    have hl := trim_len s
    cases hs : trimS s with
    | nil =>
      rw [hs] at h
      cases wi
      · simp only [Bool.false_eq_true, if_false, Option.some.injEq] at h
        subst h
        simp
      · simp at h
    | cons c r =>
      rw [hs] at h hl
      simp only [List.length_cons] at hl
      by_cases h1 : c = 41
      · simp only [if_pos h1] at h
        cases wi
        · simp at h
        · simp only [if_true, Option.some.injEq] at h
          subst h
          simp; omega
      · simp only [if_neg h1] at h
        by_cases h2 : c = 40
        · rw [if_pos h2] at h
          obtain ⟨p1, hp1, h⟩ := Option.bind_eq_some_iff.1 h
          obtain ⟨q, hq, rfl⟩ := Option.map_eq_some_iff.1 h
          have a := trees_less n r true p1 hp1
          have b := trees_less n p1.2 wi q hq
          have := a.2 rfl
          refine ⟨by show q.2.length ≤ _; omega, fun hw => ?_⟩
          have := b.2 hw
          show q.2.length + 1 ≤ _
          omega
        · rw [if_neg h2] at h
          obtain ⟨q, hq, rfl⟩ := Option.map_eq_some_iff.1 h
          have b := trees_less n _ wi q hq
          obtain ⟨_, _, _, a⟩ := word_split c r (trim_head s c r hs) h1 h2
          refine ⟨by show q.2.length ≤ _; omega, fun hw => ?_⟩
          have := b.2 hw
          show q.2.length + 1 ≤ _
          omega
/-- More steps than bytes are enough. -/
theorem trees_more : ∀ (n m : Nat) (s : List UInt8) (wi : Bool), s.length < n → s.length < m → treesS n s wi = treesS m s wi
  | 0, _, s, _, h, _ => by omega
  | n + 1, 0, s, _, _, h => by omega
  | n + 1, m + 1, s, wi, hn, hm => by
    rw [treesS, treesS]
    have hl := trim_len s
    cases hs : trimS s with
    | nil => rfl
    | cons c r =>
      rw [hs] at hl
      simp only [List.length_cons] at hl
      by_cases h1 : c = 41
      · simp only [if_pos h1]
      · simp only [if_neg h1]
        by_cases h2 : c = 40
        · simp only [if_pos h2]
          rw [trees_more n m r true (by omega) (by omega)]
          cases hp : treesS m r true with
          | none => rfl
          | some p =>
            have := (trees_less m r true p hp).1
            simp only [Option.bind_some]
            rw [trees_more n m p.2 wi (by omega) (by omega)]
        · simp only [if_neg h2]
          obtain ⟨_, _, _, a⟩ := word_split c r (trim_head s c r hs) h1 h2
          rw [trees_more n m _ wi (by omega) (by omega)]
end Go.Proofs.YtnddkmccagiclabGreatDoor

/-
  Trees of words as they lie in memory (ref's type 'tree{word string; l []tree; open bool}'), and rows of them that a call owns.
-/
namespace Go.Proofs.YtnddkmccagiclabGreatDoor
open Go.RowKit
/-- Its word, where its parts lie, their row's capacity, its parts, whether it has brackets. -/
structure Nd where
  w : ByteArray
  a : Option Addr
  c : Nat
  l : List Nd
  o : Bool
theorem Nd.ind {P : Nd → Prop} (h : ∀ w a c l o, (∀ x, x ∈ l → P x) → P ⟨w, a, c, l, o⟩) : ∀ t, P t
  | ⟨w, a, c, l, o⟩ => h w a c l o fun x _ => Nd.ind h x
def Nd.tn : Nd → Tn
  | ⟨w, _, _, l, o⟩ => ⟨w.data.toList, l.map fun x => x.tn, o⟩
theorem Nd.tn_mk (w : ByteArray) (a : Option Addr) (c : Nat) (l : List Nd) (o : Bool) : (Nd.mk w a c l o).tn = ⟨w.data.toList, l.map Nd.tn, o⟩ := by
  rw [Nd.tn]
theorem Nd.tn_w (x : Nd) : x.tn.w = x.w.data.toList := by cases x; rw [Nd.tn_mk]
theorem Nd.tn_l (x : Nd) : x.tn.l = x.l.map Nd.tn := by cases x; rw [Nd.tn_mk]
theorem Nd.tn_o (x : Nd) : x.tn.o = x.o := by cases x; rw [Nd.tn_mk]
def Nd.sl (x : Nd) : Value := .slice x.a x.l.length x.c
/-- Its parts lie in the world, each in three cells. -/
def Nd.In (W : World) : Nd → Prop
  | ⟨_, a, c, l, _⟩ => l.length ≤ c ∧ (∀ j (h : j < l.length), ∃ b f, a = some ⟨b, f, none⟩ ∧ W.cell? ⟨b, f + j * 3, none⟩ = some (.string l[j].w) ∧ W.cell? ⟨b, f + j * 3 + 1, none⟩ = some l[j].sl ∧ W.cell? ⟨b, f + j * 3 + 2, none⟩ = some (.bool l[j].o)) ∧ ∀ t, t ∈ l → t.In W
theorem Nd.In_mk {W : World} {w : ByteArray} {a : Option Addr} {c : Nat} {l : List Nd} {o : Bool} : (Nd.mk w a c l o).In W ↔ l.length ≤ c ∧ (∀ j (h : j < l.length), ∃ b f, a = some ⟨b, f, none⟩ ∧ W.cell? ⟨b, f + j * 3, none⟩ = some (.string l[j].w) ∧ W.cell? ⟨b, f + j * 3 + 1, none⟩ = some l[j].sl ∧ W.cell? ⟨b, f + j * 3 + 2, none⟩ = some (.bool l[j].o)) ∧ ∀ t, t ∈ l → t.In W := by
  rw [Nd.In]
theorem Nd.In_nil (W : World) (w : ByteArray) (a : Option Addr) (c : Nat) (o : Bool) : (Nd.mk w a c [] o).In W :=
  Nd.In_mk.2 ⟨Nat.zero_le _, fun j h => absurd h (by simp), fun t h => absurd h (by simp)⟩
/-- Part j: where it lies, what its cells hold, and that it lies there whole. -/
theorem Nd.In.part {W : World} {t : Nd} (h : t.In W) (j : Nat) (hj : j < t.l.length) : ∃ b f, t.a = some ⟨b, f, none⟩ ∧ W.cell? ⟨b, f + j * 3, none⟩ = some (.string t.l[j].w) ∧ W.cell? ⟨b, f + j * 3 + 1, none⟩ = some (.slice t.l[j].a t.l[j].l.length t.l[j].c) ∧ W.cell? ⟨b, f + j * 3 + 2, none⟩ = some (.bool t.l[j].o) ∧ t.l[j].In W := by
  obtain ⟨w, a, c, l, o⟩ := t
  obtain ⟨hn, hc, hi⟩ := Nd.In_mk.1 h
  obtain ⟨b, f, e, c0, c1, c2⟩ := hc j hj
  exact ⟨b, f, e, c0, c1, c2, hi _ (List.getElem_mem hj)⟩
theorem Nd.In.mem {W : World} {t y : Nd} (h : t.In W) (hy : y ∈ t.l) : y.In W := by
  obtain ⟨w, a, c, l, o⟩ := t
  exact (Nd.In_mk.1 h).2.2 y hy
theorem Nd.In.cap {W : World} {t : Nd} (h : t.In W) : t.l.length ≤ t.c := by
  obtain ⟨w, a, c, l, o⟩ := t
  exact (Nd.In_mk.1 h).1
theorem Nd.In.below {W V : World} (hb : Below W.heap.size W V) {t : Nd} : t.In W → t.In V := by
  induction t using Nd.ind with
  | h w a c l o ih =>
    intro h
    obtain ⟨hn, hc, hi⟩ := Nd.In_mk.1 h
    refine Nd.In_mk.2 ⟨hn, fun j hj => ?_, fun t ht => ih t ht (hi t ht)⟩
    obtain ⟨b, f, e, c0, c1, c2⟩ := hc j hj
    exact ⟨b, f, e, cell_later hb c0, cell_later hb c1, cell_later hb c2⟩
/-- The blocks in which its parts lie are of this kind. -/
def Nd.Bl (P : Nat → Prop) : Nd → Prop
  | ⟨_, a, _, l, _⟩ => (l ≠ [] → ∀ x, a = some x → P x.block) ∧ ∀ t, t ∈ l → t.Bl P
theorem Nd.Bl_mk {P : Nat → Prop} {w : ByteArray} {a : Option Addr} {c : Nat} {l : List Nd} {o : Bool} : (Nd.mk w a c l o).Bl P ↔ (l ≠ [] → ∀ x, a = some x → P x.block) ∧ ∀ t, t ∈ l → t.Bl P := by
  rw [Nd.Bl]
theorem Nd.Bl_nil (P : Nat → Prop) (w : ByteArray) (a : Option Addr) (c : Nat) (o : Bool) : (Nd.mk w a c [] o).Bl P :=
  Nd.Bl_mk.2 ⟨fun h => absurd rfl h, fun t h => absurd h (by simp)⟩
theorem Nd.Bl.mono {P Q : Nat → Prop} (hPQ : ∀ b, P b → Q b) {t : Nd} : t.Bl P → t.Bl Q := by
  induction t using Nd.ind with
  | h w a c l o ih =>
    intro h
    obtain ⟨h1, h2⟩ := Nd.Bl_mk.1 h
    exact Nd.Bl_mk.2 ⟨fun hl x hx => hPQ _ (h1 hl x hx), fun t ht => ih t ht (h2 t ht)⟩
theorem Nd.Bl.and {P Q : Nat → Prop} {t : Nd} : t.Bl P → t.Bl Q → t.Bl (fun b => P b ∧ Q b) := by
  induction t using Nd.ind with
  | h w a c l o ih =>
    intro h g
    obtain ⟨h1, h2⟩ := Nd.Bl_mk.1 h
    obtain ⟨g1, g2⟩ := Nd.Bl_mk.1 g
    exact Nd.Bl_mk.2 ⟨fun hl x hx => ⟨h1 hl x hx, g1 hl x hx⟩, fun t ht => ih t ht (h2 t ht) (g2 t ht)⟩
theorem Nd.In.bl {W : World} {t : Nd} : t.In W → t.Bl (· < W.heap.size) := by
  induction t using Nd.ind with
  | h w a c l o ih =>
    intro h
    obtain ⟨hn, hc, hi⟩ := Nd.In_mk.1 h
    refine Nd.Bl_mk.2 ⟨fun hl x hx => ?_, fun t ht => ih t ht (hi t ht)⟩
    obtain ⟨b, f, e, c0, _⟩ := hc 0 (List.length_pos_iff.2 hl)
    rw [e] at hx
    have := Option.some.inj hx
    subst this
    exact World.block_lt_of_cell? _ _ c0
/-- What lies in blocks that read as they did lies there still. -/
theorem Nd.In.congr {W V : World} {P : Nat → Prop} (hP : ∀ b, P b → ∀ o, V.cell? ⟨b, o, none⟩ = W.cell? ⟨b, o, none⟩) {t : Nd} : t.Bl P → t.In W → t.In V := by
  induction t using Nd.ind with
  | h w a c l o ih =>
    intro hb h
    obtain ⟨hn, hc, hi⟩ := Nd.In_mk.1 h
    obtain ⟨b1, b2⟩ := Nd.Bl_mk.1 hb
    refine Nd.In_mk.2 ⟨hn, fun j hj => ?_, fun t ht => ih t ht (b2 t ht) (hi t ht)⟩
    obtain ⟨b, f, e, c0, c1, c2⟩ := hc j hj
    have hx : P b := b1 (fun e => by rw [e] at hj; simp at hj) _ e
    exact ⟨b, f, e, by rw [hP b hx]; exact c0, by rw [hP b hx]; exact c1, by rw [hP b hx]; exact c2⟩
/-- The cells of a list of trees. -/
def cells3N : List Nd → List Value
  | [] => []
  | t :: r => .string t.w :: .slice t.a t.l.length t.c :: .bool t.o :: cells3N r
theorem cells3N_append : ∀ l r : List Nd, cells3N (l ++ r) = cells3N l ++ cells3N r
  | [], r => rfl
  | t :: l, r => by simp only [List.cons_append, cells3N, cells3N_append l r]
theorem cells3N_at : ∀ (l : List Nd) (j : Nat) (h : j < l.length), (cells3N l)[j * 3]? = some (.string l[j].w) ∧ (cells3N l)[j * 3 + 1]? = some l[j].sl ∧ (cells3N l)[j * 3 + 2]? = some (.bool l[j].o)
  | [], j, h => by simp at h
  | t :: r, 0, _ => by simp [cells3N, Nd.sl]
  | t :: r, j + 1, h => by
    have ih := cells3N_at r j (by simpa using h)
    have e : (j + 1) * 3 = j * 3 + 1 + 1 + 1 := by omega
    rw [e]
    simpa [cells3N] using ih
/-- A row of trees that lies in blocks of its own, behind all that lay in W. -/
structure NL (W : World) (v : Value) (ts : List Nd) (wr : World) : Prop where
  own : wr.ownsRow W.heap.size 111 3 v ts.length (cells3N ts)
  ins : ∀ t, t ∈ ts → t.In wr ∧ t.Bl (fun b => W.heap.size ≤ b ∧ some b ≠ v.ownBlock)
  low : Below W.heap.size W wr
theorem NL.start (W : World) : NL W (.slice none 0 0) [] W :=
  ⟨World.ownsRow_nil _ _ _ _, fun t h => (by cases h), Below.refl _ _⟩
theorem NL.below {W wr w2 : World} {v : Value} {ts : List Nd} (h : NL W v ts wr) (hb : Below wr.heap.size wr w2) : NL W v ts w2 :=
  ⟨ownsRow_below h.own hb, fun t ht => ⟨(h.ins t ht).1.below hb, (h.ins t ht).2⟩, h.low.trans (hb.mono h.low.size)⟩
/-- One more. -/
theorem NL.step {W wr w2 w3 : World} {v : Value} {ts : List Nd} {t : Nd} {gg cap1 : Nat} (h : NL W v ts wr) (hb : Below wr.heap.size wr w2) (hin : t.In w2) (hbl : t.Bl (fun b => W.heap.size ≤ b ∧ some b ≠ v.ownBlock))
    (hown : w3.ownsRow W.heap.size 111 3 (.slice (some ⟨gg, 0, none⟩) (ts.length + 1) cap1) (ts.length + 1) (cells3N ts ++ [.string t.w, .slice t.a t.l.length t.c, .bool t.o])) (hgrow : w2.grownBy w3 v.ownBlock) (hat : v.ownBlock = some gg ∨ w2.heap.size ≤ gg) :
    NL W (.slice (some ⟨gg, 0, none⟩) (ts.length + 1) cap1) (ts ++ [t]) w3 := by
  have s2 := hb.size
  have s3 := hgrow.size
  have hov : ∀ k, v.ownBlock = some k → W.heap.size ≤ k ∧ k < wr.heap.size := h.own.lt
  have hold : ∀ k i, k < w2.heap.size → some k ≠ v.ownBlock → w3.cell? ⟨k, i, none⟩ = w2.cell? ⟨k, i, none⟩ := fun k i hk hn =>
    World.cell?_of_block (a := ⟨k, i, none⟩) (hgrow.block k hk hn)
  have hne : ∀ b, b < w2.heap.size → some b ≠ v.ownBlock → some b ≠ (Value.slice (some ⟨gg, 0, none⟩) (ts.length + 1) cap1).ownBlock := fun b hb hn => by
    show some b ≠ some gg
    rcases hat with e | e
    · rw [← e]; exact hn
    · simp only [ne_eq, Option.some.injEq]; omega
  have keep : ∀ d : Nd, d.In w2 → d.Bl (fun b => W.heap.size ≤ b ∧ some b ≠ v.ownBlock) → d.In w3 ∧ d.Bl (fun b => W.heap.size ≤ b ∧ some b ≠ (Value.slice (some ⟨gg, 0, none⟩) (ts.length + 1) cap1).ownBlock) := fun d h1 h2 => by
    have i3 := h1.bl.and h2
    exact ⟨h1.congr (P := fun b => b < w2.heap.size ∧ W.heap.size ≤ b ∧ some b ≠ v.ownBlock) (fun b hb i => hold b i hb.1 hb.2.2) i3, i3.mono fun b hb => ⟨hb.2.1, hne b hb.1 hb.2.2⟩⟩
  refine ⟨?_, ?_, ?_⟩
  · rw [cells3N_append, List.length_append, List.length_singleton]
    exact hown
  · intro d hd
    rcases List.mem_append.1 hd with hd | hd
    · exact keep d ((h.ins d hd).1.below hb) (h.ins d hd).2
    · rcases List.mem_singleton.1 hd with rfl
      exact keep d hin hbl
  · have hb3 : Below W.heap.size w2 w3 := ⟨hgrow.os, hgrow.tape, hgrow.output, hgrow.size, fun k hk => hgrow.block k (by have := h.low.size; omega) (fun e => by have := (hov k e.symm).1; omega)⟩
    exact (h.low.trans (hb.mono h.low.size)).trans hb3
/-- The row as a tree's parts. -/
theorem NL.tree {W wr : World} {v : Value} {ts : List Nd} (h : NL W v ts wr) : ∃ a c, v = .slice a ts.length c ∧ ∀ w o, (Nd.mk w a c ts o).In wr ∧ (Nd.mk w a c ts o).Bl (W.heap.size ≤ ·) := by
  rcases h.own.2 with ⟨rfl, h0⟩ | ⟨g, cap, cur, rfl, hg, hgg, hcap, _⟩
  · have : ts = [] := List.length_eq_zero_iff.1 h0
    subst this
    exact ⟨none, 0, rfl, fun w o => ⟨Nd.In_nil _ _ _ _ _, Nd.Bl_nil _ _ _ _ _⟩⟩
  · refine ⟨_, _, rfl, fun w o => ⟨Nd.In_mk.2 ⟨hcap, fun j hj => ⟨g, 0, rfl, ?_, ?_, ?_⟩, fun t ht => (h.ins t ht).1⟩, Nd.Bl_mk.2 ⟨fun _ x hx => (by cases hx; exact hg), fun t ht => (h.ins t ht).2.mono fun b hb => hb.1⟩⟩⟩
    · rw [Nat.zero_add, h.own.cellAt (j * 3) (by omega), (cells3N_at ts j hj).1]
    · rw [Nat.zero_add, h.own.cellAt (j * 3 + 1) (by omega), (cells3N_at ts j hj).2.1]
    · rw [Nat.zero_add, h.own.cellAt (j * 3 + 2) (by omega), (cells3N_at ts j hj).2.2]
/-! ### The trees of a text, step by step -/
/-- The trees of a text. -/
def TR (s : List UInt8) (wi : Bool) : Option (List Tn × List UInt8) := treesS (s.length + 1) s wi
theorem TR_of (n : Nat) (s : List UInt8) (wi : Bool) (h : s.length < n) : treesS n s wi = TR s wi := trees_more _ _ _ _ h (by omega)
theorem TR_end (s : List UInt8) (wi : Bool) (h : trimS s = []) : TR s wi = if wi = true then none else some ([], []) := by
  rw [TR, treesS, h]
theorem TR_close (s r : List UInt8) (wi : Bool) (h : trimS s = 41 :: r) : TR s wi = if wi = true then some ([], r) else none := by
  rw [TR, treesS, h]
  simp
theorem TR_open (s r : List UInt8) (wi : Bool) (h : trimS s = 40 :: r) : TR s wi = (TR r true).bind fun p => (TR p.2 wi).map fun q => (⟨[], p.1, true⟩ :: q.1, q.2) := by
  have hl := trim_len s
  rw [h, List.length_cons] at hl
  rw [TR, treesS, h]
  simp only [show ¬ (40 : UInt8) = 41 by decide, if_false, if_true]
  rw [TR_of _ r true (by omega)]
  cases hp : TR r true with
  | none => rfl
  | some p =>
    have := (trees_less _ _ _ _ hp).1
    simp only [Option.bind_some]
    rw [TR_of _ p.2 wi (by omega)]
theorem TR_word (s r : List UInt8) (c : UInt8) (wi : Bool) (h : trimS s = c :: r) (h1 : c ≠ 41) (h2 : c ≠ 40) : TR s wi = (TR (dropW (c :: r)) wi).map fun q => (⟨takeW (c :: r), [], false⟩ :: q.1, q.2) := by
  have hl := trim_len s
  rw [h, List.length_cons] at hl
  obtain ⟨_, _, _, a⟩ := word_split c r (trim_head s c r h) h1 h2
  rw [TR, treesS, h]
  simp only [if_neg h1, if_neg h2]
  rw [TR_of _ (dropW (c :: r)) wi (by omega)]
theorem TR_less {s : List UInt8} {wi : Bool} {p : List Tn × List UInt8} (h : TR s wi = some p) : p.2.length ≤ s.length ∧ (wi = true → p.2.length + 1 ≤ s.length) := trees_less _ _ _ _ h
/-- What a call of trees leaves. -/
def TsOut (o : Option (List Tn × List UInt8)) (ts : List Nd) (r : ByteArray) (ok : Bool) : Prop :=
  (o = none ∧ ok = false) ∨ ∃ p, o = some p ∧ ok = true ∧ ts.map Nd.tn = p.1 ∧ r.data.toList = p.2
def TsPost (s : ByteArray) (wi : Bool) (w : World) (e : Ending) (w' : World) : Prop :=
  ∃ (a : Option Addr) (c : Nat) (ts : List Nd) (r : ByteArray) (ok : Bool), e = .returned (.tuple #[.slice a ts.length c, .string r, .bool ok]) ∧ Hid ((∀ wd o, (Nd.mk wd a c ts o).In w' ∧ (Nd.mk wd a c ts o).Bl (w.heap.size ≤ ·)) ∧ Below w.heap.size w w' ∧ TsOut (TR s.data.toList wi) ts r ok)
/-- While trees are read: the row of those that are, what is left of the text. -/
structure TI (s : ByteArray) (wi : Bool) (w : World) (s' : ByteArray) (v : Value) (ts : List Nd) (wr : World) : Prop where
  row : NL w v ts wr
  len : ts.length + s'.size ≤ s.size
  tr : TR s.data.toList wi = (TR s'.data.toList wi).map fun p => (ts.map Nd.tn ++ p.1, p.2)
end Go.Proofs.YtnddkmccagiclabGreatDoor

/-
  What the calls of strings.TrimLeft and strings.Trim answer at this seat: the shelf's contracts, laid by hand.
-/
namespace Go.Proofs
open Go.Shelf
def Tryz.lays161_ren : Go.Shelf.Ren := ⟨fun | 161 => 100 | 231 => 135 | 227 => 136 | 233 => 137 | 235 => 138 | 228 => 141 | 197 => 123 | 151 => 172 | 260 => 165 | 152 => 139 | 137 => 173 | 119 => 174 | 224 => 175 | 225 => 176 | 217 => 189 | 266 => 202 | n => n, fun | 9 => 9 | 4 => 4 | 3 => 3 | 5 => 5 | 117 => 188 | 116 => 187 | 0 => 0 | 124 => 191 | 105 => 178 | 21 => 21 | 119 => 194 | 46 => 218 | 139 => 232 | 138 => 231 | n => n, fun | 3 => 7 | 4 => 8 | n => n⟩
theorem Tryz.lays161 : Go.Proofs.Lays.n161 Tryz.prog Tryz.lays161_ren := {
  mixed := by kernel_rfl
  f119 := Tryz.func174.trans (congrArg some (by kernel_rfl))
  f137 := Tryz.func173.trans (congrArg some (by kernel_rfl))
  f151 := Tryz.func172.trans (congrArg some (by kernel_rfl))
  f152 := Tryz.func139.trans (congrArg some (by kernel_rfl))
  f161 := Tryz.func100.trans (congrArg some (by kernel_rfl))
  f197 := Tryz.func123.trans (congrArg some (by kernel_rfl))
  f217 := Tryz.func189.trans (congrArg some (by kernel_rfl))
  f224 := Tryz.func175.trans (congrArg some (by kernel_rfl))
  f225 := Tryz.func176.trans (congrArg some (by kernel_rfl))
  f227 := Tryz.func136.trans (congrArg some (by kernel_rfl))
  f228 := Tryz.func141.trans (congrArg some (by kernel_rfl))
  f231 := Tryz.func135.trans (congrArg some (by kernel_rfl))
  f233 := Tryz.func137.trans (congrArg some (by kernel_rfl))
  f235 := Tryz.func138.trans (congrArg some (by kernel_rfl))
  f260 := Tryz.func165.trans (congrArg some (by kernel_rfl))
  f266 := Tryz.func202.trans (congrArg some (by kernel_rfl))
  t0 := Tryz.underlying0
  a0 := Tryz.isAgg0
  z0 := Tryz.sizeOf0
  v0 := Tryz.zeroValue0
  t3 := Tryz.underlying3
  a3 := Tryz.isAgg3
  z3 := Tryz.sizeOf3
  v3 := Tryz.zeroValue3
  t4 := Tryz.underlying4
  a4 := Tryz.isAgg4
  z4 := Tryz.sizeOf4
  v4 := Tryz.zeroValue4
  t5 := Tryz.underlying5
  a5 := Tryz.isAgg5
  z5 := Tryz.sizeOf5
  v5 := Tryz.zeroValue5
  t9 := Tryz.underlying9
  a9 := Tryz.isAgg9
  z9 := Tryz.sizeOf9
  v9 := Tryz.zeroValue9
  t21 := Tryz.underlying21
  a21 := Tryz.isAgg21
  z21 := Tryz.sizeOf21
  v21 := Tryz.zeroValue21
  t46 := Tryz.underlying218
  a46 := Tryz.isAgg218
  z46 := Tryz.sizeOf218
  v46 := Tryz.zeroValue218
  t105 := Tryz.underlying178
  a105 := Tryz.isAgg178
  z105 := Tryz.sizeOf178
  v105 := Tryz.zeroValue178
  t116 := Tryz.underlying187
  a116 := Tryz.isAgg187
  z116 := Tryz.sizeOf187
  t117 := Tryz.underlying188
  a117 := Tryz.isAgg188
  z117 := Tryz.sizeOf188
  v117 := Tryz.zeroValue188
  t119 := Tryz.underlying194
  a119 := Tryz.isAgg194
  z119 := Tryz.sizeOf194
  t124 := Tryz.underlying191
  a124 := Tryz.isAgg191
  z124 := Tryz.sizeOf191
  v124 := Tryz.zeroValue191
  t138 := Tryz.underlying231
  a138 := Tryz.isAgg231
  z138 := Tryz.sizeOf231
  v138 := Tryz.zeroValue231
  t139 := Tryz.underlying232
  a139 := Tryz.isAgg232
  z139 := Tryz.sizeOf232
  v139 := Tryz.zeroValue232
  g3 := by kernel_rfl
  g4 := by kernel_rfl }
def Tryz.lays160_ren : Go.Shelf.Ren := ⟨fun | 160 => 143 | 232 => 178 | 231 => 135 | 227 => 136 | 234 => 179 | 233 => 137 | 236 => 180 | 235 => 138 | 228 => 141 | 271 => 198 | 151 => 172 | 197 => 123 | 120 => 211 | 152 => 139 | 260 => 165 | 137 => 173 | 119 => 174 | 224 => 175 | 225 => 176 | 217 => 189 | 266 => 202 | n => n, fun | 9 => 9 | 4 => 4 | 3 => 3 | 5 => 5 | 117 => 188 | 116 => 187 | 0 => 0 | 124 => 191 | 21 => 21 | 105 => 178 | 46 => 218 | 119 => 194 | 139 => 232 | 138 => 231 | n => n, fun | 3 => 7 | 4 => 8 | n => n⟩
theorem Tryz.lays160 : Go.Proofs.Lays.n160 Tryz.prog Tryz.lays160_ren := {
  mixed := by kernel_rfl
  f119 := Tryz.func174.trans (congrArg some (by kernel_rfl))
  f120 := Tryz.func211.trans (congrArg some (by kernel_rfl))
  f137 := Tryz.func173.trans (congrArg some (by kernel_rfl))
  f151 := Tryz.func172.trans (congrArg some (by kernel_rfl))
  f152 := Tryz.func139.trans (congrArg some (by kernel_rfl))
  f160 := Tryz.func143.trans (congrArg some (by kernel_rfl))
  f197 := Tryz.func123.trans (congrArg some (by kernel_rfl))
  f217 := Tryz.func189.trans (congrArg some (by kernel_rfl))
  f224 := Tryz.func175.trans (congrArg some (by kernel_rfl))
  f225 := Tryz.func176.trans (congrArg some (by kernel_rfl))
  f227 := Tryz.func136.trans (congrArg some (by kernel_rfl))
  f228 := Tryz.func141.trans (congrArg some (by kernel_rfl))
  f231 := Tryz.func135.trans (congrArg some (by kernel_rfl))
  f232 := Tryz.func178.trans (congrArg some (by kernel_rfl))
  f233 := Tryz.func137.trans (congrArg some (by kernel_rfl))
  f234 := Tryz.func179.trans (congrArg some (by kernel_rfl))
  f235 := Tryz.func138.trans (congrArg some (by kernel_rfl))
  f236 := Tryz.func180.trans (congrArg some (by kernel_rfl))
  f260 := Tryz.func165.trans (congrArg some (by kernel_rfl))
  f266 := Tryz.func202.trans (congrArg some (by kernel_rfl))
  f271 := Tryz.func198.trans (congrArg some (by kernel_rfl))
  t0 := Tryz.underlying0
  a0 := Tryz.isAgg0
  z0 := Tryz.sizeOf0
  v0 := Tryz.zeroValue0
  t3 := Tryz.underlying3
  a3 := Tryz.isAgg3
  z3 := Tryz.sizeOf3
  v3 := Tryz.zeroValue3
  t4 := Tryz.underlying4
  a4 := Tryz.isAgg4
  z4 := Tryz.sizeOf4
  v4 := Tryz.zeroValue4
  t5 := Tryz.underlying5
  a5 := Tryz.isAgg5
  z5 := Tryz.sizeOf5
  v5 := Tryz.zeroValue5
  t9 := Tryz.underlying9
  a9 := Tryz.isAgg9
  z9 := Tryz.sizeOf9
  v9 := Tryz.zeroValue9
  t21 := Tryz.underlying21
  a21 := Tryz.isAgg21
  z21 := Tryz.sizeOf21
  v21 := Tryz.zeroValue21
  t46 := Tryz.underlying218
  a46 := Tryz.isAgg218
  z46 := Tryz.sizeOf218
  v46 := Tryz.zeroValue218
  t105 := Tryz.underlying178
  a105 := Tryz.isAgg178
  z105 := Tryz.sizeOf178
  v105 := Tryz.zeroValue178
  t116 := Tryz.underlying187
  a116 := Tryz.isAgg187
  z116 := Tryz.sizeOf187
  t117 := Tryz.underlying188
  a117 := Tryz.isAgg188
  z117 := Tryz.sizeOf188
  v117 := Tryz.zeroValue188
  t119 := Tryz.underlying194
  a119 := Tryz.isAgg194
  z119 := Tryz.sizeOf194
  t124 := Tryz.underlying191
  a124 := Tryz.isAgg191
  z124 := Tryz.sizeOf191
  v124 := Tryz.zeroValue191
  t138 := Tryz.underlying231
  a138 := Tryz.isAgg231
  z138 := Tryz.sizeOf231
  v138 := Tryz.zeroValue231
  t139 := Tryz.underlying232
  a139 := Tryz.isAgg232
  z139 := Tryz.sizeOf232
  v139 := Tryz.zeroValue232
  g3 := by kernel_rfl
  g4 := by kernel_rfl }
end Go.Proofs
namespace Go.Proofs.YtnddkmccagiclabGreatDoor
open Go.RowKit
theorem trimLeft_eq : ∀ l : List UInt8, Lib.trimLeftS l [32, 10] = trimS l
  | [] => rfl
  | c :: r => by
    have ih := trimLeft_eq r
    have e : ([32, 10] : List UInt8).contains c = spB c := by
      simp only [List.contains_cons, List.contains_nil, Bool.or_false, spB]
    rw [Lib.trimLeftS, List.dropWhile_cons]
    rw [Lib.trimLeftS] at ih
    rw [trimS, e]
    split
    · exact ih
    · rfl
/-- strings.TrimLeft(s, " \n"). -/
theorem trimLeft_any (s : ByteArray) (w : World) : Calls Tryz.prog 100 #[.string s, .string ⟨#[32, 10]⟩] w fun e w' => e = .returned (.string (bw (trimS s.data.toList))) ∧ Below w.heap.size w w' := by
  refine (Any.strings_TrimLeft_laid Tryz.lays161 (by kernel_rfl) s ⟨#[32, 10]⟩ w (by decide) (ascii_of_all (by decide))).mono ?_
  rintro e w' ⟨rfl, hb⟩
  exact ⟨by show Ending.returned (.string ⟨(Lib.trimLeftS s.data.toList [32, 10]).toArray⟩) = _; rw [trimLeft_eq]; rfl, hb⟩
theorem dropW_nil {α : Type} (p : α → Bool) : ∀ l : List α, l.dropWhile p = [] ↔ ∀ x, x ∈ l → p x = true
  | [] => ⟨(fun _ x h => by cases h), fun _ => rfl⟩
  | a :: l => by
    rw [List.dropWhile_cons]
    have ih := dropW_nil p l
    by_cases h : p a = true
    · rw [if_pos h, ih]
      exact ⟨fun H x hx => by
        rcases List.mem_cons.1 hx with rfl | hx
        · exact h
        · exact H x hx, fun H x hx => H x (List.mem_cons_of_mem _ hx)⟩
    · rw [if_neg h]
      exact ⟨(fun e => by cases e), fun H => absurd (H a List.mem_cons_self) h⟩
theorem trim_nil (l cs : List UInt8) : Lib.trimS l cs = [] ↔ ∀ c, c ∈ l → cs.contains c = true := by
  rw [Lib.trimS, Lib.trimLeftS, dropW_nil]
  constructor
  · intro h c hc
    by_cases hm : c ∈ Lib.trimRightS l cs
    · exact h c hm
    · rw [Lib.trimRightS] at hm
      have hs : l.reverse.takeWhile (cs.contains ·) ++ l.reverse.dropWhile (cs.contains ·) = l.reverse := List.takeWhile_append_dropWhile
      have : c ∈ l.reverse.takeWhile (cs.contains ·) ++ l.reverse.dropWhile (cs.contains ·) := by rw [hs]; exact List.mem_reverse.2 hc
      rcases List.mem_append.1 this with h' | h'
      · exact List.all_eq_true.1 (List.all_takeWhile (p := (cs.contains ·)) (l := l.reverse)) c h'
      · exact absurd (List.mem_reverse.2 h') hm
  · intro h c hc
    rw [Lib.trimRightS] at hc
    exact h c (List.mem_reverse.1 ((List.dropWhile_suffix _).subset (List.mem_reverse.1 hc)))
def digW : List UInt8 := [48, 49, 50, 51, 52, 53, 54, 55, 56, 57]
/-- strings.Trim(s, "0123456789"): nothing is left where all are digits. -/
theorem trimDigits_any (s : ByteArray) (w : World) (hs : s.size ≤ 1000000) : Calls Tryz.prog 143 #[.string s, .string ⟨#[48, 49, 50, 51, 52, 53, 54, 55, 56, 57]⟩] w fun e w' => ∃ t : ByteArray, e = .returned (.string t) ∧ (t = ⟨#[]⟩ ↔ ∀ c, c ∈ s.data.toList → digW.contains c = true) ∧ Below w.heap.size w w' := by
  refine (Any.strings_Trim_laid Tryz.lays160 (by kernel_rfl) s ⟨#[48, 49, 50, 51, 52, 53, 54, 55, 56, 57]⟩ w (by omega) (by decide) (ascii_of_all (by decide))).mono ?_
  rintro e w' ⟨rfl, hb⟩
  refine ⟨_, rfl, ?_, hb⟩
  rw [← trim_nil s.data.toList digW]
  constructor
  · intro h
    have := congrArg (fun x : ByteArray => x.data.toList) h
    show Lib.trimS s.data.toList [48, 49, 50, 51, 52, 53, 54, 55, 56, 57] = []
    simpa using this
  · intro h
    show (⟨(Lib.trimS s.data.toList digW).toArray⟩ : ByteArray) = _
    rw [h]
end Go.Proofs.YtnddkmccagiclabGreatDoor

/-
  What the call of strings.IndexAny answers for brackets and spaces, whatever the text: the shelf lacks short texts that are not ASCII.
-/
namespace Go.Proofs.YtnddkmccagiclabGreatDoor
open Go.RowKit
def delB : ByteArray := ⟨#[32, 10, 40, 41]⟩
theorem delB_at (i : Nat) (h : i < delB.size) : (delB[i]'h).toNat < 128 := by
  have h4 : i < 4 := h
  match i, h4 with
  | 0, _ => show (32 : UInt8).toNat < 128; decide
  | 1, _ => show (10 : UInt8).toNat < 128; decide
  | 2, _ => show (40 : UInt8).toNat < 128; decide
  | 3, _ => show (41 : UInt8).toNat < 128; decide
theorem indexByte_none : ∀ (l : List UInt8) (c : UInt8), (∀ b, b ∈ l → b ≠ c) → Lib.indexByte l c = -1
  | [], _, _ => rfl
  | b :: l, c, h => by
    rw [Lib.indexByte, if_neg (by simpa using h b List.mem_cons_self), if_pos]
    rw [indexByte_none l c fun x hx => h x (List.mem_cons_of_mem _ hx)]
    rfl
set_option maxHeartbeats 4000000 in
set_option maxRecDepth 100000 in
/-- A rune that is none: not among them. -/
theorem indexRune_bad (w : World) : Calls Tryz.prog 139 #[.string delB, .int .i32 65533] w fun e w' => e = .returned (.int .i64 (-1)) ∧ Below w.heap.size w w' := by
  have hbelow : ∀ i, Below w.heap.size w (w.iter delB i) := fun i => by
    unfold World.iter
    exact (Below.refl _ _).alloc (Nat.le_refl _) _
  obtain ⟨D, hD⟩ : ∃ D, delB = D := ⟨_, rfl⟩
  have HS : Hid (D.size = 4 ∧ ∀ i (h : i < D.size), (D[i]'h).toNat < 128) := by
    subst hD
    exact ⟨rfl, delB_at⟩
  rw [hD] at hbelow ⊢
  clear hD
  go_enter Tryz.func139, Tryz.ntmps139
  go_wp2_with fail
  go_loopg [] 4 (fun g wr => ∃ i : Nat, i + g = 4 ∧ wr = w.iter D i)
  case atStart => exact ⟨0, rfl, rfl⟩
  case round =>
    obtain ⟨i, hig, rfl⟩ := hrel
    cases gk with
    | zero =>
      have hi : ¬ i < D.size := by rw [HS.out.1]; omega
      have hnx := fun ty => run_next_end (P := Tryz.prog) w D i ty hi
      go_wp2_with fail
      go_ret
      exact ⟨rfl, hbelow _⟩
    | succ g =>
      have hi : i < D.size := by rw [HS.out.1]; omega
      obtain ⟨x, hx⟩ : ∃ x : UInt8, D[i]'hi = x := ⟨_, rfl⟩
      have hx128 : x.toNat < 128 := by rw [← hx]; exact HS.out.2 i hi
      have hnx := fun ty => run_next_ascii (P := Tryz.prog) w D i ty hi (by rw [hx]; exact hx128)
      rw [hx] at hnx
      have hne : ((x.toNat : Int) == 65533) = false := by simp; omega
      clear hx
      go_wp2_with fail
      go_roundg g
      case measure => omega
      case rel => exact ⟨i + 1, by omega, rfl⟩
set_option maxHeartbeats 4000000 in
set_option maxRecDepth 100000 in
/-- A rune of more than one byte: not among them. -/
theorem indexRune_big (r : Int) (w : World) (h128 : 128 ≤ r) (hne : r ≠ 65533) (hv : Utf8.valid r = true) : Calls Tryz.prog 139 #[.string delB, .int .i32 r] w fun e w' => e = .returned (.int .i64 (-1)) ∧ Below w.heap.size w w' := by
  obtain ⟨h2, h4, hb⟩ := encode_facts r hv h128
  obtain ⟨E, hE⟩ : ∃ E, Utf8.encode r = E := ⟨_, rfl⟩
  rw [hE] at h2 h4 hb
  obtain ⟨n, hn⟩ : ∃ n, E.size = n + 1 := ⟨E.size - 1, by omega⟩
  have hnE : n < E.size := by omega
  obtain ⟨y, hy⟩ : ∃ y : UInt8, E[n]'hnE = y := ⟨_, rfl⟩
  have hy128 : 128 ≤ y.toNat := by
    have := hb (by omega)
    rw [← hy]
    simpa [hn] using this
  obtain ⟨D, hD⟩ : ∃ D, delB = D := ⟨_, rfl⟩
  have HD : Hid (delB = D) := hD
  have hD4 : D.size = 4 := by rw [← hD]; rfl
  have hnD : n < D.size := by omega
  obtain ⟨x, hx⟩ : ∃ x : UInt8, D[n]'hnD = x := ⟨_, rfl⟩
  have hx128 : x.toNat < 128 := by subst hD; rw [← hx]; exact delB_at n hnD
  have hvr : Lib.validRune r = true := by
    simp only [Utf8.valid, Bool.or_eq_true, Bool.and_eq_true, decide_eq_true_eq] at hv
    simp only [Lib.validRune, decide_eq_true_eq]
    omega
  have hr1 : decide (r < 128) = false := decide_eq_false (by omega)
  have hr2 : (r == 65533) = false := by simpa using hne
  have hr0 : decide (0 ≤ r) = true := decide_eq_true (by omega)
  rw [hD]
  clear hD hb hv hne
  go_enter Tryz.func139, Tryz.ntmps139
  go_wp2_with fail
  refine (Tryz.utf8_ValidRune r _).mono ?_
  rintro e w' ⟨rfl, hw⟩
  rw [hw, hvr]
  clear hw w'
  go_wp2_with fail
  refine wp_scope_straight ?_
  have hnz : ((E.size : Nat) : Int) - 1 = (n : Int) := by omega
  go_wp2_with fail
  go_loopg [9] 1 (fun g i wr => g = 1 ∧ i = .int .i64 (n : Int) ∧ wr = w)
  case atStart => exact ⟨rfl, rfl, rfl⟩
  case round =>
    obtain ⟨rfl, rfl, rfl⟩ := hrel
    have hn4 : (n : Int) < 4 := by omega
    have hxy : ((x.toNat : Int) != (y.toNat : Int)) = true := by simp; omega
    have hn0 : ¬ ((n : Int) < 0) := by omega
    have hn1 : (n : Int) < (n : Int) + 1 := by omega
    have hib : ∀ a, Lib.indexByte (D.extract a D.size).data.toList ((y.toNat : Int)).toNat.toUInt8 = -1 := fun a => by
      refine indexByte_none _ _ fun c hc e => ?_
      have hm : c ∈ D.data.toList := by
        rw [Lib.extract_to_end] at hc
        exact List.mem_of_mem_drop hc
      rw [← HD.out] at hm
      have : c.toNat < 128 := by
        have : c ∈ [(32 : UInt8), 10, 40, 41] := hm
        simp only [List.mem_cons, List.not_mem_nil, or_false] at this
        rcases this with rfl | rfl | rfl | rfl <;> decide
      rw [e] at this
      simp at this
      omega
    have hsl : ∀ w, (Instr.slice 9 (.string D) (some (.int .i64 ((n : Int) + 1))) none none).run Tryz.prog w = .ok (.string (D.extract (n + 1) D.size)) w := fun w => by
      rw [run_slice_string_from_if w 9 D .i64 ((n : Int) + 1) Tryz.underlying9, if_pos ⟨by omega, by omega⟩]
      rfl
    obtain ⟨T, hT⟩ : ∃ T, D.extract (n + 1) D.size = T := ⟨_, rfl⟩
    have hib' : Lib.indexByte T.data.toList ((y.toNat : Int)).toNat.toUInt8 = -1 := by rw [← hT]; exact hib _
    rw [hT] at hsl
    clear hib hT
    have hwr : IntKind.i64.wrap ((n : Int) + 1) = (n : Int) + 1 := Go.wrap_small _ (by omega) (by omega)
    have hn2 : (n : Int) + 1 ≤ 4 := by omega
    have hn3 : (0 : Int) ≤ (n : Int) + 1 := by omega
    go_wp2_with fail
    refine wp_scope_straight ?_
    go_wp2_with fail
    go_region_held3 (fun w' => Below wr.heap.size wr w') (first | exact (Below.refl _ _).drew | go_keep) (fail)
    all_goals go_wp2_with fail
    all_goals (go_region_held3 (fun w' => Below wr.heap.size wr w') (first | exact (Below.refl _ _).drew.drew | go_keep) (first | (go_at_call 173; refine (Tryz.strings_IndexByte _ _ _).mono ?_; rintro e w' ⟨rfl, hw⟩; rw [hw, hib'])))
    all_goals go_wp2_with fail
    all_goals (simp only [Exit.noGoto, Exit.then, Exit.inBlock])
    all_goals (go_ret; exact ⟨rfl, by assumption⟩)
end Go.Proofs.YtnddkmccagiclabGreatDoor

/-
  What the call of strings.IndexAny answers for brackets and spaces, whatever the text.
-/
namespace Go.Proofs.YtnddkmccagiclabGreatDoor
open Go.RowKit
/-- One step of the range over a text: an ASCII byte, or a rune of bytes that are none. -/
theorem rune_step (s : ByteArray) (i : Nat) (h : i < s.size) :
    ((s.data.toList.getD i 0).toNat < 128 ∧ Utf8.decode s i = ((s.data.toList.getD i 0).toNat, 1)) ∨
    (128 ≤ (Utf8.decode s i).1 ∧ Utf8.valid ((Utf8.decode s i).1 : Int) = true ∧ 1 ≤ (Utf8.decode s i).2 ∧ i + (Utf8.decode s i).2 ≤ s.size ∧ ∀ j, j < (Utf8.decode s i).2 → 128 ≤ (s.data.toList.getD (i + j) 0).toNat) := by
  have hl : s.data.toList.length = s.size := Array.length_toList
  have hd := Lib.decode_N s i
  generalize hR : Utf8.decode s i = D at hd
  have hsh := Lib.decodeN_shape (s.data.toList.length - i) (s.data.toList.getD i 0).toNat (s.data.toList.getD (i + 1) 0).toNat (s.data.toList.getD (i + 2) 0).toNat (s.data.toList.getD (i + 3) 0).toNat
  rw [← hd] at hsh
  rcases hsh with ⟨hb, he⟩ | ⟨hb, hn, hb1, hb2, he⟩ | ⟨hb, hn, hb1, hb2, hb3, hv, he⟩ | ⟨hb, hn, hb1, hb2, hb3, hb4, hv, he⟩ | he
  · exact .inl ⟨hb, he⟩
  · right
    rw [he]
    refine ⟨by show 128 ≤ _; omega, ?_, by show 1 ≤ 2; omega, by show i + 2 ≤ _; omega, fun j hj => ?_⟩
    · simp only [Utf8.valid, Bool.or_eq_true, Bool.and_eq_true, decide_eq_true_eq]
      omega
    · replace hj : j < 2 := hj
      obtain rfl | rfl : j = 0 ∨ j = 1 := by omega
      · show 128 ≤ (s.data.toList.getD i 0).toNat; omega
      · omega
  · right
    rw [he]
    refine ⟨by show 128 ≤ _; omega, ?_, by show 1 ≤ 3; omega, by show i + 3 ≤ _; omega, fun j hj => ?_⟩
    · simp only [Utf8.valid, Bool.or_eq_true, Bool.and_eq_true, decide_eq_true_eq]
      omega
    · replace hj : j < 3 := hj
      obtain rfl | rfl | rfl : j = 0 ∨ j = 1 ∨ j = 2 := by omega
      · show 128 ≤ (s.data.toList.getD i 0).toNat; omega
      · omega
      · omega
  · right
    rw [he]
    refine ⟨by show 128 ≤ _; omega, ?_, by show 1 ≤ 4; omega, by show i + 4 ≤ _; omega, fun j hj => ?_⟩
    · simp only [Utf8.valid, Bool.or_eq_true, Bool.and_eq_true, decide_eq_true_eq]
      omega
    · replace hj : j < 4 := hj
      obtain rfl | rfl | rfl | rfl : j = 0 ∨ j = 1 ∨ j = 2 ∨ j = 3 := by omega
      · show 128 ≤ (s.data.toList.getD i 0).toNat; omega
      · omega
      · omega
      · omega
  · right
    have hb : ¬ (s.data.toList.getD i 0).toNat < 128 := fun hb => by
      have e1 : Lib.decodeN (s.data.toList.length - i) (s.data.toList.getD i 0).toNat (s.data.toList.getD (i + 1) 0).toNat (s.data.toList.getD (i + 2) 0).toNat (s.data.toList.getD (i + 3) 0).toNat = ((s.data.toList.getD i 0).toNat, 1) := by
        rw [Lib.decodeN, if_pos hb]
      rw [← hd, he] at e1
      have := (Prod.mk.inj e1).1
      omega
    rw [he]
    refine ⟨by show 128 ≤ 65533; omega, by decide, by show 1 ≤ 1; omega, by show i + 1 ≤ _; omega, fun j hj => ?_⟩
    replace hj : j < 1 := hj
    obtain rfl : j = 0 := by omega
    show 128 ≤ (s.data.toList.getD i 0).toNat
    omega
def delL : List UInt8 := [32, 10, 40, 41]
theorem del_none {c : UInt8} (h : 128 ≤ c.toNat) : delL.contains c = false := by
  cases e : delL.contains c
  · rfl
  · exfalso
    have : c ∈ delL := by simpa using e
    simp only [delL, List.mem_cons, List.not_mem_nil, or_false] at this
    rcases this with rfl | rfl | rfl | rfl <;> revert h <;> decide
theorem noAny_more {s : ByteArray} {i : Nat} (k : Nat) (h : Lib.NoAny s.data.toList delL i) (hk : ∀ j, j < k → 128 ≤ (s.data.toList.getD (i + j) 0).toNat) : Lib.NoAny s.data.toList delL (i + k) := fun j b hj hb => by
  by_cases hi : j < i
  · exact h j b hi hb
  · have := hk (j - i) (by omega)
    rw [show i + (j - i) = j by omega, List.getD_eq_getElem?_getD, hb] at this
    exact del_none this
set_option maxHeartbeats 8000000 in
set_option maxRecDepth 100000 in
/-- A text of at most eight bytes. -/
theorem idxAny_short (s : ByteArray) (w : World) (h8 : s.size ≤ 8) : Calls Tryz.prog 101 #[.string s, .string delB] w fun e w' => e = .returned (.int .i64 (Lib.indexAny s.data.toList delL)) ∧ Below w.heap.size w w' := by
  obtain ⟨D, hD⟩ : ∃ D, delB = D := ⟨_, rfl⟩
  have HD : Hid (delB = D) := hD
  have hsz : D.size = 4 := by rw [← hD]; rfl
  have hemp : D.toList.isEmpty = false := by rw [← hD, Lib.toList_data]; rfl
  have hn1 : ((D.size : Int) == 1) = false := by rw [hsz]; rfl
  have h8z : decide ((8 : Int) < (s.size : Int)) = false := decide_eq_false (by omega)
  have HR : Hid (∀ (x : UInt8) W, x.toNat < 128 → Calls Tryz.prog 139 #[.string D, .int .i32 (x.toNat : Int)] W fun e w' => e = .returned (.int .i64 (Lib.indexByte delL x)) ∧ w' = W) := fun x W hx => by
    refine (Tryz.strings_IndexRune_ascii D (x.toNat : Int) W (by omega) (by omega)).mono ?_
    rintro e w' ⟨rfl, h⟩
    refine ⟨?_, h⟩
    rw [← hD, show ((x.toNat : Int)).toNat.toUInt8 = x by simp]
    rfl
  have HB : Hid (∀ (r : Nat) W, 128 ≤ r → Utf8.valid (r : Int) = true → Calls Tryz.prog 139 #[.string D, .int .i32 (r : Int)] W fun e w' => e = .returned (.int .i64 (-1)) ∧ Below W.heap.size W w') := fun r W h1 h2 => by
    rw [← hD]
    by_cases h3 : (r : Int) = 65533
    · rw [h3]; exact indexRune_bad W
    · exact indexRune_big (r : Int) W (by omega) h3 h2
  rw [hD]
  clear hD
  go_enter Tryz.func101, Tryz.ntmps101
  go_wp2_with fail
  refine (Tryz.strings_shouldUseASCIISet _ _).mono ?_
  rintro e w' ⟨rfl, hw⟩
  rw [hw, h8z]
  clear hw w'
  go_wp2_with fail
  go_loopg [9, 10] s.size (fun g _ _ wx => ∃ i : Nat, i + g = s.size ∧ Hid (Lib.NoAny s.data.toList delL i ∧ Below w.heap.size w wx ∧ wx.heap[w.heap.size]? = some (.stringIter s i)))
  case atStart => exact ⟨0, by omega, Lib.NoAny.zero _ _, (Below.refl _ _).alloc (Nat.le_refl _) _, World.iter_heap w s 0⟩
  case round =>
    obtain ⟨i, hig, HN⟩ := hrel
    by_cases hi : i < s.size
    · have hnx := fun ty => Lib.run_next_any_at (P := Tryz.prog) wr w.heap.size s i ty HN.out.2.2 hi
      obtain ⟨R, hR⟩ : ∃ R, (Utf8.decode s i).1 = R := ⟨_, rfl⟩
      obtain ⟨k, hk⟩ : ∃ k, (Utf8.decode s i).2 = k := ⟨_, rfl⟩
      have hst := rune_step s i hi
      rw [hR, hk] at hst hnx
      have hdk : Utf8.decode s i = (R, k) := by rw [← hR, ← hk]
      rw [hdk] at hst
      clear hR hk hdk
      have HV : Hid (Below w.heap.size w (wr.iterAt w.heap.size s (i + k)) ∧ (wr.iterAt w.heap.size s (i + k)).heap[w.heap.size]? = some (.stringIter s (i + k))) := ⟨Lib.below_iterAt HN.out.2.1 (Nat.le_refl _) _ _, Lib.iterAt_heap _ _ _ _ _ HN.out.2.2⟩
      obtain ⟨V, hV⟩ : ∃ V, wr.iterAt w.heap.size s (i + k) = V := ⟨_, rfl⟩
      rw [hV] at hnx HV
      clear hV
      rcases hst with ⟨hb, hd⟩ | ⟨hr1, hr2, hr3, hr4, hr5⟩
      · obtain ⟨hR, rfl⟩ := Prod.mk.inj hd
        obtain ⟨x, hx⟩ : ∃ x : UInt8, s.data.toList.getD i 0 = x := ⟨_, rfl⟩
        rw [hx] at hb hR
        subst hR
        have hl : s.data.toList.length = s.size := Array.length_toList
        have hxl : s.data.toList[i]? = some x := by
          rw [← hx, List.getD_eq_getElem?_getD, List.getElem?_eq_getElem (by omega)]
          rfl
        have Hx : Hid (s.data.toList[i]? = some x) := hxl
        clear hxl hx hl hd
        have hcon := Lib.contains_iff_indexByte delL x
        obtain ⟨q, hq⟩ : ∃ q, Lib.indexByte delL x = q := ⟨_, rfl⟩
        rw [hq] at hcon
        have Hq : Hid (Lib.indexByte delL x = q) := hq
        clear hq
        cases hin : delL.contains x
        · rw [hin] at hcon
          have hlt : ¬ ((0 : Int) ≤ q) := of_decide_eq_false hcon.symm
          clear hcon
          go_wp2_with fail
          refine (HR.out x _ hb).mono ?_
          rintro e w' ⟨rfl, hw⟩
          rw [hw, Hq.out]
          clear hw w'
          go_wp2_with fail
          go_roundg (gk - 1)
          case measure => omega
          case rel => exact ⟨i + 1, by omega, HN.out.1.succ Hx.out hin, HV.out⟩
        · rw [hin] at hcon
          have hge : (0 : Int) ≤ q := of_decide_eq_true hcon.symm
          clear hcon
          have HF : Hid (Lib.indexAny s.data.toList delL = (i : Int)) := Lib.indexAny_hit HN.out.1 Hx.out hin
          go_wp2_with fail
          refine (HR.out x _ hb).mono ?_
          rintro e w' ⟨rfl, hw⟩
          rw [hw, Hq.out]
          clear hw w'
          go_wp2_with fail
          rw [HF.out]
          go_ret
          exact ⟨rfl, HV.out.1⟩
      · have HNN : Hid (Lib.NoAny s.data.toList delL (i + k)) := noAny_more k HN.out.1 hr5
        replace hr1 : 128 ≤ R := hr1
        replace hr2 : Utf8.valid (R : Int) = true := hr2
        replace hr3 : 1 ≤ k := hr3
        replace hr4 : i + k ≤ s.size := hr4
        have HR2 : Hid (128 ≤ R ∧ Utf8.valid (R : Int) = true) := ⟨hr1, hr2⟩
        clear hr5 hr1 hr2
        have hlt : ¬ ((0 : Int) ≤ -1) := by omega
        go_wp2_with fail
        refine (HB.out R _ HR2.out.1 HR2.out.2).mono ?_
        rintro e w' ⟨rfl, hbw⟩
        have HW : Hid (Below w.heap.size w w' ∧ w'.heap[w.heap.size]? = some (.stringIter s (i + k))) := by
          have hs := HV.out.1.size
          have hlt : w.heap.size < V.heap.size := (Array.getElem?_eq_some_iff.1 HV.out.2).1
          exact ⟨HV.out.1.trans (hbw.mono hs), (hbw.block _ hlt).trans HV.out.2⟩
        clear hbw
        go_wp2_with fail
        go_roundg (gk - k)
        case measure => omega
        case rel => exact ⟨i + k, by omega, HNN.out, HW.out⟩
    · have hnx := fun ty => Lib.run_next_end_at (P := Tryz.prog) wr w.heap.size s i ty HN.out.2.2 hi
      have hse : i = s.size := by omega
      have HF : Hid (Lib.indexAny s.data.toList delL = -1) := Lib.indexAny_none (by
        have hl : s.data.toList.length = s.size := Array.length_toList
        rw [hl, ← hse]; exact HN.out.1)
      go_wp2_with fail
      rw [HF.out]
      go_ret
      exact ⟨rfl, HN.out.2.1⟩
theorem mid_del (c : UInt8) : midB c = !delL.contains c := by
  simp only [midB, delL, spB, brB, List.contains_cons, List.contains_nil, Bool.or_false]
  cases c == 32 <;> cases c == 10 <;> cases c == 40 <;> cases c == 41 <;> rfl
/-- Where the first of them stands: behind the word. -/
theorem indexAny_take : ∀ l : List UInt8, Lib.indexAny l delL = if (takeW l).length < l.length then ((takeW l).length : Int) else -1
  | [] => rfl
  | c :: r => by
    have ih := indexAny_take r
    rw [Lib.indexAny]
    cases hc : delL.contains c
    · have hm : midB c = true := by rw [mid_del, hc]; rfl
      have e : takeW (c :: r) = c :: takeW r := by simp [takeW, hm]
      rw [e, ih]
      simp only [Bool.false_eq_true, if_false, List.length_cons]
      by_cases h : (takeW r).length < r.length
      · have h' : (takeW r).length + 1 < r.length + 1 := by omega
        have hz : (((takeW r).length : Int) == -1) = false := by
          rw [beq_eq_false_iff_ne]
          omega
        simp only [h, h', if_true, hz, Bool.false_eq_true, if_false]
        omega
      · have h' : ¬ (takeW r).length + 1 < r.length + 1 := by omega
        simp only [h, h', if_false]
        rfl
    · have hm : midB c = false := by rw [mid_del, hc]; rfl
      have e : takeW (c :: r) = [] := by simp [takeW, hm]
      rw [e]
      simp
theorem idxAny_any (s : ByteArray) (w : World) (hs : s.size ≤ 1000000) : Calls Tryz.prog 101 #[.string s, .string delB] w fun e w' => e = .returned (.int .i64 (Lib.indexAny s.data.toList delL)) ∧ Below w.heap.size w w' := by
  by_cases h8 : s.size ≤ 8
  · exact idxAny_short s w h8
  · refine (Tryz.strings_IndexAny_long (zero_of_info (P := Tryz.prog) (n := 256) (by kernel_rfl)).1 s delB w (by decide) (by omega) (by omega) (by decide) (ascii_of_all (by decide))).mono ?_
    rintro e w' ⟨rfl, hw⟩
    refine ⟨rfl, ?_⟩
    rw [hw]
    exact ((Below.refl _ _).alloc (Nat.le_refl _) _).alloc (by simp) _
end Go.Proofs.YtnddkmccagiclabGreatDoor

/-
  The law's words cut into a list; the table that the cut reads.
-/
namespace Go.Proofs.YtnddkmccagiclabGreatDoor
open Go.RowKit
/-- The words of the law, in one text. -/
def lawWords : ByteArray := ⟨#[97, 100, 100, 32, 108, 101, 115, 115, 32, 105, 102, 32, 102, 117, 110, 32, 99, 97, 108, 108, 32, 97, 115]⟩
theorem lawWords_fields : Lib.fields lawWords.data.toList = [kindW 4, kindW 5, kindW 6, kindW 7, kindW 8, kindW 9] := by decide +kernel
theorem lawWords_ascii : ∀ b, b ∈ lawWords.data.toList → b.toNat < 128 := by decide +kernel
theorem fields_any (w : World) (htab : Lib.TabIs Tryz.prog w "strings.asciiSpace" .u8 Lib.asciiSpaceTab) :
    Calls Tryz.prog 103 #[.string lawWords] w fun e w' => e = .returned (.slice (some ⟨w.heap.size, 0, none⟩) 6 6) ∧ w' = w.alloc (.cells #[.string (bw (kindW 4)), .string (bw (kindW 5)), .string (bw (kindW 6)), .string (bw (kindW 7)), .string (bw (kindW 8)), .string (bw (kindW 9))] 9) := by
  have h := Tryz.strings_Fields lawWords w (by decide) (fun j b h => lawWords_ascii b (List.mem_of_getElem? h)) htab
  rw [lawWords_fields] at h
  exact h
/-- The table of spaces, as it was laid. -/
def Ta (w : World) : Prop := Lib.TabIs Tryz.prog w "strings.asciiSpace" .u8 Lib.asciiSpaceTab
theorem Ta.below {w w' : World} (h : Ta w) (hb : Below w.heap.size w w') : Ta w' := Lib.tabBelow_of_tabIs h w' hb
theorem At7.all {W : World} {b : Nat} {x : TT} (h : At7 W b 0 x) : W.cell? ⟨b, 0, none⟩ = some (.int .i64 x.k) ∧ W.cell? ⟨b, 1, none⟩ = some (.int .i64 x.n) ∧ W.cell? ⟨b, 2, none⟩ = some (.int .i64 x.t.k) ∧ W.cell? ⟨b, 3, none⟩ = some (.slice x.t.a x.t.l.length x.t.c) ∧ W.cell? ⟨b, 4, none⟩ = some (.int .i64 x.f.k) ∧ W.cell? ⟨b, 5, none⟩ = some (.slice x.f.a x.f.l.length x.f.c) ∧ W.cell? ⟨b, 6, none⟩ = some (.slice x.a x.l.length x.c) := by
  obtain ⟨c0, c1, c2, c3, c4, c5, c6⟩ := h
  simp only [Nat.zero_add] at c0 c1 c2 c3 c4 c5 c6
  exact ⟨c0, c1, c2, c3, c4, c5, c6⟩
end Go.Proofs.YtnddkmccagiclabGreatDoor
