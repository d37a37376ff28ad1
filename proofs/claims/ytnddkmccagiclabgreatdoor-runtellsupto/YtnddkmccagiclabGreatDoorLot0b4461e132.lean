/-
  What the call of chaperonelaw.RunTells answers.
-/
import Derived.Test.YtnddkmccagiclabGreatDoorLot1fdb5b78dd
import Derived.Test.YtnddkmccagiclabGreatDoorLot80fa9b26a4
import Derived.Test.YtnddkmccagiclabGreatDoorLotdf4e4ec170
import Derived.Test.YtnddkmccagiclabGreatDoorRows
import Derived.Test.YtnddkmccagiclabGreatDoorLotfef4768764
import Derived.ProofKit
import Derived.Deep.Slices
import Derived.Test.YtnddkmccagiclabGreatDoorLot59e900709f
import Derived.OpenShut
import Derived.Lib.LaidTab
namespace Go.Proofs.YtnddkmccagiclabGreatDoor
open Go.RowKit
theorem At7.cellsR {W : World} {b : Nat} {x : TT} (h : At7 W b 0 x) : W.cell? ⟨b, 0, none⟩ = some (.int .i64 x.k) ∧ W.cell? ⟨b, 1, none⟩ = some (.int .i64 x.n) ∧ W.cell? ⟨b, 2, none⟩ = some (.int .i64 x.t.k) ∧ W.cell? ⟨b, 3, none⟩ = some (.slice x.t.a x.t.l.length x.t.c) ∧ W.cell? ⟨b, 4, none⟩ = some (.int .i64 x.f.k) ∧ W.cell? ⟨b, 5, none⟩ = some (.slice x.f.a x.f.l.length x.f.c) ∧ W.cell? ⟨b, 6, none⟩ = some (.slice x.a x.l.length x.c) := by
  obtain ⟨c0, c1, c2, c3, c4, c5, c6⟩ := h
  simp only [Nat.zero_add] at c0 c1 c2 c3 c4 c5 c6
  exact ⟨c0, c1, c2, c3, c4, c5, c6⟩
theorem ok_congrR {m : Nat} : ∀ (x y : TT), x.tm = y.tm → x.ok m → y.ok m := by
  intro x
  induction x using TT.ind with
  | h k n t f a c l ih =>
    intro y hm h
    obtain ⟨k', n', t', f', a', c', l'⟩ := y
    rw [TT.tm_mk, TT.tm_mk, Tm.mk.injEq] at hm
    obtain ⟨rfl, rfl, ht, hf, hl⟩ := hm
    obtain ⟨⟨h1, h2, h3, h4, h5⟩, h6⟩ := TT.ok_mk.1 h
    have hlen : l.length = l'.length := by simpa using congrArg List.length hl
    refine TT.ok_mk.2 ⟨⟨h1, h2, by rw [Tr.sz_ty, ← ht, ← Tr.sz_ty]; exact h3, by rw [Tr.sz_ty, ← hf, ← Tr.sz_ty]; exact h4, by omega⟩, fun z hz => ?_⟩
    obtain ⟨j, hj, rfl⟩ := List.getElem_of_mem hz
    have e := congrArg (fun m => m[j]?) hl
    simp only [List.getElem?_map, List.getElem?_eq_getElem hj, List.getElem?_eq_getElem (show j < l.length by omega), Option.map_some, Option.some.injEq] at e
    exact ih l[j] (List.getElem_mem _) l'[j] e (h6 _ (List.getElem_mem _))
set_option maxRecDepth 20000 in
set_option maxHeartbeats 8000000 in
/-- RunTells. -/
theorem runTells_any (x : TT) (f : Int) (w : World) (hg : Gl w) (hx : x.In w) (hok : x.ok 100000000) (hsz : x.sz ≤ 2000000) : Calls Tryz.prog 9 #[.agg #[.int .i64 x.k, .int .i64 x.n, .int .i64 x.t.k, .slice x.t.a x.t.l.length x.t.c, .int .i64 x.f.k, .slice x.f.a x.f.l.length x.f.c, .slice x.a x.l.length x.c], .int .i64 f] w fun e w' => e = .returned (.bool true) ∧ Below w.heap.size w w' := by
  obtain ⟨W1, hW1⟩ : ∃ W1, W1 = w.alloc (.cells #[.int .i64 x.k, .int .i64 x.n, .int .i64 x.t.k, .slice x.t.a x.t.l.length x.t.c, .int .i64 x.f.k, .slice x.f.a x.f.l.length x.f.c, .slice x.a x.l.length x.c] 27) := ⟨_, rfl⟩
  have hb1 : Below w.heap.size w W1 := by rw [hW1]; exact (Below.refl _ _).alloc (Nat.le_refl _) _
  have h7 : At7 W1 w.heap.size 0 x := by rw [hW1]; exact At7.new w x
  have HX : Hid (x.In W1 ∧ Gl W1 ∧ x.ok 100000000 ∧ x.sz ≤ 2000000 ∧ Below w.heap.size w W1 ∧ At7 W1 w.heap.size 0 x) := ⟨hx.below hb1, hg.below hb1, hok, hsz, hb1, h7⟩
  have HC : Hid (Calls Tryz.prog 19 #[.agg #[.int .i64 x.k, .int .i64 x.n, .int .i64 x.t.k, .slice x.t.a x.t.l.length x.t.c, .int .i64 x.f.k, .slice x.f.a x.f.l.length x.f.c, .slice x.a x.l.length x.c]] W1 fun e w' => ∃ c : TT, e = .returned (.agg #[.int .i64 c.k, .int .i64 c.n, .int .i64 c.t.k, .slice c.t.a c.t.l.length c.t.c, .int .i64 c.f.k, .slice c.f.a c.f.l.length c.f.c, .slice c.a c.l.length c.c]) ∧ Hid (c.tm = x.tm ∧ c.In w' ∧ Below W1.heap.size W1 w')) := by
    refine (copyTm_any x W1 HX.out.1 (hok.lw (by omega)) (hok.csz (by omega))).mono ?_
    rintro e w' ⟨c, rfl, h1, h2, _, h4⟩
    exact ⟨c, rfl, h1, h2, h4⟩
  obtain ⟨p0, p1, p2, p3, p4, p5, p6⟩ := h7.cellsR
  clear hg hx hok hsz hb1 h7
  go_enter Tryz.func9, Tryz.ntmps9
  go_wp2_with fail
  rw [← hW1]
  clear hW1
  refine HC.out.mono ?_
  rintro e w2 ⟨c, rfl, HI⟩
  clear HC p0 p1 p2 p3 p4 p5 p6
  obtain ⟨W3, hW3⟩ : ∃ W3, W3 = w2.alloc (.cells #[.int .i64 c.k, .int .i64 c.n, .int .i64 c.t.k, .slice c.t.a c.t.l.length c.t.c, .int .i64 c.f.k, .slice c.f.a c.f.l.length c.f.c, .slice c.a c.l.length c.c] 27) := ⟨_, rfl⟩
  have hb3 : Below w2.heap.size w2 W3 := by rw [hW3]; exact (Below.refl _ _).alloc (Nat.le_refl _) _
  have hb13 : Below W1.heap.size W1 W3 := HI.out.2.2.trans (hb3.mono HI.out.2.2.size)
  have h7 : At7 W3 w2.heap.size 0 c := by rw [hW3]; exact At7.new w2 c
  have HK : Hid (∀ W, Below W3.heap.size W3 W → x.In W ∧ c.In W ∧ Gl W ∧ Below w.heap.size w W ∧ At7 W w.heap.size 0 x ∧ At7 W w2.heap.size 0 c) := fun W hb =>
    ⟨(HX.out.1.below hb13).below hb, (HI.out.2.1.below hb3).below hb, (HX.out.2.1.below hb13).below hb, (HX.out.2.2.2.2.1.trans (hb13.mono HX.out.2.2.2.2.1.size)).trans (hb.mono (HX.out.2.2.2.2.1.trans (hb13.mono HX.out.2.2.2.2.1.size)).size), (HX.out.2.2.2.2.2.below hb13).below hb, h7.below hb⟩
  have HXC : Hid (x.ok 100000000 ∧ c.ok 100000000 ∧ x.sz ≤ 2000000 ∧ c.tm = x.tm) := ⟨HX.out.2.2.1, ok_congrR x c HI.out.1.symm HX.out.2.2.1, HX.out.2.2.2.1, HI.out.1⟩
  obtain ⟨P, hP⟩ : ∃ P, runR x.tm f = P := ⟨_, rfl⟩
  obtain ⟨B, hB⟩ : ∃ B, bareR x.tm f = B := ⟨_, rfl⟩
  have HC1 : Hid (∀ W, Below W3.heap.size W3 W → Calls Tryz.prog 11 #[.agg #[.int .i64 c.k, .int .i64 c.n, .int .i64 c.t.k, .slice c.t.a c.t.l.length c.t.c, .int .i64 c.f.k, .slice c.f.a c.f.l.length c.f.c, .slice c.a c.l.length c.c], .int .i64 f] W (OutPost P W)) := fun W hb => by
    have := runFn_any c f W (HK.out W hb).2.2.1.gp (HK.out W hb).2.1 HXC.out.2.1.nb
    rw [HXC.out.2.2.2, hP] at this
    exact this
  have HC2 : Hid (∀ W, Below W3.heap.size W3 W → Calls Tryz.prog 20 #[.agg #[.int .i64 x.k, .int .i64 x.n, .int .i64 x.t.k, .slice x.t.a x.t.l.length x.t.c, .int .i64 x.f.k, .slice x.f.a x.f.l.length x.f.c, .slice x.a x.l.length x.c], .int .i64 f] W (OutPost P W)) := fun W hb => by
    have := lawRun_any x f W (HK.out W hb).1 HXC.out.2.2.1 HXC.out.1
    rw [hP] at this
    exact this
  have HC3 : Hid (∀ W, Below W3.heap.size W3 W → Calls Tryz.prog 14 #[.agg #[.int .i64 c.k, .int .i64 c.n, .int .i64 c.t.k, .slice c.t.a c.t.l.length c.t.c, .int .i64 c.f.k, .slice c.f.a c.f.l.length c.f.c, .slice c.a c.l.length c.c], .int .i64 f] W (OutPost B W)) := fun W hb => by
    have := bareFn_any c f W (HK.out W hb).2.2.1.gp (HK.out W hb).2.1 HXC.out.2.1.nb
    rw [HXC.out.2.2.2, hB] at this
    exact this
  have HC4 : Hid (∀ W, Below W3.heap.size W3 W → Calls Tryz.prog 21 #[.agg #[.int .i64 x.k, .int .i64 x.n, .int .i64 x.t.k, .slice x.t.a x.t.l.length x.t.c, .int .i64 x.f.k, .slice x.f.a x.f.l.length x.f.c, .slice x.a x.l.length x.c], .int .i64 f] W (OutPost B W)) := fun W hb => by
    have := lawBare_any x f W (HK.out W hb).1 HXC.out.2.2.1 HXC.out.1
    rw [hB] at this
    exact this
  have HC5 : Hid (∀ W, Below W3.heap.size W3 W → Calls Tryz.prog 22 #[.agg #[.int .i64 c.k, .int .i64 c.n, .int .i64 c.t.k, .slice c.t.a c.t.l.length c.t.c, .int .i64 c.f.k, .slice c.f.a c.f.l.length c.f.c, .slice c.a c.l.length c.c], .agg #[.int .i64 x.k, .int .i64 x.n, .int .i64 x.t.k, .slice x.t.a x.t.l.length x.t.c, .int .i64 x.f.k, .slice x.f.a x.f.l.length x.f.c, .slice x.a x.l.length x.c]] W fun e w' => e = .returned (.bool true) ∧ Below W.heap.size W w') := fun W hb =>
    sameTerm_yes c x W (HK.out W hb).2.1 (HK.out W hb).1 HXC.out.2.2.2 (HXC.out.2.1.lw (by omega)) (HXC.out.2.1.tsm (by omega))
  have HC6 : Hid (∀ W, Below W3.heap.size W3 W → Calls Tryz.prog 23 #[] W fun e w' => e = .returned (.bool true) ∧ Below W.heap.size W w') := fun W hb => runs_any W (HK.out W hb).2.2.1
  have HB3 : Hid (Below W3.heap.size W3 W3) := Below.refl _ _
  obtain ⟨p0, p1, p2, p3, p4, p5, p6⟩ := h7.cellsR
  clear hb3 hb13 h7 HX HI hP hB
  go_wp2_with fail
  rw [← hW3]
  clear hW3
  refine (HC1.out W3 HB3.out).mono ?_
  rintro e w4 ⟨rfl, hbw4⟩
  clear p0 p1 p2 p3 p4 p5 p6
  obtain ⟨W5, hW5⟩ : ∃ V, V = w4.alloc (.cells #[.int .i64 P.1.k, .int .i64 P.1.n, .bool P.1.b] 29) := ⟨_, rfl⟩
  have hbW5 : Below w4.heap.size w4 W5 := by rw [hW5]; exact (Below.refl _ _).alloc (Nat.le_refl _) _
  have HW5 : Hid (Below W3.heap.size W3 W5) := HB3.out.trans ((hbw4).mono (HB3.out).size) |>.trans (hbW5.mono ((HB3.out).trans (hbw4.mono (HB3.out).size)).size)
  have HO1 : Hid (∀ W, Below W5.heap.size W5 W → W.cell? ⟨w4.heap.size, 0, none⟩ = some (.int .i64 P.1.k) ∧ W.cell? ⟨w4.heap.size, 1, none⟩ = some (.int .i64 P.1.n) ∧ W.cell? ⟨w4.heap.size, 2, none⟩ = some (.bool P.1.b)) := fun W hb => by
    have q0 : W5.cell? ⟨w4.heap.size, 0, none⟩ = some (.int .i64 P.1.k) := by rw [hW5]; simp [go_sem]
    have q1 : W5.cell? ⟨w4.heap.size, 1, none⟩ = some (.int .i64 P.1.n) := by rw [hW5]; simp [go_sem]
    have q2 : W5.cell? ⟨w4.heap.size, 2, none⟩ = some (.bool P.1.b) := by rw [hW5]; simp [go_sem]
    exact ⟨cell_later hb q0, cell_later hb q1, cell_later hb q2⟩
  obtain ⟨p0, p1, p2, p3, p4, p5, p6⟩ := (HK.out W5 HW5.out).2.2.2.2.1.cellsR
  clear hbw4 hbW5
  go_upto_region 3 with fail
  rw [← hW5]
  clear hW5
  go_wp2_with fail
  refine (HC2.out W5 HW5.out).mono ?_
  rintro e w6 ⟨rfl, hbw6⟩
  clear p0 p1 p2 p3 p4 p5 p6
  obtain ⟨W7, hW7⟩ : ∃ V, V = w6.alloc (.cells #[.int .i64 P.1.k, .int .i64 P.1.n, .bool P.1.b] 29) := ⟨_, rfl⟩
  have hbW7 : Below w6.heap.size w6 W7 := by rw [hW7]; exact (Below.refl _ _).alloc (Nat.le_refl _) _
  have HW7 : Hid (Below W3.heap.size W3 W7) := HW5.out.trans ((hbw6).mono (HW5.out).size) |>.trans (hbW7.mono ((HW5.out).trans (hbw6.mono (HW5.out).size)).size)
  have HO2 : Hid (∀ W, Below W7.heap.size W7 W → W.cell? ⟨w6.heap.size, 0, none⟩ = some (.int .i64 P.1.k) ∧ W.cell? ⟨w6.heap.size, 1, none⟩ = some (.int .i64 P.1.n) ∧ W.cell? ⟨w6.heap.size, 2, none⟩ = some (.bool P.1.b)) := fun W hb => by
    have q0 : W7.cell? ⟨w6.heap.size, 0, none⟩ = some (.int .i64 P.1.k) := by rw [hW7]; simp [go_sem]
    have q1 : W7.cell? ⟨w6.heap.size, 1, none⟩ = some (.int .i64 P.1.n) := by rw [hW7]; simp [go_sem]
    have q2 : W7.cell? ⟨w6.heap.size, 2, none⟩ = some (.bool P.1.b) := by rw [hW7]; simp [go_sem]
    exact ⟨cell_later hb q0, cell_later hb q1, cell_later hb q2⟩
  obtain ⟨p0, p1, p2, p3, p4, p5, p6⟩ := (HK.out W7 HW7.out).2.2.2.2.2.cellsR
  have HW57 : Hid (Below W5.heap.size W5 W7) := hbw6.trans (hbW7.mono hbw6.size)
  clear hbw6 hbW7
  go_upto_region 4 with fail
  rw [← hW7]
  clear hW7
  go_wp2_with fail
  refine (HC3.out W7 HW7.out).mono ?_
  rintro e w8 ⟨rfl, hbw8⟩
  clear p0 p1 p2 p3 p4 p5 p6
  obtain ⟨W9, hW9⟩ : ∃ V, V = w8.alloc (.cells #[.int .i64 B.1.k, .int .i64 B.1.n, .bool B.1.b] 29) := ⟨_, rfl⟩
  have hbW9 : Below w8.heap.size w8 W9 := by rw [hW9]; exact (Below.refl _ _).alloc (Nat.le_refl _) _
  have HW9 : Hid (Below W3.heap.size W3 W9) := HW7.out.trans ((hbw8).mono (HW7.out).size) |>.trans (hbW9.mono ((HW7.out).trans (hbw8.mono (HW7.out).size)).size)
  have HO3 : Hid (∀ W, Below W9.heap.size W9 W → W.cell? ⟨w8.heap.size, 0, none⟩ = some (.int .i64 B.1.k) ∧ W.cell? ⟨w8.heap.size, 1, none⟩ = some (.int .i64 B.1.n) ∧ W.cell? ⟨w8.heap.size, 2, none⟩ = some (.bool B.1.b)) := fun W hb => by
    have q0 : W9.cell? ⟨w8.heap.size, 0, none⟩ = some (.int .i64 B.1.k) := by rw [hW9]; simp [go_sem]
    have q1 : W9.cell? ⟨w8.heap.size, 1, none⟩ = some (.int .i64 B.1.n) := by rw [hW9]; simp [go_sem]
    have q2 : W9.cell? ⟨w8.heap.size, 2, none⟩ = some (.bool B.1.b) := by rw [hW9]; simp [go_sem]
    exact ⟨cell_later hb q0, cell_later hb q1, cell_later hb q2⟩
  obtain ⟨p0, p1, p2, p3, p4, p5, p6⟩ := (HK.out W9 HW9.out).2.2.2.2.1.cellsR
  have HW79 : Hid (Below W7.heap.size W7 W9) := hbw8.trans (hbW9.mono hbw8.size)
  clear hbw8 hbW9
  go_upto_region 5 with fail
  rw [← hW9]
  clear hW9
  go_wp2_with fail
  refine (HC4.out W9 HW9.out).mono ?_
  rintro e w10 ⟨rfl, hbw10⟩
  clear p0 p1 p2 p3 p4 p5 p6
  obtain ⟨W11, hW11⟩ : ∃ V, V = w10.alloc (.cells #[.int .i64 B.1.k, .int .i64 B.1.n, .bool B.1.b] 29) := ⟨_, rfl⟩
  have hbW11 : Below w10.heap.size w10 W11 := by rw [hW11]; exact (Below.refl _ _).alloc (Nat.le_refl _) _
  have HW11 : Hid (Below W3.heap.size W3 W11) := HW9.out.trans ((hbw10).mono (HW9.out).size) |>.trans (hbW11.mono ((HW9.out).trans (hbw10.mono (HW9.out).size)).size)
  have HO4 : Hid (∀ W, Below W11.heap.size W11 W → W.cell? ⟨w10.heap.size, 0, none⟩ = some (.int .i64 B.1.k) ∧ W.cell? ⟨w10.heap.size, 1, none⟩ = some (.int .i64 B.1.n) ∧ W.cell? ⟨w10.heap.size, 2, none⟩ = some (.bool B.1.b)) := fun W hb => by
    have q0 : W11.cell? ⟨w10.heap.size, 0, none⟩ = some (.int .i64 B.1.k) := by rw [hW11]; simp [go_sem]
    have q1 : W11.cell? ⟨w10.heap.size, 1, none⟩ = some (.int .i64 B.1.n) := by rw [hW11]; simp [go_sem]
    have q2 : W11.cell? ⟨w10.heap.size, 2, none⟩ = some (.bool B.1.b) := by rw [hW11]; simp [go_sem]
    exact ⟨cell_later hb q0, cell_later hb q1, cell_later hb q2⟩
  obtain ⟨p0, p1, p2, p3, p4, p5, p6⟩ := (HK.out W11 HW11.out).2.2.2.2.1.cellsR
  have HW911 : Hid (Below W9.heap.size W9 W11) := hbw10.trans (hbW11.mono hbw10.size)
  clear hbw10 hbW11
  obtain ⟨s0, s1, s2, s3, s4, s5, s6⟩ := (HK.out W11 HW11.out).2.2.2.2.2.cellsR
  obtain ⟨a0, a1, a2⟩ := HO1.out W11 (HW57.out.trans (HW79.out.mono HW57.out.size) |>.trans (HW911.out.mono (HW57.out.trans (HW79.out.mono HW57.out.size)).size))
  obtain ⟨d0, d1, d2⟩ := HO2.out W11 (HW79.out.trans (HW911.out.mono HW79.out.size))
  obtain ⟨g0, g1, g2⟩ := HO3.out W11 HW911.out
  obtain ⟨m0, m1, m2⟩ := HO4.out W11 (Below.refl _ _)
  have HBW : Hid (Below w.heap.size w W11) := (HK.out W11 HW11.out).2.2.2.1
  have HC5' : Hid (Calls Tryz.prog 22 #[.agg #[.int .i64 c.k, .int .i64 c.n, .int .i64 c.t.k, .slice c.t.a c.t.l.length c.t.c, .int .i64 c.f.k, .slice c.f.a c.f.l.length c.f.c, .slice c.a c.l.length c.c], .agg #[.int .i64 x.k, .int .i64 x.n, .int .i64 x.t.k, .slice x.t.a x.t.l.length x.t.c, .int .i64 x.f.k, .slice x.f.a x.f.l.length x.f.c, .slice x.a x.l.length x.c]] W11 fun e w' => e = .returned (.bool true) ∧ Below W11.heap.size W11 w') := HC5.out W11 HW11.out
  have HC6' : Hid (∀ W, Below W11.heap.size W11 W → Calls Tryz.prog 23 #[] W fun e w' => e = .returned (.bool true) ∧ Below W11.heap.size W11 w') := fun W hb => (HC6.out W (HW11.out.trans (hb.mono HW11.out.size))).mono fun e w' h => ⟨h.1, hb.trans (h.2.mono hb.size)⟩
  clear HO1 HO2 HO3 HO4 HK HC1 HC2 HC3 HC4 HC5 HC6 HXC HB3 HW5 HW7 HW9 HW57 HW79 HW911
  go_upto_region 6 with fail
  rw [← hW11]
  clear hW11 HW11
  go_wp2_with fail
  refine HC5'.out.mono ?_
  rintro e w12 ⟨rfl, hb12⟩
  have HB12 : Hid (Below W11.heap.size W11 w12) := hb12
  clear hb12 a0 a1 a2 d0 d1 d2 g0 g1 g2 m0 m1 m2 p0 p1 p2 p3 p4 p5 p6 s0 s1 s2 s3 s4 s5 s6 HC5'
  go_wp2_with fail
  refine (HC6'.out w12 HB12.out).mono ?_
  rintro e w13 ⟨rfl, hb13⟩
  have HB13 : Hid (Below w.heap.size w w13) := HBW.out.trans (hb13.mono HBW.out.size)
  clear hb13 HC6' HB12 HBW
  go_wp2_with fail
  refine bodyPost_ret (v := .bool true) ?_ rfl ⟨rfl, HB13.out⟩
  simp [results, Tryz.results9, go_sem]
end Go.Proofs.YtnddkmccagiclabGreatDoor

/-
  Whatever can be read as data of the type 'Type{Kind int, L []Type}' is a tree that lies in memory.
-/
namespace Go.Proofs.YtnddkmccagiclabGreatDoor
open Go.ChangeShapes Go.WideShapes Go.ChangeAt Go.RowKit
theorem Tryz.cells24 : Tryz.prog.cellsOf 24 = 2 := by kernel_rfl
theorem Tryz.cells22 : Tryz.prog.cellsOf 22 = 1 := by kernel_rfl
theorem Tryz.cells3 : Tryz.prog.cellsOf 3 = 1 := by kernel_rfl
theorem cell_spot {w : World} {a : Addr} {v : Value} (h : w.cell? a = some v) : a = ⟨a.block, a.off, none⟩ := by
  obtain ⟨b, o, s⟩ := a
  cases s with
  | none => rfl
  | some s =>
    unfold World.cell? at h
    split at h <;> simp at h
theorem cellsTwo {w : World} {base : Nat} {a : Addr} {u v : Value} (h : w.cells? base a 2 = some [u, v]) : w.cell? a = some u ∧ w.cell? (a.add 1) = some v := by
  unfold World.cells? at h
  split at h
  · have h0 : a.add 0 = a := by simp [Addr.add]
    simp only [List.range_succ, List.range_zero, List.nil_append, List.cons_append, List.mapM_cons, List.mapM_nil, h0] at h
    cases hu : w.cell? a with
    | none => simp [hu] at h
    | some u' =>
      cases hv : w.cell? (a.add 1) with
      | none => simp [hu, hv] at h
      | some v' =>
        simp [hu, hv] at h
        exact ⟨by rw [h.1], by rw [h.2]⟩
  · cases h
end Go.Proofs.YtnddkmccagiclabGreatDoor

/-
  Whatever can be read as data of the type 'Term' is a term's tree that lies in memory.
-/
namespace Go.Proofs.YtnddkmccagiclabGreatDoor
open Go.ChangeShapes Go.WideShapes Go.ChangeAt Go.RowKit
theorem Tryz.cells27 : Tryz.prog.cellsOf 27 = 7 := by kernel_rfl
theorem Tryz.cells25 : Tryz.prog.cellsOf 25 = 1 := by kernel_rfl
theorem cells_seven {w : World} {base : Nat} {a : Addr} {l : List Value} (h : w.cells? base a 7 = some l) : ∀ i, i < 7 → w.cell? (a.add i) = l[i]? := by
  unfold World.cells? at h
  split at h
  · intro i hi
    have hm := Lib.mapM_at h i i (by simp [hi])
    obtain ⟨b, hb, hf⟩ := hm
    rw [hb]
    exact hf
  · cases h
end Go.Proofs.YtnddkmccagiclabGreatDoor
