/-
  What the call of chaperonelaw.TermTells answers.
-/
import Derived.Test.YtnddkmccagiclaaGreatDoorLot95f67e03a6
import Derived.Test.YtnddkmccagiclaaGreatDoorLotb9420b7669
import Derived.Test.YtnddkmccagiclaaGreatDoorLot7f2fef37e3
import Derived.Test.YtnddkmccagiclaaGreatDoorLotd7096c72d2
import Derived.Test.YtnddkmccagiclaaGreatDoorLot165290add2
import Derived.Test.YtnddkmccagiclaaGreatDoorRows
import Derived.Test.YtnddkmccagiclaaGreatDoorLotf63a16e00c
import Derived.ProofKit
import Derived.Deep.Slices
import Derived.Test.YtnddkmccagiclaaGreatDoorLotae048bf8fb
import Derived.OpenShut
import Derived.Lib.LaidTab
namespace Go.Proofs.YtnddkmccagiclaaGreatDoor
open Go.RowKit

/-- The two that print say the same. -/
theorem pr_alike {x : Tm} {s s' : ByteArray} {er er' : Int}
    (h : (goodM 0 x = false ∧ s = bw [] ∧ er = 1) ∨ (goodM 0 x = true ∧ 1000 < (tmText 40 x).length ∧ s = bw [] ∧ er = 4) ∨ (goodM 0 x = true ∧ (tmText 40 x).length ≤ 1000 ∧ s = bw (tmText 40 x) ∧ er = 0))
    (h' : (goodM 0 x = false ∧ s' = bw [] ∧ er' = 1) ∨ (goodM 0 x = true ∧ 1000 < (tmText 40 x).length ∧ s' = bw [] ∧ er' = 4) ∨ (goodM 0 x = true ∧ (tmText 40 x).length ≤ 1000 ∧ s' = bw (tmText 40 x) ∧ er' = 0)) : s' = s ∧ er' = er := by
  rcases h with ⟨h1, rfl, rfl⟩ | ⟨h1, h2, rfl, rfl⟩ | ⟨h1, h2, rfl, rfl⟩ <;> rcases h' with ⟨g1, rfl, rfl⟩ | ⟨g1, g2, rfl, rfl⟩ | ⟨g1, g2, rfl, rfl⟩ <;> first | exact ⟨rfl, rfl⟩ | (exfalso; omega) | (exfalso; rw [h1] at g1; cases g1)

theorem ok_congr {m : Nat} : ∀ (x y : TT), x.tm = y.tm → x.ok m → y.ok m := by
  intro x
  induction x using TT.ind with
  | h k n t f a c l ih =>
    intro y hm h
    obtain ⟨k', n', t', f', a', c', l'⟩ := y
    rw [TT.tm_mk, TT.tm_mk, Tm.mk.injEq] at hm
    obtain ⟨rfl, rfl, ht, hf, hl⟩ := hm
    obtain ⟨⟨h1, h2, h3, h4, h5⟩, h6⟩ := TT.ok_mk.1 h
    have hlen : l.length = l'.length := by simpa using congrArg List.length hl
    refine TT.ok_mk.2 ⟨⟨h1, h2, by rw [Tr.sz_ty, ← ht, ← Tr.sz_ty]; exact h3, by rw [Tr.sz_ty, ← hf, ← Tr.sz_ty]; exact h4, by omega⟩, fun z hz => ?_⟩
    obtain ⟨j, hj, rfl⟩ := List.getElem_of_mem hz
    have e := congrArg (fun m => m[j]?) hl
    simp only [List.getElem?_map, List.getElem?_eq_getElem hj, List.getElem?_eq_getElem (show j < l.length by omega), Option.map_some, Option.some.injEq] at e
    exact ih l[j] (List.getElem_mem _) l'[j] e (h6 _ (List.getElem_mem _))

set_option maxRecDepth 20000 in
set_option maxHeartbeats 16000000 in
/-- TermTells. -/
theorem tmTells_any (x u : TT) (ar : Int) (w : World) (hg : Gl w) (hta : Ta w) (hx : x.In w) (hu : u.In w) (hok : x.ok 100000000) (hsz : x.sz ≤ 1000000) : Calls Tryz.prog 3 #[.agg #[.int .i64 x.k, .int .i64 x.n, .int .i64 x.t.k, .slice x.t.a x.t.l.length x.t.c, .int .i64 x.f.k, .slice x.f.a x.f.l.length x.f.c, .slice x.a x.l.length x.c], .agg #[.int .i64 u.k, .int .i64 u.n, .int .i64 u.t.k, .slice u.t.a u.t.l.length u.t.c, .int .i64 u.f.k, .slice u.f.a u.f.l.length u.f.c, .slice u.a u.l.length u.c], .int .i64 ar] w fun e w' => e = .returned (.bool true) ∧ Below w.heap.size w w' := by
  obtain ⟨W1, hW1⟩ : ∃ W1, W1 = (w.alloc (.cells #[.int .i64 x.k, .int .i64 x.n, .int .i64 x.t.k, .slice x.t.a x.t.l.length x.t.c, .int .i64 x.f.k, .slice x.f.a x.f.l.length x.f.c, .slice x.a x.l.length x.c] 27)).alloc (.cells #[.int .i64 u.k, .int .i64 u.n, .int .i64 u.t.k, .slice u.t.a u.t.l.length u.t.c, .int .i64 u.f.k, .slice u.f.a u.f.l.length u.f.c, .slice u.a u.l.length u.c] 27) := ⟨_, rfl⟩
  have hb1 : Below w.heap.size w W1 := by rw [hW1]; exact ((Below.refl _ _).alloc (Nat.le_refl _) _).alloc (by simp) _
  have h7 : At7 W1 w.heap.size 0 x := by
    have h7x : At7 (w.alloc (.cells #[.int .i64 x.k, .int .i64 x.n, .int .i64 x.t.k, .slice x.t.a x.t.l.length x.t.c, .int .i64 x.f.k, .slice x.f.a x.f.l.length x.f.c, .slice x.a x.l.length x.c] 27)) w.heap.size 0 x := At7.new w x
    rw [hW1]; exact h7x.below ((Below.refl _ _).alloc (Nat.le_refl _) _)
  have h7u : At7 W1 (w.heap.size + 1) 0 u := by
    have := At7.new (w.alloc (.cells #[.int .i64 x.k, .int .i64 x.n, .int .i64 x.t.k, .slice x.t.a x.t.l.length x.t.c, .int .i64 x.f.k, .slice x.f.a x.f.l.length x.f.c, .slice x.a x.l.length x.c] 27)) u
    rw [show (w.alloc (.cells #[.int .i64 x.k, .int .i64 x.n, .int .i64 x.t.k, .slice x.t.a x.t.l.length x.t.c, .int .i64 x.f.k, .slice x.f.a x.f.l.length x.f.c, .slice x.a x.l.length x.c] 27)).heap.size = w.heap.size + 1 from by simp] at this
    rw [hW1]; exact this
  have HX : Hid (x.In W1 ∧ u.In W1 ∧ Gl W1 ∧ Ta W1 ∧ x.ok 100000000 ∧ x.sz ≤ 1000000 ∧ Below w.heap.size w W1 ∧ At7 W1 w.heap.size 0 x ∧ At7 W1 (w.heap.size + 1) 0 u) := ⟨hx.below hb1, hu.below hb1, hg.below hb1, hta.below hb1, hok, hsz, hb1, h7, h7u⟩
  have HC : Hid (Calls Tryz.prog 6 #[.agg #[.int .i64 x.k, .int .i64 x.n, .int .i64 x.t.k, .slice x.t.a x.t.l.length x.t.c, .int .i64 x.f.k, .slice x.f.a x.f.l.length x.f.c, .slice x.a x.l.length x.c]] W1 fun e w' => ∃ c : TT, e = .returned (.agg #[.int .i64 c.k, .int .i64 c.n, .int .i64 c.t.k, .slice c.t.a c.t.l.length c.t.c, .int .i64 c.f.k, .slice c.f.a c.f.l.length c.f.c, .slice c.a c.l.length c.c]) ∧ Hid (c.tm = x.tm ∧ c.In w' ∧ Below W1.heap.size W1 w')) := by
    refine (copyTm_any x W1 HX.out.1 (hok.lw (by omega)) (hok.csz (by omega))).mono ?_
    rintro e w' ⟨c, rfl, h1, h2, _, h4⟩
    exact ⟨c, rfl, h1, h2, h4⟩
  obtain ⟨p0, p1, p2, p3, p4, p5, p6⟩ := h7.all
  clear hg hta hx hu hok hsz hb1 h7 h7u
  go_enter Tryz.func3, Tryz.ntmps3
  go_wp2_with fail
  rw [← hW1]
  clear hW1
  refine HC.out.mono ?_
  rintro e w2 ⟨c, rfl, HI⟩
  clear HC p0 p1 p2 p3 p4 p5 p6
  obtain ⟨W3, hW3⟩ : ∃ W3, W3 = w2.alloc (.cells #[.int .i64 c.k, .int .i64 c.n, .int .i64 c.t.k, .slice c.t.a c.t.l.length c.t.c, .int .i64 c.f.k, .slice c.f.a c.f.l.length c.f.c, .slice c.a c.l.length c.c] 27) := ⟨_, rfl⟩
  have hb3 : Below w2.heap.size w2 W3 := by rw [hW3]; exact (Below.refl _ _).alloc (Nat.le_refl _) _
  have hb13 : Below W1.heap.size W1 W3 := HI.out.2.2.trans (hb3.mono HI.out.2.2.size)
  have h7 : At7 W3 w2.heap.size 0 c := by rw [hW3]; exact At7.new w2 c
  have HX3 : Hid (x.In W3 ∧ u.In W3 ∧ c.In W3 ∧ c.tm = x.tm ∧ Gl W3 ∧ Ta W3 ∧ x.ok 100000000 ∧ x.sz ≤ 1000000 ∧ Below w.heap.size w W3 ∧ At7 W3 (w.heap.size) 0 x ∧ At7 W3 (w2.heap.size) 0 c ∧ At7 W3 (w.heap.size + 1) 0 u) := ⟨HX.out.1.below hb13, HX.out.2.1.below hb13, HI.out.2.1.below hb3, HI.out.1, HX.out.2.2.1.below hb13, HX.out.2.2.2.1.below hb13, HX.out.2.2.2.2.1, HX.out.2.2.2.2.2.1, HX.out.2.2.2.2.2.2.1.trans (hb13.mono HX.out.2.2.2.2.2.2.1.size), HX.out.2.2.2.2.2.2.2.1.below hb13, h7, HX.out.2.2.2.2.2.2.2.2.below hb13⟩
  have HC : Hid (Calls Tryz.prog 7 #[.agg #[.int .i64 c.k, .int .i64 c.n, .int .i64 c.t.k, .slice c.t.a c.t.l.length c.t.c, .int .i64 c.f.k, .slice c.f.a c.f.l.length c.f.c, .slice c.a c.l.length c.c]] W3 fun e w' => ∃ (s : ByteArray) (er : Int), e = .returned (.tuple #[.string s, .int .i64 er]) ∧ Hid (((goodM 0 x.tm = false ∧ s = bw [] ∧ er = 1) ∨ (goodM 0 x.tm = true ∧ 1000 < (tmText 40 x.tm).length ∧ s = bw [] ∧ er = 4) ∨ (goodM 0 x.tm = true ∧ (tmText 40 x.tm).length ≤ 1000 ∧ s = bw (tmText 40 x.tm) ∧ er = 0)) ∧ Below W3.heap.size W3 w')) := by
    refine (print_any c W3 HX3.out.2.2.2.2.1 HX3.out.2.2.1 (ok_congr x c HX3.out.2.2.2.1.symm HX3.out.2.2.2.2.2.2.1).nb).mono ?_
    rintro e w' ⟨s, er, rfl, hb, h⟩
    rw [HX3.out.2.2.2.1] at h
    exact ⟨s, er, rfl, h, hb⟩
  obtain ⟨p0, p1, p2, p3, p4, p5, p6⟩ := h7.all
  clear hb3 hb13 h7 HX HI
  go_wp2_with fail
  rw [← hW3]
  clear hW3
  refine HC.out.mono ?_
  rintro e w4 ⟨s, er, rfl, HI⟩
  clear HC p0 p1 p2 p3 p4 p5 p6
  have HX4 : Hid (x.In w4 ∧ u.In w4 ∧ c.In w4 ∧ c.tm = x.tm ∧ Gl w4 ∧ Ta w4 ∧ x.ok 100000000 ∧ x.sz ≤ 1000000 ∧ Below w.heap.size w w4 ∧ At7 w4 (w.heap.size) 0 x ∧ At7 w4 (w2.heap.size) 0 c ∧ At7 w4 (w.heap.size + 1) 0 u) := ⟨HX3.out.1.below HI.out.2, HX3.out.2.1.below HI.out.2, HX3.out.2.2.1.below HI.out.2, HX3.out.2.2.2.1, HX3.out.2.2.2.2.1.below HI.out.2, HX3.out.2.2.2.2.2.1.below HI.out.2, HX3.out.2.2.2.2.2.2.1, HX3.out.2.2.2.2.2.2.2.1, HX3.out.2.2.2.2.2.2.2.2.1.trans (HI.out.2.mono HX3.out.2.2.2.2.2.2.2.2.1.size), HX3.out.2.2.2.2.2.2.2.2.2.1.below HI.out.2, HX3.out.2.2.2.2.2.2.2.2.2.2.1.below HI.out.2, HX3.out.2.2.2.2.2.2.2.2.2.2.2.below HI.out.2⟩
  have HC : Hid (Calls Tryz.prog 8 #[.agg #[.int .i64 x.k, .int .i64 x.n, .int .i64 x.t.k, .slice x.t.a x.t.l.length x.t.c, .int .i64 x.f.k, .slice x.f.a x.f.l.length x.f.c, .slice x.a x.l.length x.c]] w4 fun e w' => e = .returned (.tuple #[.string s, .int .i64 er]) ∧ Hid (Below w4.heap.size w4 w')) := by
    refine (printTerm_any x w4 HX4.out.2.2.2.2.2.1 HX4.out.1 (by have := HX4.out.2.2.2.2.2.2.2.1; omega) HX4.out.2.2.2.2.2.2.1).mono ?_
    rintro e w' ⟨s', er', rfl, hb, h⟩
    obtain ⟨rfl, rfl⟩ := pr_alike HI.out.1 h
    exact ⟨rfl, hb⟩
  obtain ⟨p0, p1, p2, p3, p4, p5, p6⟩ := HX4.out.2.2.2.2.2.2.2.2.2.1.all
  clear HI HX3
  go_upto_region 3 with fail
  go_wp2_with fail
  refine HC.out.mono ?_
  rintro e w5 ⟨rfl, HI⟩
  clear HC p0 p1 p2 p3 p4 p5 p6
  have HX5 : Hid (x.In w5 ∧ u.In w5 ∧ c.In w5 ∧ c.tm = x.tm ∧ Gl w5 ∧ Ta w5 ∧ x.ok 100000000 ∧ x.sz ≤ 1000000 ∧ Below w.heap.size w w5 ∧ At7 w5 (w.heap.size) 0 x ∧ At7 w5 (w2.heap.size) 0 c ∧ At7 w5 (w.heap.size + 1) 0 u) := ⟨HX4.out.1.below HI.out, HX4.out.2.1.below HI.out, HX4.out.2.2.1.below HI.out, HX4.out.2.2.2.1, HX4.out.2.2.2.2.1.below HI.out, HX4.out.2.2.2.2.2.1.below HI.out, HX4.out.2.2.2.2.2.2.1, HX4.out.2.2.2.2.2.2.2.1, HX4.out.2.2.2.2.2.2.2.2.1.trans (HI.out.mono HX4.out.2.2.2.2.2.2.2.2.1.size), HX4.out.2.2.2.2.2.2.2.2.2.1.below HI.out, HX4.out.2.2.2.2.2.2.2.2.2.2.1.below HI.out, HX4.out.2.2.2.2.2.2.2.2.2.2.2.below HI.out⟩
  clear HI HX4
  obtain ⟨gd, hgd⟩ : ∃ gd, goodM ar x.tm = gd := ⟨_, rfl⟩
  obtain ⟨nn, hnn⟩ : ∃ nn : Int, (x.sz : Int) = nn := ⟨_, rfl⟩
  have HA : Hid (∀ W, Below w5.heap.size w5 W → Calls Tryz.prog 9 #[.agg #[.int .i64 c.k, .int .i64 c.n, .int .i64 c.t.k, .slice c.t.a c.t.l.length c.t.c, .int .i64 c.f.k, .slice c.f.a c.f.l.length c.f.c, .slice c.a c.l.length c.c], .int .i64 ar] W fun e w' => e = .returned (.bool gd) ∧ Below W.heap.size W w') := fun W hb => by
    have := goodTm_any c ar W (HX5.out.2.2.2.2.1.below hb).gp (HX5.out.2.2.1.below hb) (ok_congr x c HX5.out.2.2.2.1.symm HX5.out.2.2.2.2.2.2.1).nb
    rw [HX5.out.2.2.2.1, hgd] at this
    exact this
  have HB : Hid (∀ W, Below w5.heap.size w5 W → Calls Tryz.prog 10 #[.agg #[.int .i64 x.k, .int .i64 x.n, .int .i64 x.t.k, .slice x.t.a x.t.l.length x.t.c, .int .i64 x.f.k, .slice x.f.a x.f.l.length x.f.c, .slice x.a x.l.length x.c], .int .i64 ar] W fun e w' => e = .returned (.bool gd) ∧ Below W.heap.size W w') := fun W hb => by
    have := isTerm_any x ar W (HX5.out.1.below hb) (by have := HX5.out.2.2.2.2.2.2.2.1; omega) HX5.out.2.2.2.2.2.2.1
    rw [hgd] at this
    exact this
  have HD : Hid (∀ W, Below w5.heap.size w5 W → Calls Tryz.prog 11 #[.agg #[.int .i64 c.k, .int .i64 c.n, .int .i64 c.t.k, .slice c.t.a c.t.l.length c.t.c, .int .i64 c.f.k, .slice c.f.a c.f.l.length c.f.c, .slice c.a c.l.length c.c]] W fun e w' => e = .returned (.int .i64 nn) ∧ Below W.heap.size W w') := fun W hb => by
    have hs : c.sz = x.sz := by rw [TT.sz_tm, HX5.out.2.2.2.1, ← TT.sz_tm]
    have := nodes_any c W (HX5.out.2.2.1.below hb) (by rw [hs]; exact HX5.out.2.2.2.2.2.2.2.1)
    rw [hs, hnn] at this
    exact this
  have HE : Hid (∀ W, Below w5.heap.size w5 W → Calls Tryz.prog 12 #[.agg #[.int .i64 x.k, .int .i64 x.n, .int .i64 x.t.k, .slice x.t.a x.t.l.length x.t.c, .int .i64 x.f.k, .slice x.f.a x.f.l.length x.f.c, .slice x.a x.l.length x.c]] W fun e w' => e = .returned (.int .i64 nn) ∧ Below W.heap.size W w') := fun W hb => by
    have := nodesOf_any x W (HX5.out.1.below hb) (by have := HX5.out.2.2.2.2.2.2.2.1; omega)
    rw [hnn] at this
    exact this
  have HF : Hid (∀ W, Below w5.heap.size w5 W → Calls Tryz.prog 13 #[.agg #[.int .i64 c.k, .int .i64 c.n, .int .i64 c.t.k, .slice c.t.a c.t.l.length c.t.c, .int .i64 c.f.k, .slice c.f.a c.f.l.length c.f.c, .slice c.a c.l.length c.c], .agg #[.int .i64 u.k, .int .i64 u.n, .int .i64 u.t.k, .slice u.t.a u.t.l.length u.t.c, .int .i64 u.f.k, .slice u.f.a u.f.l.length u.f.c, .slice u.a u.l.length u.c]] W fun e w' => ∃ r : Bool, e = .returned (.bool r) ∧ Hid (r = true ↔ x.tm = u.tm) ∧ Below W.heap.size W w') := fun W hb => by
    have hs : c.sz = x.sz := by rw [TT.sz_tm, HX5.out.2.2.2.1, ← TT.sz_tm]
    refine (sameTm_any c u W (HX5.out.2.2.1.below hb) (HX5.out.2.1.below hb) ((ok_congr x c HX5.out.2.2.2.1.symm HX5.out.2.2.2.2.2.2.1).csz (by omega)) (by rw [hs]; exact HX5.out.2.2.2.2.2.2.2.1)).mono ?_
    rintro e w' ⟨r, rfl, h1, h2⟩
    rw [HX5.out.2.2.2.1] at h1
    exact ⟨r, rfl, h1, h2⟩
  have HG : Hid (∀ (r : Bool) W, Hid (r = true ↔ x.tm = u.tm) → Below w5.heap.size w5 W → Calls Tryz.prog 14 #[.agg #[.int .i64 x.k, .int .i64 x.n, .int .i64 x.t.k, .slice x.t.a x.t.l.length x.t.c, .int .i64 x.f.k, .slice x.f.a x.f.l.length x.f.c, .slice x.a x.l.length x.c], .agg #[.int .i64 u.k, .int .i64 u.n, .int .i64 u.t.k, .slice u.t.a u.t.l.length u.t.c, .int .i64 u.f.k, .slice u.f.a u.f.l.length u.f.c, .slice u.a u.l.length u.c]] W fun e w' => e = .returned (.bool r) ∧ Below W.heap.size W w') := fun r W hr hb => by
    refine (sameTerm_any x u W (HX5.out.1.below hb) (HX5.out.2.1.below hb) (HX5.out.2.2.2.2.2.2.1.lw (by omega)) (HX5.out.2.2.2.2.2.2.1.tsm (by omega))).mono ?_
    rintro e w' ⟨b, rfl, h1, h2⟩
    have : b = r := Bool.eq_iff_iff.2 (h1.trans hr.out.symm)
    rw [this]
    exact ⟨rfl, h2⟩
  have HJ : Hid (∀ W, Below w5.heap.size w5 W → Calls Tryz.prog 14 #[.agg #[.int .i64 c.k, .int .i64 c.n, .int .i64 c.t.k, .slice c.t.a c.t.l.length c.t.c, .int .i64 c.f.k, .slice c.f.a c.f.l.length c.f.c, .slice c.a c.l.length c.c], .agg #[.int .i64 x.k, .int .i64 x.n, .int .i64 x.t.k, .slice x.t.a x.t.l.length x.t.c, .int .i64 x.f.k, .slice x.f.a x.f.l.length x.f.c, .slice x.a x.l.length x.c]] W fun e w' => e = .returned (.bool true) ∧ Below W.heap.size W w') := fun W hb =>
    sameTerm_yes c x W (HX5.out.2.2.1.below hb) (HX5.out.1.below hb) HX5.out.2.2.2.1 ((ok_congr x c HX5.out.2.2.2.1.symm HX5.out.2.2.2.2.2.2.1).lw (by omega)) ((ok_congr x c HX5.out.2.2.2.1.symm HX5.out.2.2.2.2.2.2.1).tsm (by omega))
  have HK : Hid (∀ W, Below w5.heap.size w5 W → Calls Tryz.prog 15 #[] W fun e w' => e = .returned (.bool true) ∧ Below W.heap.size W w') := fun W hb => terms_any W (HX5.out.2.2.2.2.1.below hb)
  have HSS : Hid (∀ W, Below w5.heap.size w5 W → (fun W : World => W.cell? ⟨w.heap.size, 0, none⟩ = some (.int .i64 x.k) ∧ W.cell? ⟨w.heap.size, 1, none⟩ = some (.int .i64 x.n) ∧ W.cell? ⟨w.heap.size, 2, none⟩ = some (.int .i64 x.t.k) ∧ W.cell? ⟨w.heap.size, 3, none⟩ = some (.slice x.t.a x.t.l.length x.t.c) ∧ W.cell? ⟨w.heap.size, 4, none⟩ = some (.int .i64 x.f.k) ∧ W.cell? ⟨w.heap.size, 5, none⟩ = some (.slice x.f.a x.f.l.length x.f.c) ∧ W.cell? ⟨w.heap.size, 6, none⟩ = some (.slice x.a x.l.length x.c) ∧ W.cell? ⟨w2.heap.size, 0, none⟩ = some (.int .i64 c.k) ∧ W.cell? ⟨w2.heap.size, 1, none⟩ = some (.int .i64 c.n) ∧ W.cell? ⟨w2.heap.size, 2, none⟩ = some (.int .i64 c.t.k) ∧ W.cell? ⟨w2.heap.size, 3, none⟩ = some (.slice c.t.a c.t.l.length c.t.c) ∧ W.cell? ⟨w2.heap.size, 4, none⟩ = some (.int .i64 c.f.k) ∧ W.cell? ⟨w2.heap.size, 5, none⟩ = some (.slice c.f.a c.f.l.length c.f.c) ∧ W.cell? ⟨w2.heap.size, 6, none⟩ = some (.slice c.a c.l.length c.c) ∧ W.cell? ⟨w.heap.size + 1, 0, none⟩ = some (.int .i64 u.k) ∧ W.cell? ⟨w.heap.size + 1, 1, none⟩ = some (.int .i64 u.n) ∧ W.cell? ⟨w.heap.size + 1, 2, none⟩ = some (.int .i64 u.t.k) ∧ W.cell? ⟨w.heap.size + 1, 3, none⟩ = some (.slice u.t.a u.t.l.length u.t.c) ∧ W.cell? ⟨w.heap.size + 1, 4, none⟩ = some (.int .i64 u.f.k) ∧ W.cell? ⟨w.heap.size + 1, 5, none⟩ = some (.slice u.f.a u.f.l.length u.f.c) ∧ W.cell? ⟨w.heap.size + 1, 6, none⟩ = some (.slice u.a u.l.length u.c)) W) := fun W hb => by
    obtain ⟨x0, x1, x2, x3, x4, x5, x6⟩ := (HX5.out.2.2.2.2.2.2.2.2.2.1.below hb).all
    obtain ⟨c0, c1, c2, c3, c4, c5, c6⟩ := (HX5.out.2.2.2.2.2.2.2.2.2.2.1.below hb).all
    obtain ⟨u0, u1, u2, u3, u4, u5, u6⟩ := (HX5.out.2.2.2.2.2.2.2.2.2.2.2.below hb).all
    exact ⟨x0, x1, x2, x3, x4, x5, x6, c0, c1, c2, c3, c4, c5, c6, u0, u1, u2, u3, u4, u5, u6⟩
  have HBW : Hid (Below w.heap.size w w5) := HX5.out.2.2.2.2.2.2.2.2.1
  clear hgd hnn HX5
  go_upto_region 4 with fail
  refine wp_region_held_drew (S := fun W : World => W.cell? ⟨w.heap.size, 0, none⟩ = some (.int .i64 x.k) ∧ W.cell? ⟨w.heap.size, 1, none⟩ = some (.int .i64 x.n) ∧ W.cell? ⟨w.heap.size, 2, none⟩ = some (.int .i64 x.t.k) ∧ W.cell? ⟨w.heap.size, 3, none⟩ = some (.slice x.t.a x.t.l.length x.t.c) ∧ W.cell? ⟨w.heap.size, 4, none⟩ = some (.int .i64 x.f.k) ∧ W.cell? ⟨w.heap.size, 5, none⟩ = some (.slice x.f.a x.f.l.length x.f.c) ∧ W.cell? ⟨w.heap.size, 6, none⟩ = some (.slice x.a x.l.length x.c) ∧ W.cell? ⟨w2.heap.size, 0, none⟩ = some (.int .i64 c.k) ∧ W.cell? ⟨w2.heap.size, 1, none⟩ = some (.int .i64 c.n) ∧ W.cell? ⟨w2.heap.size, 2, none⟩ = some (.int .i64 c.t.k) ∧ W.cell? ⟨w2.heap.size, 3, none⟩ = some (.slice c.t.a c.t.l.length c.t.c) ∧ W.cell? ⟨w2.heap.size, 4, none⟩ = some (.int .i64 c.f.k) ∧ W.cell? ⟨w2.heap.size, 5, none⟩ = some (.slice c.f.a c.f.l.length c.f.c) ∧ W.cell? ⟨w2.heap.size, 6, none⟩ = some (.slice c.a c.l.length c.c) ∧ W.cell? ⟨w.heap.size + 1, 0, none⟩ = some (.int .i64 u.k) ∧ W.cell? ⟨w.heap.size + 1, 1, none⟩ = some (.int .i64 u.n) ∧ W.cell? ⟨w.heap.size + 1, 2, none⟩ = some (.int .i64 u.t.k) ∧ W.cell? ⟨w.heap.size + 1, 3, none⟩ = some (.slice u.t.a u.t.l.length u.t.c) ∧ W.cell? ⟨w.heap.size + 1, 4, none⟩ = some (.int .i64 u.f.k) ∧ W.cell? ⟨w.heap.size + 1, 5, none⟩ = some (.slice u.f.a u.f.l.length u.f.c) ∧ W.cell? ⟨w.heap.size + 1, 6, none⟩ = some (.slice u.a u.l.length u.c)) (by kernel_rfl) (HSS.out _ ((Below.refl _ _).drew)) (fun hHeld => ?_)
  have Hd : Hid (Below w5.heap.size w5 w5.drew) := (Below.refl _ _).drew
  refine takeH (i := 0) (v := ?_) rfl (by kernel_rfl) (by kernel_rfl) (by kernel_rfl) (fun _ _ _ h => h) (Or.inl ⟨by rfl, ?_⟩) hHeld ?_; rotate_left; (focus (intro w' hSw; (try dsimp only at hSw); go_split_ands; first | (go_simp; done) | (go_simp; with_reducible rfl) | (go_simp; simp; done))); simp only [Act.put, List.setIfInBounds_toArray, List.set_cons_zero, List.set_cons_succ]
  refine takeH (i := 1) (v := ?_) rfl (by kernel_rfl) (by kernel_rfl) (by kernel_rfl) (fun _ _ _ h => h) (Or.inl ⟨by rfl, ?_⟩) hHeld ?_; rotate_left; (focus (intro w' hSw; (try dsimp only at hSw); go_split_ands; first | (go_simp; done) | (go_simp; with_reducible rfl) | (go_simp; simp; done))); simp only [Act.put, List.setIfInBounds_toArray, List.set_cons_zero, List.set_cons_succ]
  refine takeH (i := 3) (v := ?_) rfl (by kernel_rfl) (by kernel_rfl) (by kernel_rfl) (fun _ _ _ h => h) (Or.inl ⟨by rfl, ?_⟩) hHeld ?_; rotate_left; (focus (intro w' hSw; (try dsimp only at hSw); go_split_ands; first | (go_simp; done) | (go_simp; with_reducible rfl) | (go_simp; simp; done))); simp only [Act.put, List.setIfInBounds_toArray, List.set_cons_zero, List.set_cons_succ]
  refine takeH (i := 4) (v := ?_) rfl (by kernel_rfl) (by kernel_rfl) (by kernel_rfl) (fun _ _ _ h => h) (Or.inl ⟨by rfl, ?_⟩) hHeld ?_; rotate_left; (focus (intro w' hSw; (try dsimp only at hSw); go_split_ands; first | (go_simp; done) | (go_simp; with_reducible rfl) | (go_simp; simp; done))); simp only [Act.put, List.setIfInBounds_toArray, List.set_cons_zero, List.set_cons_succ]
  refine oneH (i := 2) rfl (by kernel_rfl) (fun K hK => ?_)
  go_simp
  go_at_call 9
  refine (HA.out _ Hd.out).mono ?_
  rintro e w6 ⟨rfl, hbw6⟩
  have Hw6 : Hid (Below w5.heap.size w5 w6) := Hd.out.trans (hbw6.mono Hd.out.size)
  clear hbw6
  refine hK.out _ _ (HSS.out _ Hw6.out) (fun hHeld => ?_)
  clear hK K
  refine oneH (i := 5) rfl (by kernel_rfl) (fun K hK => ?_)
  go_simp
  go_at_call 10
  refine (HB.out _ Hw6.out).mono ?_
  rintro e w7 ⟨rfl, hbw7⟩
  have Hw7 : Hid (Below w5.heap.size w5 w7) := Hw6.out.trans (hbw7.mono Hw6.out.size)
  clear hbw7
  refine hK.out _ _ (HSS.out _ Hw7.out) (fun hHeld => ?_)
  clear hK K
  refine takeH (i := 6) (v := .bool true) rfl (by kernel_rfl) (by kernel_rfl) (by kernel_rfl) (fun _ _ _ h => h) (Or.inl ⟨by rfl, ?_⟩) hHeld ?_; (focus (intro w' hSw; (try dsimp only at hSw); go_split_ands; first | (go_simp; done) | (go_simp; simp; done) | (simp [go_sem]; done))); simp only [Act.put, List.setIfInBounds_toArray, List.set_cons_zero, List.set_cons_succ]
  refine takeH (i := 7) (v := ?_) rfl (by kernel_rfl) (by kernel_rfl) (by kernel_rfl) (fun _ _ _ h => h) (Or.inl ⟨by rfl, ?_⟩) hHeld ?_; rotate_left; (focus (intro w' hSw; (try dsimp only at hSw); go_split_ands; first | (go_simp; done) | (go_simp; with_reducible rfl) | (go_simp; simp; done))); simp only [Act.put, List.setIfInBounds_toArray, List.set_cons_zero, List.set_cons_succ]
  refine takeH (i := 8) (v := ?_) rfl (by kernel_rfl) (by kernel_rfl) (by kernel_rfl) (fun _ _ _ h => h) (Or.inl ⟨by rfl, ?_⟩) hHeld ?_; rotate_left; (focus (intro w' hSw; (try dsimp only at hSw); go_split_ands; first | (go_simp; done) | (go_simp; with_reducible rfl) | (go_simp; simp; done))); simp only [Act.put, List.setIfInBounds_toArray, List.set_cons_zero, List.set_cons_succ]
  refine takeH (i := 10) (v := ?_) rfl (by kernel_rfl) (by kernel_rfl) (by kernel_rfl) (fun _ _ _ h => h) (Or.inl ⟨by rfl, ?_⟩) hHeld ?_; rotate_left; (focus (intro w' hSw; (try dsimp only at hSw); go_split_ands; first | (go_simp; done) | (go_simp; with_reducible rfl) | (go_simp; simp; done))); simp only [Act.put, List.setIfInBounds_toArray, List.set_cons_zero, List.set_cons_succ]
  refine oneH (i := 9) rfl (by kernel_rfl) (fun K hK => ?_)
  go_simp
  go_at_call 11
  refine (HD.out _ Hw7.out).mono ?_
  rintro e w8 ⟨rfl, hbw8⟩
  have Hw8 : Hid (Below w5.heap.size w5 w8) := Hw7.out.trans (hbw8.mono Hw7.out.size)
  clear hbw8
  refine hK.out _ _ (HSS.out _ Hw8.out) (fun hHeld => ?_)
  clear hK K
  refine oneH (i := 11) rfl (by kernel_rfl) (fun K hK => ?_)
  go_simp
  go_at_call 12
  refine (HE.out _ Hw8.out).mono ?_
  rintro e w9 ⟨rfl, hbw9⟩
  have Hw9 : Hid (Below w5.heap.size w5 w9) := Hw8.out.trans (hbw9.mono Hw8.out.size)
  clear hbw9
  refine hK.out _ _ (HSS.out _ Hw9.out) (fun hHeld => ?_)
  clear hK K
  refine takeH (i := 12) (v := .bool true) rfl (by kernel_rfl) (by kernel_rfl) (by kernel_rfl) (fun _ _ _ h => h) (Or.inl ⟨by rfl, ?_⟩) hHeld ?_; (focus (intro w' hSw; (try dsimp only at hSw); go_split_ands; first | (go_simp; done) | (go_simp; simp; done) | (simp [go_sem]; done))); simp only [Act.put, List.setIfInBounds_toArray, List.set_cons_zero, List.set_cons_succ]
  refine takeH (i := 13) (v := .bool true) rfl (by kernel_rfl) (by kernel_rfl) (by kernel_rfl) (fun _ _ _ h => h) (Or.inl ⟨by rfl, ?_⟩) hHeld ?_; (focus (intro w' hSw; (try dsimp only at hSw); go_split_ands; first | (go_simp; done) | (go_simp; simp; done) | (simp [go_sem]; done))); simp only [Act.put, List.setIfInBounds_toArray, List.set_cons_zero, List.set_cons_succ]
  refine takeH (i := 14) (v := ?_) rfl (by kernel_rfl) (by kernel_rfl) (by kernel_rfl) (fun _ _ _ h => h) (Or.inl ⟨by rfl, ?_⟩) hHeld ?_; rotate_left; (focus (intro w' hSw; (try dsimp only at hSw); go_split_ands; first | (go_simp; done) | (go_simp; with_reducible rfl) | (go_simp; simp; done))); simp only [Act.put, List.setIfInBounds_toArray, List.set_cons_zero, List.set_cons_succ]
  refine takeH (i := 15) (v := ?_) rfl (by kernel_rfl) (by kernel_rfl) (by kernel_rfl) (fun _ _ _ h => h) (Or.inl ⟨by rfl, ?_⟩) hHeld ?_; rotate_left; (focus (intro w' hSw; (try dsimp only at hSw); go_split_ands; first | (go_simp; done) | (go_simp; with_reducible rfl) | (go_simp; simp; done))); simp only [Act.put, List.setIfInBounds_toArray, List.set_cons_zero, List.set_cons_succ]
  refine takeH (i := 16) (v := ?_) rfl (by kernel_rfl) (by kernel_rfl) (by kernel_rfl) (fun _ _ _ h => h) (Or.inl ⟨by rfl, ?_⟩) hHeld ?_; rotate_left; (focus (intro w' hSw; (try dsimp only at hSw); go_split_ands; first | (go_simp; done) | (go_simp; with_reducible rfl) | (go_simp; simp; done))); simp only [Act.put, List.setIfInBounds_toArray, List.set_cons_zero, List.set_cons_succ]
  refine takeH (i := 18) (v := ?_) rfl (by kernel_rfl) (by kernel_rfl) (by kernel_rfl) (fun _ _ _ h => h) (Or.inl ⟨by rfl, ?_⟩) hHeld ?_; rotate_left; (focus (intro w' hSw; (try dsimp only at hSw); go_split_ands; first | (go_simp; done) | (go_simp; with_reducible rfl) | (go_simp; simp; done))); simp only [Act.put, List.setIfInBounds_toArray, List.set_cons_zero, List.set_cons_succ]
  refine takeH (i := 19) (v := ?_) rfl (by kernel_rfl) (by kernel_rfl) (by kernel_rfl) (fun _ _ _ h => h) (Or.inl ⟨by rfl, ?_⟩) hHeld ?_; rotate_left; (focus (intro w' hSw; (try dsimp only at hSw); go_split_ands; first | (go_simp; done) | (go_simp; with_reducible rfl) | (go_simp; simp; done))); simp only [Act.put, List.setIfInBounds_toArray, List.set_cons_zero, List.set_cons_succ]
  refine oneH (i := 17) rfl (by kernel_rfl) (fun K hK => ?_)
  go_simp
  go_at_call 13
  refine (HF.out _ Hw9.out).mono ?_
  rintro e w10 ⟨r, rfl, HR, hbw10⟩
  have Hw10 : Hid (Below w5.heap.size w5 w10) := Hw9.out.trans (hbw10.mono Hw9.out.size)
  clear hbw10
  refine hK.out _ _ (HSS.out _ Hw10.out) (fun hHeld => ?_)
  clear hK K
  refine oneH (i := 20) rfl (by kernel_rfl) (fun K hK => ?_)
  go_simp
  go_at_call 14
  refine (HG.out r _ HR Hw10.out).mono ?_
  rintro e w11 ⟨rfl, hbw11⟩
  have Hw11 : Hid (Below w5.heap.size w5 w11) := Hw10.out.trans (hbw11.mono Hw10.out.size)
  clear hbw11
  refine hK.out _ _ (HSS.out _ Hw11.out) (fun hHeld => ?_)
  clear hK K
  refine takeH (i := 21) (v := .bool true) rfl (by kernel_rfl) (by kernel_rfl) (by kernel_rfl) (fun _ _ _ h => h) (Or.inl ⟨by rfl, ?_⟩) hHeld ?_; (focus (intro w' hSw; (try dsimp only at hSw); go_split_ands; first | (go_simp; done) | (go_simp; simp; done) | (simp [go_sem]; done))); simp only [Act.put, List.setIfInBounds_toArray, List.set_cons_zero, List.set_cons_succ]
  refine takeH (i := 22) (v := .bool true) rfl (by kernel_rfl) (by kernel_rfl) (by kernel_rfl) (fun _ _ _ h => h) (Or.inl ⟨by rfl, ?_⟩) hHeld ?_; (focus (intro w' hSw; (try dsimp only at hSw); go_split_ands; first | (go_simp; done) | (go_simp; simp; done) | (simp [go_sem]; done))); simp only [Act.put, List.setIfInBounds_toArray, List.set_cons_zero, List.set_cons_succ]
  refine takeH (i := 23) (v := ?_) rfl (by kernel_rfl) (by kernel_rfl) (by kernel_rfl) (fun _ _ _ h => h) (Or.inl ⟨by rfl, ?_⟩) hHeld ?_; rotate_left; (focus (intro w' hSw; (try dsimp only at hSw); go_split_ands; first | (go_simp; done) | (go_simp; with_reducible rfl) | (go_simp; simp; done))); simp only [Act.put, List.setIfInBounds_toArray, List.set_cons_zero, List.set_cons_succ]
  refine takeH (i := 24) (v := ?_) rfl (by kernel_rfl) (by kernel_rfl) (by kernel_rfl) (fun _ _ _ h => h) (Or.inl ⟨by rfl, ?_⟩) hHeld ?_; rotate_left; (focus (intro w' hSw; (try dsimp only at hSw); go_split_ands; first | (go_simp; done) | (go_simp; with_reducible rfl) | (go_simp; simp; done))); simp only [Act.put, List.setIfInBounds_toArray, List.set_cons_zero, List.set_cons_succ]
  refine takeH (i := 25) (v := ?_) rfl (by kernel_rfl) (by kernel_rfl) (by kernel_rfl) (fun _ _ _ h => h) (Or.inl ⟨by rfl, ?_⟩) hHeld ?_; rotate_left; (focus (intro w' hSw; (try dsimp only at hSw); go_split_ands; first | (go_simp; done) | (go_simp; with_reducible rfl) | (go_simp; simp; done))); simp only [Act.put, List.setIfInBounds_toArray, List.set_cons_zero, List.set_cons_succ]
  refine takeH (i := 26) (v := .bool true) rfl (by kernel_rfl) (by kernel_rfl) (by kernel_rfl) (fun _ _ _ h => h) (Or.inl ⟨by rfl, ?_⟩) hHeld ?_; (focus (intro w' hSw; (try dsimp only at hSw); go_split_ands; first | (go_simp; done) | (go_simp; simp; done) | (simp [go_sem]; done))); simp only [Act.put, List.setIfInBounds_toArray, List.set_cons_zero, List.set_cons_succ]
  refine takeH (i := 27) (v := .bool true) rfl (by kernel_rfl) (by kernel_rfl) (by kernel_rfl) (fun _ _ _ h => h) (Or.inl ⟨by rfl, ?_⟩) hHeld ?_; (focus (intro w' hSw; (try dsimp only at hSw); go_split_ands; first | (go_simp; done) | (go_simp; simp; done) | (simp [go_sem]; done))); simp only [Act.put, List.setIfInBounds_toArray, List.set_cons_zero, List.set_cons_succ]
  refine takeH (i := 28) (v := ?_) rfl (by kernel_rfl) (by kernel_rfl) (by kernel_rfl) (fun _ _ _ h => h) (Or.inl ⟨by rfl, ?_⟩) hHeld ?_; rotate_left; (focus (intro w' hSw; (try dsimp only at hSw); go_split_ands; first | (go_simp; done) | (go_simp; with_reducible rfl) | (go_simp; simp; done))); simp only [Act.put, List.setIfInBounds_toArray, List.set_cons_zero, List.set_cons_succ]
  refine takeH (i := 29) (v := ?_) rfl (by kernel_rfl) (by kernel_rfl) (by kernel_rfl) (fun _ _ _ h => h) (Or.inl ⟨by rfl, ?_⟩) hHeld ?_; rotate_left; (focus (intro w' hSw; (try dsimp only at hSw); go_split_ands; first | (go_simp; done) | (go_simp; with_reducible rfl) | (go_simp; simp; done))); simp only [Act.put, List.setIfInBounds_toArray, List.set_cons_zero, List.set_cons_succ]
  refine takeH (i := 30) (v := ?_) rfl (by kernel_rfl) (by kernel_rfl) (by kernel_rfl) (fun _ _ _ h => h) (Or.inl ⟨by rfl, ?_⟩) hHeld ?_; rotate_left; (focus (intro w' hSw; (try dsimp only at hSw); go_split_ands; first | (go_simp; done) | (go_simp; with_reducible rfl) | (go_simp; simp; done))); simp only [Act.put, List.setIfInBounds_toArray, List.set_cons_zero, List.set_cons_succ]
  refine takeH (i := 31) (v := .bool true) rfl (by kernel_rfl) (by kernel_rfl) (by kernel_rfl) (fun _ _ _ h => h) (Or.inl ⟨by rfl, ?_⟩) hHeld ?_; (focus (intro w' hSw; (try dsimp only at hSw); go_split_ands; first | (go_simp; done) | (go_simp; simp; done) | (simp [go_sem]; done))); simp only [Act.put, List.setIfInBounds_toArray, List.set_cons_zero, List.set_cons_succ]
  refine takeH (i := 32) (v := .bool true) rfl (by kernel_rfl) (by kernel_rfl) (by kernel_rfl) (fun _ _ _ h => h) (Or.inl ⟨by rfl, ?_⟩) hHeld ?_; (focus (intro w' hSw; (try dsimp only at hSw); go_split_ands; first | (go_simp; done) | (go_simp; simp; done) | (simp [go_sem]; done))); simp only [Act.put, List.setIfInBounds_toArray, List.set_cons_zero, List.set_cons_succ]
  refine takeH (i := 33) (v := ?_) rfl (by kernel_rfl) (by kernel_rfl) (by kernel_rfl) (fun _ _ _ h => h) (Or.inl ⟨by rfl, ?_⟩) hHeld ?_; rotate_left; (focus (intro w' hSw; (try dsimp only at hSw); go_split_ands; first | (go_simp; done) | (go_simp; with_reducible rfl) | (go_simp; simp; done))); simp only [Act.put, List.setIfInBounds_toArray, List.set_cons_zero, List.set_cons_succ]
  refine takeH (i := 34) (v := ?_) rfl (by kernel_rfl) (by kernel_rfl) (by kernel_rfl) (fun _ _ _ h => h) (Or.inl ⟨by rfl, ?_⟩) hHeld ?_; rotate_left; (focus (intro w' hSw; (try dsimp only at hSw); go_split_ands; first | (go_simp; done) | (go_simp; with_reducible rfl) | (go_simp; simp; done))); simp only [Act.put, List.setIfInBounds_toArray, List.set_cons_zero, List.set_cons_succ]
  refine takeH (i := 35) (v := ?_) rfl (by kernel_rfl) (by kernel_rfl) (by kernel_rfl) (fun _ _ _ h => h) (Or.inl ⟨by rfl, ?_⟩) hHeld ?_; rotate_left; (focus (intro w' hSw; (try dsimp only at hSw); go_split_ands; first | (go_simp; done) | (go_simp; with_reducible rfl) | (go_simp; simp; done))); simp only [Act.put, List.setIfInBounds_toArray, List.set_cons_zero, List.set_cons_succ]
  refine oneH (i := 36) rfl (by kernel_rfl) (fun K hK => ?_)
  go_simp
  go_at_call 14
  refine (HJ.out _ Hw11.out).mono ?_
  rintro e w12 ⟨rfl, hbw12⟩
  have Hw12 : Hid (Below w5.heap.size w5 w12) := Hw11.out.trans (hbw12.mono Hw11.out.size)
  clear hbw12
  refine hK.out _ _ (HSS.out _ Hw12.out) (fun hHeld => ?_)
  clear hK K
  refine takeH (i := 37) (v := .bool true) rfl (by kernel_rfl) (by kernel_rfl) (by kernel_rfl) (fun _ _ _ h => h) (Or.inl ⟨by rfl, ?_⟩) hHeld ?_; (focus (intro w' hSw; (try dsimp only at hSw); go_split_ands; first | (go_simp; done) | (go_simp; simp; done) | (simp [go_sem]; done))); simp only [Act.put, List.setIfInBounds_toArray, List.set_cons_zero, List.set_cons_succ]
  refine takeH (i := 38) (v := ?_) rfl (by kernel_rfl) (by kernel_rfl) (by kernel_rfl) (fun _ _ _ h => h) (Or.inl ⟨by rfl, ?_⟩) hHeld ?_; rotate_left; (focus (intro w' hSw; (try dsimp only at hSw); go_split_ands; first | (go_simp; done) | (go_simp; with_reducible rfl) | (go_simp; simp; done))); simp only [Act.put, List.setIfInBounds_toArray, List.set_cons_zero, List.set_cons_succ]
  refine oneH (i := 39) rfl (by kernel_rfl) (fun K hK => ?_)
  go_simp
  go_at_call 15
  refine (HK.out _ Hw12.out).mono ?_
  rintro e w13 ⟨rfl, hbw13⟩
  have Hw13 : Hid (Below w5.heap.size w5 w13) := Hw12.out.trans (hbw13.mono Hw12.out.size)
  clear hbw13
  refine hK.out _ _ (HSS.out _ Hw13.out) (fun hHeld => ?_)
  clear hK K
  refine takeH (i := 40) (v := .bool true) rfl (by kernel_rfl) (by kernel_rfl) (by kernel_rfl) (fun _ _ _ h => h) (Or.inl ⟨by rfl, ?_⟩) hHeld ?_; (focus (intro w' hSw; (try dsimp only at hSw); go_split_ands; first | (go_simp; done) | (go_simp; simp; done) | (simp [go_sem]; done))); simp only [Act.put, List.setIfInBounds_toArray, List.set_cons_zero, List.set_cons_succ]
  refine takeH (i := 41) (v := ?_) rfl (by kernel_rfl) (by kernel_rfl) (by kernel_rfl) (fun _ _ _ h => h) (Or.inl ⟨by rfl, ?_⟩) hHeld ?_; rotate_left; (focus (intro w' hSw; (try dsimp only at hSw); go_split_ands; first | (go_simp; done) | (go_simp; with_reducible rfl) | (go_simp; simp; done))); simp only [Act.put, List.setIfInBounds_toArray, List.set_cons_zero, List.set_cons_succ]
  refine wpAnyH_done (by kernel_rfl) ?_ _
  have HN : Hid (Below w.heap.size w w13) := HBW.out.trans (Hw13.out.mono HBW.out.size)
  clear HSS hHeld
  go_wp2_with fail
  refine bodyPost_ret (v := .bool true) ?_ rfl ⟨rfl, HN.out⟩
  simp [results, Tryz.results3, go_sem]
end Go.Proofs.YtnddkmccagiclaaGreatDoor

/-
  Whatever can be read as data of the type 'Type{Kind int, L []Type}' is a tree that lies in memory.
-/
namespace Go.Proofs.YtnddkmccagiclaaGreatDoor
open Go.ChangeShapes Go.WideShapes Go.ChangeAt Go.RowKit

theorem Tryz.cells24 : Tryz.prog.cellsOf 24 = 2 := by kernel_rfl
theorem Tryz.cells22 : Tryz.prog.cellsOf 22 = 1 := by kernel_rfl
theorem Tryz.cells3 : Tryz.prog.cellsOf 3 = 1 := by kernel_rfl

theorem cell_spot {w : World} {a : Addr} {v : Value} (h : w.cell? a = some v) : a = ⟨a.block, a.off, none⟩ := by
  obtain ⟨b, o, s⟩ := a
  cases s with
  | none => rfl
  | some s =>
    unfold World.cell? at h
    split at h <;> simp at h

theorem cellsTwo {w : World} {base : Nat} {a : Addr} {u v : Value} (h : w.cells? base a 2 = some [u, v]) : w.cell? a = some u ∧ w.cell? (a.add 1) = some v := by
  unfold World.cells? at h
  split at h
  · have h0 : a.add 0 = a := by simp [Addr.add]
    simp only [List.range_succ, List.range_zero, List.nil_append, List.cons_append, List.mapM_cons, List.mapM_nil, h0] at h
    cases hu : w.cell? a with
    | none => simp [hu] at h
    | some u' =>
      cases hv : w.cell? (a.add 1) with
      | none => simp [hu, hv] at h
      | some v' =>
        simp [hu, hv] at h
        exact ⟨by rw [h.1], by rw [h.2]⟩
  · cases h

set_option maxRecDepth 100000 in
theorem tr_of {H : Type} {enc : TypeId × Value → H} {W : World} {base : Nat} {spare : Nat → Bool} {held : Bool} : ∀ (fuel : Nat) (cs : List Value) (x : DataW H × List MemPlace),
    DataW.trod enc Tryz.prog W base spare held fuel 24 cs = some x → ∃ t : Tr, cs = [.int .i64 t.k, .slice t.a t.l.length t.c] ∧ t.In W := by
  intro fuel
  induction fuel using Nat.strongRecOn with
  | _ fuel ih =>
    intro cs x h
    obtain ⟨xs, n, rfl, _, hl, hlen, hf⟩ := DataW.trod_struct Tryz.underlying24 h
    rw [Tryz.cells24] at hl
    match cs, hl with
    | [c0, c1], _ =>
      have h0 := hf 0 { name := "Kind", type := 3, offset := 0, embedded := false, tag := "", pkgPath := "", byteOffset := 0 } rfl
      have h1 := hf 1 { name := "L", type := 22, offset := 1, embedded := false, tag := "", pkgPath := "", byteOffset := 8 } rfl
      simp only [List.drop_zero, List.drop_succ_cons, Tryz.cells3, Tryz.cells22, List.take_succ_cons, List.take_zero] at h0 h1
      match xs, hlen with
      | [y0, y1], _ =>
        simp only [List.getElem?_cons_zero, List.getElem?_cons_succ] at h0 h1
        obtain ⟨k, hc0, _, _⟩ := DataW.trod_int Tryz.underlying3 h0
        simp only [List.cons.injEq, and_true] at hc0
        subst hc0
        rcases DataW.trod_slice Tryz.underlying22 h1 with ⟨hc1, _⟩ | ⟨a, len, cap, elems, rest, m, rfl, hc1, _, _, _, _, hel, hat, _⟩
        · simp only [List.cons.injEq, and_true] at hc1
          subst hc1
          exact ⟨.mk k none 0 [], rfl, Tr.In_nil _ _ _ _⟩
        · simp only [List.cons.injEq, and_true] at hc1
          subst hc1
          have hex : ∀ i, i < len → ∃ t : Tr, W.cells? base (a.add (i * 2)) 2 = some [.int .i64 t.k, .slice t.a t.l.length t.c] ∧ t.In W := by
            intro i hi
            have hi' := hat i hi
            rw [Tryz.cells24, List.getElem?_eq_getElem (by omega)] at hi'
            obtain ⟨cs', hcs, htr⟩ := Option.bind_eq_some_iff.1 hi'
            obtain ⟨t, rfl, hin⟩ := ih m (by omega) cs' _ htr
            exact ⟨t, hcs, hin⟩
          haveI : Inhabited Tr := ⟨.mk 0 none 0 []⟩
          obtain ⟨T, hT⟩ := Go.Deep.choose_lt hex
          refine ⟨.mk k (some a) cap ((List.range len).map T), by simp, ?_⟩
          refine Tr.In_mk.2 ⟨fun j hj => ?_, fun t ht => ?_⟩
          rotate_left
          · obtain ⟨i, hi, rfl⟩ := List.mem_map.1 ht
            exact (hT i (by simpa using hi)).2
          have hj' : j < len := by simpa using hj
          obtain ⟨hz, _⟩ := cellsTwo (hT 0 (by omega)).1
          simp only [Nat.zero_mul] at hz
          have ha0 : a.add 0 = a := by simp [Addr.add]
          rw [ha0] at hz
          have ha := cell_spot hz
          have hc := (hT j hj').1
          obtain ⟨c0, c1⟩ := cellsTwo hc
          have hadd : ∀ q, a.add q = ⟨a.block, a.off + q, none⟩ := by
            intro q
            rw [ha]
            unfold Addr.add
            by_cases hq : q = 0 <;> simp [hq]
          refine ⟨a.block, a.off, by rw [← ha], ?_, ?_⟩
          · rw [hadd] at c0
            simpa using c0
          · rw [Go.Deep.add_add, hadd] at c1
            simp only [List.getElem_map, List.getElem_range, Tr.sl]
            rw [show a.off + j * 2 + 1 = a.off + (j * 2 + 1) by omega]
            exact c1

set_option maxRecDepth 100000 in
/-- An argument of the type is a tree. -/
theorem tr_arg {H : Type} {enc : TypeId × Value → H} {W : World} {base b0 : Nat} {spare : Nat → Bool} {held : Bool} {r : Reach} {v : Value} {d : DataW H} {p : List MemPlace} (hv : Value.okWide Tryz.prog W r b0 24 v) (h : DataW.Trod enc Tryz.prog W base spare held 24 v d p) :
    ∃ t : Tr, v = .agg #[.int .i64 t.k, .slice t.a t.l.length t.c] ∧ t.In W := by
  obtain ⟨cs, rfl, _⟩ := okWide_struct Tryz.underlying24 hv
  obtain ⟨fuel, hf⟩ := h
  obtain ⟨t, ht, hin⟩ := tr_of fuel _ _ hf
  refine ⟨t, ?_, hin⟩
  have : cs.toList = [.int .i64 t.k, .slice t.a t.l.length t.c] := by simpa [Value.cells] using ht
  rw [← this]
end Go.Proofs.YtnddkmccagiclaaGreatDoor

/-
  Whatever can be read as data of the type 'Term' is a term's tree that lies in memory.
-/
namespace Go.Proofs.YtnddkmccagiclaaGreatDoor
open Go.ChangeShapes Go.WideShapes Go.ChangeAt Go.RowKit

theorem Tryz.cells27 : Tryz.prog.cellsOf 27 = 7 := by kernel_rfl
theorem Tryz.cells25 : Tryz.prog.cellsOf 25 = 1 := by kernel_rfl

theorem cells_seven {w : World} {base : Nat} {a : Addr} {l : List Value} (h : w.cells? base a 7 = some l) : ∀ i, i < 7 → w.cell? (a.add i) = l[i]? := by
  unfold World.cells? at h
  split at h
  · intro i hi
    have hm := Lib.mapM_at h i i (by simp [hi])
    obtain ⟨b, hb, hf⟩ := hm
    rw [hb]
    exact hf
  · cases h

theorem int_le {n : Int} (h : (Lit.int .i64 n).wf = true) : n ≤ 9223372036854775807 := (bounds_i64 h).2

set_option maxRecDepth 100000 in
theorem tm_of {H : Type} {enc : TypeId × Value → H} {W : World} {base : Nat} {spare : Nat → Bool} {held : Bool} : ∀ (fuel : Nat) (cs : List Value) (x : DataW H × List MemPlace),
    DataW.trod enc Tryz.prog W base spare held fuel 27 cs = some x → ∃ t : TT, cs = [.int .i64 t.k, .int .i64 t.n, .int .i64 t.t.k, .slice t.t.a t.t.l.length t.t.c, .int .i64 t.f.k, .slice t.f.a t.f.l.length t.f.c, .slice t.a t.l.length t.c] ∧ t.In W ∧ t.nb := by
  intro fuel
  induction fuel using Nat.strongRecOn with
  | _ fuel ih =>
    intro cs x h
    obtain ⟨xs, n, rfl, _, hl, hlen, hf⟩ := DataW.trod_struct Tryz.underlying27 h
    rw [Tryz.cells27] at hl
    match cs, hl with
    | [c0, c1, c2, c3, c4, c5, c6], _ =>
      have h0 := hf 0 { name := "Kind", type := 3, offset := 0, embedded := false, tag := "", pkgPath := "", byteOffset := 0 } rfl
      have h1 := hf 1 { name := "N", type := 3, offset := 1, embedded := false, tag := "", pkgPath := "", byteOffset := 8 } rfl
      have h2 := hf 2 { name := "T", type := 24, offset := 2, embedded := false, tag := "", pkgPath := "", byteOffset := 16 } rfl
      have h3 := hf 3 { name := "From", type := 24, offset := 4, embedded := false, tag := "", pkgPath := "", byteOffset := 48 } rfl
      have h4 := hf 4 { name := "L", type := 25, offset := 6, embedded := false, tag := "", pkgPath := "", byteOffset := 80 } rfl
      simp only [List.drop_zero, List.drop_succ_cons, Tryz.cells3, Tryz.cells24, Tryz.cells25, List.take_succ_cons, List.take_zero] at h0 h1 h2 h3 h4
      match xs, hlen with
      | [y0, y1, y2, y3, y4], _ =>
        simp only [List.getElem?_cons_zero, List.getElem?_cons_succ] at h0 h1 h2 h3 h4
        obtain ⟨k, hc0, _, _⟩ := DataW.trod_int Tryz.underlying3 h0
        obtain ⟨nn, hc1, _, hwf⟩ := DataW.trod_int Tryz.underlying3 h1
        obtain ⟨t, hc2, ht⟩ := tr_of n _ _ h2
        obtain ⟨f, hc4, hfi⟩ := tr_of n _ _ h3
        simp only [List.cons.injEq, and_true] at hc0 hc1 hc2 hc4
        obtain ⟨rfl, rfl⟩ := hc2
        obtain ⟨rfl, rfl⟩ := hc4
        subst hc0 hc1
        rcases DataW.trod_slice Tryz.underlying25 h4 with ⟨hc6, _⟩ | ⟨a, len, cap, elems, rest, m, rfl, hc6, _, _, _, _, hel, hat, _⟩
        · simp only [List.cons.injEq, and_true] at hc6
          subst hc6
          exact ⟨.mk k nn t f none 0 [], rfl, TT.In_mk.2 ⟨ht, hfi, fun j h => absurd h (by simp), fun t h => by cases h⟩, TT.nb_mk.2 ⟨int_le hwf, fun t h => by cases h⟩⟩
        · simp only [List.cons.injEq, and_true] at hc6
          subst hc6
          have hex : ∀ i, i < len → ∃ t : TT, W.cells? base (a.add (i * 7)) 7 = some [.int .i64 t.k, .int .i64 t.n, .int .i64 t.t.k, .slice t.t.a t.t.l.length t.t.c, .int .i64 t.f.k, .slice t.f.a t.f.l.length t.f.c, .slice t.a t.l.length t.c] ∧ t.In W ∧ t.nb := by
            intro i hi
            have hi' := hat i hi
            rw [Tryz.cells27, List.getElem?_eq_getElem (by omega)] at hi'
            obtain ⟨cs', hcs, htr⟩ := Option.bind_eq_some_iff.1 hi'
            obtain ⟨t, rfl, hin⟩ := ih m (by omega) cs' _ htr
            exact ⟨t, hcs, hin⟩
          haveI : Inhabited TT := ⟨tleaf 0 0⟩
          obtain ⟨T, hT⟩ := Go.Deep.choose_lt hex
          refine ⟨.mk k nn t f (some a) cap ((List.range len).map T), by simp, ?_, ?_⟩
          · refine TT.In_mk.2 ⟨ht, hfi, fun j hj => ?_, fun t ht => ?_⟩
            rotate_left
            · obtain ⟨i, hi, rfl⟩ := List.mem_map.1 ht
              exact (hT i (by simpa using hi)).2.1
            have hj' : j < len := by simpa using hj
            have hz := cells_seven (hT 0 (by omega)).1 0 (by omega)
            simp only [Nat.zero_mul, List.getElem?_cons_zero] at hz
            have ha0 : (a.add 0).add 0 = a := by simp [Addr.add]
            rw [ha0] at hz
            have ha := cell_spot hz
            have hc := cells_seven (hT j hj').1
            have hadd : ∀ q, a.add q = ⟨a.block, a.off + q, none⟩ := by
              intro q
              rw [ha]
              unfold Addr.add
              by_cases hq : q = 0 <;> simp [hq]
            have hat7 : ∀ i, i < 7 → W.cell? ⟨a.block, a.off + j * 7 + i, none⟩ = [Value.int .i64 (T j).k, .int .i64 (T j).n, .int .i64 (T j).t.k, .slice (T j).t.a (T j).t.l.length (T j).t.c, .int .i64 (T j).f.k, .slice (T j).f.a (T j).f.l.length (T j).f.c, .slice (T j).a (T j).l.length (T j).c][i]? := by
              intro i hi
              have := hc i hi
              rw [Go.Deep.add_add, hadd] at this
              rw [show a.off + j * 7 + i = a.off + (j * 7 + i) by omega]
              exact this
            refine ⟨a.block, a.off, by rw [← ha], ?_⟩
            simp only [List.getElem_map, List.getElem_range]
            exact ⟨hat7 0 (by omega), hat7 1 (by omega), hat7 2 (by omega), hat7 3 (by omega), hat7 4 (by omega), hat7 5 (by omega), hat7 6 (by omega)⟩
          · refine TT.nb_mk.2 ⟨int_le hwf, fun t ht => ?_⟩
            obtain ⟨i, hi, rfl⟩ := List.mem_map.1 ht
            exact (hT i (by simpa using hi)).2.2

set_option maxRecDepth 100000 in
/-- An argument of the type is a term's tree. -/
theorem tm_arg {H : Type} {enc : TypeId × Value → H} {W : World} {base b0 : Nat} {spare : Nat → Bool} {held : Bool} {r : Reach} {v : Value} {d : DataW H} {p : List MemPlace} (hv : Value.okWide Tryz.prog W r b0 27 v) (h : DataW.Trod enc Tryz.prog W base spare held 27 v d p) :
    ∃ t : TT, v = .agg #[.int .i64 t.k, .int .i64 t.n, .int .i64 t.t.k, .slice t.t.a t.t.l.length t.t.c, .int .i64 t.f.k, .slice t.f.a t.f.l.length t.f.c, .slice t.a t.l.length t.c] ∧ t.In W ∧ t.nb := by
  obtain ⟨cs, rfl, _⟩ := okWide_struct Tryz.underlying27 hv
  obtain ⟨fuel, hf⟩ := h
  obtain ⟨t, ht, hin⟩ := tm_of fuel _ _ hf
  refine ⟨t, ?_, hin⟩
  have : cs.toList = [.int .i64 t.k, .int .i64 t.n, .int .i64 t.t.k, .slice t.t.a t.t.l.length t.t.c, .int .i64 t.f.k, .slice t.f.a t.f.l.length t.f.c, .slice t.a t.l.length t.c] := by simpa [Value.cells] using ht
  rw [← this]
end Go.Proofs.YtnddkmccagiclaaGreatDoor
