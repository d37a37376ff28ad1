/-
  What the call of chaperonelaw.CheckTells answers.
-/
import Derived.Test.YtnddkmccagiclaaDoorLotdee32ab9f6
import Derived.Test.YtnddkmccagiclaaDoorLot3d7148d9f5
import Derived.Test.YtnddkmccagiclaaDoorLot399be131de
namespace Go.Proofs.YtnddkmccagiclaaDoor
open Go.RowKit
theorem tsm_bare : ∀ x : Tm, bareM x → tsmM x := by
  intro x
  induction x using Tm.ind with
  | h k n t f l ih =>
    intro h
    obtain ⟨rfl, rfl, h3⟩ := bareM_mk.1 h
    exact tsmM_mk.2 ⟨sm_good 1 anyY rfl, sm_good 1 anyY rfl, fun y hy => ih y hy (h3 y hy)⟩
/-- The boxes of the law, the term's, the copy's and the two checkers'. -/
structure LB (B C Y Z : Nat) (x c y z : TT) (i j : Tr) (W : World) : Prop where
  x : At7 W B 0 x
  c : At7 W C 0 c
  y : At7 W Y 0 y
  i : W.cell? ⟨Y + 1, 0, none⟩ = some (.int .i64 i.k) ∧ W.cell? ⟨Y + 1, 1, none⟩ = some (.slice i.a i.l.length i.c)
  z : At7 W Z 0 z
  j : W.cell? ⟨Z + 1, 0, none⟩ = some (.int .i64 j.k) ∧ W.cell? ⟨Z + 1, 1, none⟩ = some (.slice j.a j.l.length j.c)
theorem LB.below {B C Y Z : Nat} {x c y z : TT} {i j : Tr} {W V : World} (h : LB B C Y Z x c y z i j W) (hb : Below W.heap.size W V) : LB B C Y Z x c y z i j V := by
  have l1 : Y + 1 < W.heap.size := World.block_lt_of_cell? _ _ h.i.1
  have l2 : Z + 1 < W.heap.size := World.block_lt_of_cell? _ _ h.j.1
  exact ⟨h.x.below hb, h.c.below hb, h.y.below hb, ⟨(hb.cell (p := ⟨Y + 1, 0, none⟩) l1).trans h.i.1, (hb.cell (p := ⟨Y + 1, 1, none⟩) l1).trans h.i.2⟩, h.z.below hb, ⟨(hb.cell (p := ⟨Z + 1, 0, none⟩) l2).trans h.j.1, (hb.cell (p := ⟨Z + 1, 1, none⟩) l2).trans h.j.2⟩⟩
theorem At7.all {W : World} {b : Nat} {x : TT} (h : At7 W b 0 x) : W.cell? ⟨b, 0, none⟩ = some (.int .i64 x.k) ∧ W.cell? ⟨b, 1, none⟩ = some (.int .i64 x.n) ∧ W.cell? ⟨b, 2, none⟩ = some (.int .i64 x.t.k) ∧ W.cell? ⟨b, 3, none⟩ = some (.slice x.t.a x.t.l.length x.t.c) ∧ W.cell? ⟨b, 4, none⟩ = some (.int .i64 x.f.k) ∧ W.cell? ⟨b, 5, none⟩ = some (.slice x.f.a x.f.l.length x.f.c) ∧ W.cell? ⟨b, 6, none⟩ = some (.slice x.a x.l.length x.c) := by
  obtain ⟨c0, c1, c2, c3, c4, c5, c6⟩ := h
  simp only [Nat.zero_add] at c0 c1 c2 c3 c4 c5 c6
  exact ⟨c0, c1, c2, c3, c4, c5, c6⟩
theorem two_new (W : World) (t : Tr) : (W.alloc (.cells #[.int .i64 t.k, .slice t.a t.l.length t.c] 24)).cell? ⟨W.heap.size, 0, none⟩ = some (.int .i64 t.k) ∧ (W.alloc (.cells #[.int .i64 t.k, .slice t.a t.l.length t.c] 24)).cell? ⟨W.heap.size, 1, none⟩ = some (.slice t.a t.l.length t.c) := by
  constructor <;> simp
theorem sameTy_yes {i j : Tr} {W : World} (hi : i.In W) (hj : j.In W) (he : i.ty = j.ty) (hs : i.sm) : Calls Tryd.prog 16 #[.agg #[.int .i64 i.k, .slice i.a i.l.length i.c], .agg #[.int .i64 j.k, .slice j.a j.l.length j.c]] W fun e w' => e = .returned (.bool true) ∧ Below W.heap.size W w' := by
  have := sameType_any _ i j W hi hj (Nat.le_refl _) hs
  rw [he, relY_refl] at this
  exact this
theorem SL_below {w w' : World} {a : Option Addr} {ss : List St} (h : SL w a ss) (hb : Below w.heap.size w w') : SL w' a ss := by
  intro j hj
  obtain ⟨b, o, ea, h0, h1, h2, h3, h4, h5, h6⟩ := h j hj
  have lt : b < w.heap.size := World.block_lt_of_cell? _ _ h0
  have c : ∀ i, w'.cell? ⟨b, i, none⟩ = w.cell? ⟨b, i, none⟩ := fun i => hb.cell (p := ⟨b, i, none⟩) lt
  exact ⟨b, o, ea, (c _).trans h0, (c _).trans h1, (c _).trans h2, (c _).trans h3, (c _).trans h4, h5.below hb, h6.below hb⟩
theorem same_erased_at {u v : TT} {q : Tm} {W : World} (hu : u.In W) (hv : v.In W) (he : u.tm = v.tm) (hq : u.tm = eraseM q) (hs : q.sz ≤ 2000000) : Calls Tryd.prog 15 #[.agg #[.int .i64 u.k, .int .i64 u.n, .int .i64 u.t.k, .slice u.t.a u.t.l.length u.t.c, .int .i64 u.f.k, .slice u.f.a u.f.l.length u.f.c, .slice u.a u.l.length u.c], .agg #[.int .i64 v.k, .int .i64 v.n, .int .i64 v.t.k, .slice v.t.a v.t.l.length v.t.c, .int .i64 v.f.k, .slice v.f.a v.f.l.length v.f.c, .slice v.a v.l.length v.c]] W fun e w' => e = .returned (.bool true) ∧ Below W.heap.size W w' :=
  sameTerm_yes u v W hu hv he (lw_sz u (by rw [u.sz_tm, hq]; have := erase_sz q; omega)) ((tsm_tm u).2 (tsm_bare _ (by rw [hq]; exact bare_erase _)))
theorem same_erased {u v x : TT} {W : World} (h : u.In W ∧ v.In W ∧ u.tm = v.tm ∧ u.tm = eraseM x.tm ∧ x.sz ≤ 40) : Calls Tryd.prog 15 #[.agg #[.int .i64 u.k, .int .i64 u.n, .int .i64 u.t.k, .slice u.t.a u.t.l.length u.t.c, .int .i64 u.f.k, .slice u.f.a u.f.l.length u.f.c, .slice u.a u.l.length u.c], .agg #[.int .i64 v.k, .int .i64 v.n, .int .i64 v.t.k, .slice v.t.a v.t.l.length v.t.c, .int .i64 v.f.k, .slice v.f.a v.f.l.length v.f.c, .slice v.a v.l.length v.c]] W fun e w' => e = .returned (.bool true) ∧ Below W.heap.size W w' :=
  same_erased_at h.1 h.2.1 h.2.2.1 h.2.2.2.1 (by rw [← x.sz_tm]; have := h.2.2.2.2; omega)
theorem same_erased2 {u v x : TT} {W : World} (h : u.In W ∧ v.In W ∧ u.tm = v.tm ∧ u.tm = eraseM x.tm ∧ x.sz ≤ 80) : Calls Tryd.prog 15 #[.agg #[.int .i64 u.k, .int .i64 u.n, .int .i64 u.t.k, .slice u.t.a u.t.l.length u.t.c, .int .i64 u.f.k, .slice u.f.a u.f.l.length u.f.c, .slice u.a u.l.length u.c], .agg #[.int .i64 v.k, .int .i64 v.n, .int .i64 v.t.k, .slice v.t.a v.t.l.length v.t.c, .int .i64 v.f.k, .slice v.f.a v.f.l.length v.f.c, .slice v.a v.l.length v.c]] W fun e w' => e = .returned (.bool true) ∧ Below W.heap.size W w' :=
  same_erased_at h.1 h.2.1 h.2.2.1 h.2.2.2.1 (by rw [← x.sz_tm]; have := h.2.2.2.2; omega)
set_option maxRecDepth 20000 in
set_option maxHeartbeats 16000000 in
/-- CheckTells. -/
theorem ckTells_any (x : TT) (w : World) (hg : Gp w) (hx : x.In w) (hok : x.ok 100000000) (hsz : x.sz ≤ 2000000) : Calls Tryd.prog 4 #[.agg #[.int .i64 x.k, .int .i64 x.n, .int .i64 x.t.k, .slice x.t.a x.t.l.length x.t.c, .int .i64 x.f.k, .slice x.f.a x.f.l.length x.f.c, .slice x.a x.l.length x.c]] w fun e w' => e = .returned (.bool true) ∧ Below w.heap.size w w' := by
  obtain ⟨W1, hW1⟩ : ∃ W1, W1 = w.alloc (.cells #[.int .i64 x.k, .int .i64 x.n, .int .i64 x.t.k, .slice x.t.a x.t.l.length x.t.c, .int .i64 x.f.k, .slice x.f.a x.f.l.length x.f.c, .slice x.a x.l.length x.c] 27) := ⟨_, rfl⟩
  have hb1 : Below w.heap.size w W1 := by rw [hW1]; exact (Below.refl _ _).alloc (Nat.le_refl _) _
  have h7 : At7 W1 w.heap.size 0 x := by rw [hW1]; exact At7.new w x
  have HX : Hid (x.In w ∧ Gp w ∧ x.ok 100000000 ∧ x.sz ≤ 2000000 ∧ Below w.heap.size w W1 ∧ At7 W1 w.heap.size 0 x) := ⟨hx, hg, hok, hsz, hb1, h7⟩
  have HC : Hid (Calls Tryd.prog 12 #[.agg #[.int .i64 x.k, .int .i64 x.n, .int .i64 x.t.k, .slice x.t.a x.t.l.length x.t.c, .int .i64 x.f.k, .slice x.f.a x.f.l.length x.f.c, .slice x.a x.l.length x.c]] W1 fun e w' => ∃ c : TT, e = .returned (.agg #[.int .i64 c.k, .int .i64 c.n, .int .i64 c.t.k, .slice c.t.a c.t.l.length c.t.c, .int .i64 c.f.k, .slice c.f.a c.f.l.length c.f.c, .slice c.a c.l.length c.c]) ∧ Hid (c.tm = x.tm ∧ c.In w' ∧ Below W1.heap.size W1 w')) := by
    refine (copyTm_any x W1 (hx.below hb1) (hok.lw (by omega)) (hok.csz (by omega))).mono ?_
    rintro e w' ⟨c, rfl, h1, h2, _, h4⟩
    exact ⟨c, rfl, h1, h2, h4⟩
  obtain ⟨p0, p1, p2, p3, p4, p5, p6⟩ := h7.all
  clear hg hx hok hsz hb1 h7
  go_enter Tryd.func4, Tryd.ntmps4
  go_wp2_with fail
  rw [← hW1]
  clear hW1
  refine HC.out.mono ?_
  rintro e w2 ⟨c, rfl, HI⟩
  clear HC p0 p1 p2 p3 p4 p5 p6
  obtain ⟨W3, hW3⟩ : ∃ W3, W3 = w2.alloc (.cells #[.int .i64 c.k, .int .i64 c.n, .int .i64 c.t.k, .slice c.t.a c.t.l.length c.t.c, .int .i64 c.f.k, .slice c.f.a c.f.l.length c.f.c, .slice c.a c.l.length c.c] 27) := ⟨_, rfl⟩
  have hb3 : Below w2.heap.size w2 W3 := by rw [hW3]; exact (Below.refl _ _).alloc (Nat.le_refl _) _
  have hbw : Below w.heap.size w w2 := HX.out.2.2.2.2.1.trans (HI.out.2.2.mono HX.out.2.2.2.2.1.size)
  have hbw3 : Below w.heap.size w W3 := hbw.trans (hb3.mono hbw.size)
  have h7 : At7 W3 w2.heap.size 0 c := by rw [hW3]; exact At7.new w2 c
  have HX3 : Hid (x.In W3 ∧ c.In W3 ∧ c.tm = x.tm ∧ Gp W3 ∧ x.ok 100000000 ∧ x.sz ≤ 2000000 ∧ Below w.heap.size w W3 ∧ At7 W3 w.heap.size 0 x ∧ At7 W3 w2.heap.size 0 c) := ⟨HX.out.1.below hbw3, HI.out.2.1.below hb3, HI.out.1, HX.out.2.1.below hbw3, HX.out.2.2.1, HX.out.2.2.2.1, hbw3, (HX.out.2.2.2.2.2.below HI.out.2.2).below hb3, h7⟩
  have HC : Hid (Calls Tryd.prog 13 #[.agg #[.int .i64 c.k, .int .i64 c.n, .int .i64 c.t.k, .slice c.t.a c.t.l.length c.t.c, .int .i64 c.f.k, .slice c.f.a c.f.l.length c.f.c, .slice c.a c.l.length c.c]] W3 fun e w' => ∃ (y : TT) (i : Tr) (ec : Int), e = .returned (.tuple #[.agg #[.int .i64 y.k, .int .i64 y.n, .int .i64 y.t.k, .slice y.t.a y.t.l.length y.t.c, .int .i64 y.f.k, .slice y.f.a y.f.l.length y.f.c, .slice y.a y.l.length y.c], .agg #[.int .i64 i.k, .slice i.a i.l.length i.c], .int .i64 ec]) ∧ Hid (CkI c y i ec w' ∧ Below W3.heap.size W3 w')) := by
    refine (check_any c W3 HX3.out.2.2.2.1 HX3.out.2.1 (nb_congr x c HX3.out.2.2.1.symm HX3.out.2.2.2.2.1.nb)).mono ?_
    intro e w' h
    obtain ⟨y, i, ec, rfl, h1, h2⟩ := ck_form h
    exact ⟨y, i, ec, rfl, h1.out, h2⟩
  obtain ⟨p0, p1, p2, p3, p4, p5, p6⟩ := h7.all
  clear hb3 hbw hbw3 h7 HX HI
  go_wp2_with fail
  rw [← hW3]
  clear hW3
  refine HC.out.mono ?_
  rintro e w4 ⟨y, i, ec, rfl, HI⟩
  clear HC p0 p1 p2 p3 p4 p5 p6
  obtain ⟨W5, hW5⟩ : ∃ W5, W5 = (w4.alloc (.cells #[.int .i64 y.k, .int .i64 y.n, .int .i64 y.t.k, .slice y.t.a y.t.l.length y.t.c, .int .i64 y.f.k, .slice y.f.a y.f.l.length y.f.c, .slice y.a y.l.length y.c] 27)).alloc (.cells #[.int .i64 i.k, .slice i.a i.l.length i.c] 24) := ⟨_, rfl⟩
  have hb5 : Below w4.heap.size w4 W5 := by rw [hW5]; exact ((Below.refl _ _).alloc (Nat.le_refl _) _).alloc (by simp) _
  have hb35 : Below W3.heap.size W3 W5 := HI.out.2.trans (hb5.mono HI.out.2.size)
  have hy7 : At7 W5 w4.heap.size 0 y := by
    have h7y : At7 (w4.alloc (.cells #[.int .i64 y.k, .int .i64 y.n, .int .i64 y.t.k, .slice y.t.a y.t.l.length y.t.c, .int .i64 y.f.k, .slice y.f.a y.f.l.length y.f.c, .slice y.a y.l.length y.c] 27)) w4.heap.size 0 y := At7.new w4 y
    rw [hW5]; exact h7y.below ((Below.refl _ _).alloc (Nat.le_refl _) _)
  have hi2 : W5.cell? ⟨w4.heap.size + 1, 0, none⟩ = some (.int .i64 i.k) ∧ W5.cell? ⟨w4.heap.size + 1, 1, none⟩ = some (.slice i.a i.l.length i.c) := by
    have := two_new (w4.alloc (.cells #[.int .i64 y.k, .int .i64 y.n, .int .i64 y.t.k, .slice y.t.a y.t.l.length y.t.c, .int .i64 y.f.k, .slice y.f.a y.f.l.length y.f.c, .slice y.a y.l.length y.c] 27)) i
    rw [show (w4.alloc (.cells #[.int .i64 y.k, .int .i64 y.n, .int .i64 y.t.k, .slice y.t.a y.t.l.length y.t.c, .int .i64 y.f.k, .slice y.f.a y.f.l.length y.f.c, .slice y.a y.l.length y.c] 27)).heap.size = w4.heap.size + 1 from by simp] at this
    rw [hW5]; exact this
  have hx7 : At7 W5 w.heap.size 0 x := HX3.out.2.2.2.2.2.2.2.1.below hb35
  have hc7 : At7 W5 w2.heap.size 0 c := HX3.out.2.2.2.2.2.2.2.2.below hb35
  have hk : CkI c y i ec W5 := ⟨⟨HI.out.1.1.1.below hb5, HI.out.1.1.2.1.below hb5, HI.out.1.1.2.2⟩, HI.out.1.2⟩
  have HX5 : Hid ((x.In W5 ∧ c.In W5 ∧ c.tm = x.tm ∧ Gp W5 ∧ x.ok 100000000 ∧ x.sz ≤ 2000000 ∧ Below w.heap.size w W5) ∧ CkI c y i ec W5 ∧ At7 W5 w.heap.size 0 x ∧ At7 W5 w2.heap.size 0 c ∧ At7 W5 w4.heap.size 0 y ∧ W5.cell? ⟨w4.heap.size + 1, 0, none⟩ = some (.int .i64 i.k) ∧ W5.cell? ⟨w4.heap.size + 1, 1, none⟩ = some (.slice i.a i.l.length i.c)) := ⟨⟨HX3.out.1.below hb35, HX3.out.2.1.below hb35, HX3.out.2.2.1, HX3.out.2.2.2.1.below hb35, HX3.out.2.2.2.2.1, HX3.out.2.2.2.2.2.1, HX3.out.2.2.2.2.2.2.1.trans (hb35.mono HX3.out.2.2.2.2.2.2.1.size)⟩, hk, hx7, hc7, hy7, hi2⟩
  have HC : Hid (Calls Tryd.prog 14 #[.agg #[.int .i64 x.k, .int .i64 x.n, .int .i64 x.t.k, .slice x.t.a x.t.l.length x.t.c, .int .i64 x.f.k, .slice x.f.a x.f.l.length x.f.c, .slice x.a x.l.length x.c]] W5 fun e w' => ∃ (y : TT) (i : Tr) (ec : Int), e = .returned (.tuple #[.agg #[.int .i64 y.k, .int .i64 y.n, .int .i64 y.t.k, .slice y.t.a y.t.l.length y.t.c, .int .i64 y.f.k, .slice y.f.a y.f.l.length y.f.c, .slice y.a y.l.length y.c], .agg #[.int .i64 i.k, .slice i.a i.l.length i.c], .int .i64 ec]) ∧ Hid (CkI x y i ec w' ∧ Below W5.heap.size W5 w')) := by
    refine (checkTerm_any x W5 HX5.out.1.1 (by have := HX5.out.1.2.2.2.2.2.1; omega) HX5.out.1.2.2.2.2.1).mono ?_
    intro e w' h
    obtain ⟨y, i, ec, rfl, h1, h2⟩ := ck_form h
    exact ⟨y, i, ec, rfl, h1.out, h2⟩
  obtain ⟨p0, p1, p2, p3, p4, p5, p6⟩ := hx7.all
  clear hb5 hb35 hy7 hi2 hx7 hc7 hk HI HX3
  go_upto_region 3 with fail
  rw [← hW5]
  clear hW5
  go_wp2_with fail
  refine HC.out.mono ?_
  rintro e w6 ⟨z, j, ed, rfl, HI⟩
  clear HC p0 p1 p2 p3 p4 p5 p6
  obtain ⟨W7, hW7⟩ : ∃ W7, W7 = (w6.alloc (.cells #[.int .i64 z.k, .int .i64 z.n, .int .i64 z.t.k, .slice z.t.a z.t.l.length z.t.c, .int .i64 z.f.k, .slice z.f.a z.f.l.length z.f.c, .slice z.a z.l.length z.c] 27)).alloc (.cells #[.int .i64 j.k, .slice j.a j.l.length j.c] 24) := ⟨_, rfl⟩
  have hb7 : Below w6.heap.size w6 W7 := by rw [hW7]; exact ((Below.refl _ _).alloc (Nat.le_refl _) _).alloc (by simp) _
  have hb57 : Below W5.heap.size W5 W7 := HI.out.2.trans (hb7.mono HI.out.2.size)
  have hz7 : At7 W7 w6.heap.size 0 z := by
    have h7z : At7 (w6.alloc (.cells #[.int .i64 z.k, .int .i64 z.n, .int .i64 z.t.k, .slice z.t.a z.t.l.length z.t.c, .int .i64 z.f.k, .slice z.f.a z.f.l.length z.f.c, .slice z.a z.l.length z.c] 27)) w6.heap.size 0 z := At7.new w6 z
    rw [hW7]; exact h7z.below ((Below.refl _ _).alloc (Nat.le_refl _) _)
  have hj2 : W7.cell? ⟨w6.heap.size + 1, 0, none⟩ = some (.int .i64 j.k) ∧ W7.cell? ⟨w6.heap.size + 1, 1, none⟩ = some (.slice j.a j.l.length j.c) := by
    have := two_new (w6.alloc (.cells #[.int .i64 z.k, .int .i64 z.n, .int .i64 z.t.k, .slice z.t.a z.t.l.length z.t.c, .int .i64 z.f.k, .slice z.f.a z.f.l.length z.f.c, .slice z.a z.l.length z.c] 27)) j
    rw [show (w6.alloc (.cells #[.int .i64 z.k, .int .i64 z.n, .int .i64 z.t.k, .slice z.t.a z.t.l.length z.t.c, .int .i64 z.f.k, .slice z.f.a z.f.l.length z.f.c, .slice z.a z.l.length z.c] 27)).heap.size = w6.heap.size + 1 from by simp] at this
    rw [hW7]; exact this
  have l1 : w4.heap.size + 1 < W5.heap.size := World.block_lt_of_cell? _ _ HX5.out.2.2.2.2.2.1
  have hLB : LB w.heap.size w2.heap.size w4.heap.size w6.heap.size x c y z i j W7 := ⟨HX5.out.2.2.1.below hb57, HX5.out.2.2.2.1.below hb57, HX5.out.2.2.2.2.1.below hb57, ⟨(hb57.cell (p := ⟨w4.heap.size + 1, 0, none⟩) l1).trans HX5.out.2.2.2.2.2.1, (hb57.cell (p := ⟨w4.heap.size + 1, 1, none⟩) l1).trans HX5.out.2.2.2.2.2.2⟩, hz7, hj2⟩
  have hk : CkI c y i ec W7 := ⟨⟨HX5.out.2.1.1.1.below hb57, HX5.out.2.1.1.2.1.below hb57, HX5.out.2.1.1.2.2⟩, HX5.out.2.1.2⟩
  have hk' : CkI x z j ed W7 := ⟨⟨HI.out.1.1.1.below hb7, HI.out.1.1.2.1.below hb7, HI.out.1.1.2.2⟩, HI.out.1.2⟩
  obtain ⟨a1, a2, rfl⟩ := ck_alike hk hk' HX5.out.1.2.2.1
  have hbw : Below w.heap.size w W7 := HX5.out.1.2.2.2.2.2.2.trans (hb57.mono HX5.out.1.2.2.2.2.2.2.size)
  have HG : Hid ((x.In W7 ∧ c.In W7 ∧ c.tm = x.tm ∧ Gp W7 ∧ x.ok 100000000 ∧ x.sz ≤ 2000000 ∧ Below w.heap.size w W7) ∧ CkI c y i ec W7 ∧ CkI x z j ec W7 ∧ y.tm = z.tm ∧ i.ty = j.ty) := ⟨⟨HX5.out.1.1.below hb57, HX5.out.1.2.1.below hb57, HX5.out.1.2.2.1, HX5.out.1.2.2.2.1.below hb57, HX5.out.1.2.2.2.2.1, HX5.out.1.2.2.2.2.2.1, hbw⟩, hk, hk', a1, a2⟩
  have HL : Hid (LB w.heap.size w2.heap.size w4.heap.size w6.heap.size x c y z i j W7) := hLB
  clear hb7 hb57 hz7 hj2 l1 hk hk' a1 a2 hbw HI HX5 hLB
  go_upto_region 4 with fail
  rw [← hW7]
  clear hW7
  have HA : Hid (∀ W, Below W7.heap.size W7 W → Calls Tryd.prog 15 #[.agg #[.int .i64 y.k, .int .i64 y.n, .int .i64 y.t.k, .slice y.t.a y.t.l.length y.t.c, .int .i64 y.f.k, .slice y.f.a y.f.l.length y.f.c, .slice y.a y.l.length y.c], .agg #[.int .i64 z.k, .int .i64 z.n, .int .i64 z.t.k, .slice z.t.a z.t.l.length z.t.c, .int .i64 z.f.k, .slice z.f.a z.f.l.length z.f.c, .slice z.a z.l.length z.c]] W fun e w' => e = .returned (.bool true) ∧ Below W.heap.size W w') := fun W hb =>
    sameTerm_yes y z W (HG.out.2.1.1.1.below hb) (HG.out.2.2.1.1.1.below hb) HG.out.2.2.2.1 (lw_sz y (by have := HG.out.2.1.1.2.2.2.1; omega)) HG.out.2.1.1.2.2.1
  have HB : Hid (∀ W, Below W7.heap.size W7 W → Calls Tryd.prog 16 #[.agg #[.int .i64 i.k, .slice i.a i.l.length i.c], .agg #[.int .i64 j.k, .slice j.a j.l.length j.c]] W fun e w' => e = .returned (.bool true) ∧ Below W.heap.size W w') := fun W hb =>
    sameTy_yes (HG.out.2.1.1.2.1.below hb) (HG.out.2.2.1.1.2.1.below hb) HG.out.2.2.2.2 HG.out.2.1.1.2.2.2.2
  have HD : Hid (∀ W, Below W7.heap.size W7 W → Calls Tryd.prog 15 #[.agg #[.int .i64 c.k, .int .i64 c.n, .int .i64 c.t.k, .slice c.t.a c.t.l.length c.t.c, .int .i64 c.f.k, .slice c.f.a c.f.l.length c.f.c, .slice c.a c.l.length c.c], .agg #[.int .i64 x.k, .int .i64 x.n, .int .i64 x.t.k, .slice x.t.a x.t.l.length x.t.c, .int .i64 x.f.k, .slice x.f.a x.f.l.length x.f.c, .slice x.a x.l.length x.c]] W fun e w' => e = .returned (.bool true) ∧ Below W.heap.size W w') := fun W hb =>
    sameTerm_yes c x W (HG.out.1.2.1.below hb) (HG.out.1.1.below hb) HG.out.1.2.2.1 (lw_sz c (by rw [TT.sz_tm, HG.out.1.2.2.1, ← TT.sz_tm]; exact HG.out.1.2.2.2.2.2.1)) ((tsm_tm c).2 (by rw [HG.out.1.2.2.1]; exact (tsm_tm x).1 (HG.out.1.2.2.2.2.1.tsm (by omega))))
  have HE : Hid (∀ W, Below W7.heap.size W7 W → Calls Tryd.prog 17 #[] W fun e w' => e = .returned (.bool true) ∧ Below W.heap.size W w') := fun W hb => lawChecks_any W (HG.out.1.2.2.2.1.below hb)
  have hne : (ec != ec) = false := by simp
  obtain ⟨y0, y1, y2, y3, y4, y5, y6⟩ := HL.out.y.all
  obtain ⟨z0, z1, z2, z3, z4, z5, z6⟩ := HL.out.z.all
  go_wp2_with fail
  refine (HA.out _ (Below.refl _ _)).mono ?_
  rintro e w8 ⟨rfl, hb8⟩
  clear y0 y1 y2 y3 y4 y5 y6 z0 z1 z2 z3 z4 z5 z6 HA
  have H8 : Hid (Below W7.heap.size W7 w8) := hb8
  obtain ⟨i0, i1⟩ := (HL.out.below hb8).i
  obtain ⟨j0, j1⟩ := (HL.out.below hb8).j
  clear hb8
  go_wp2_with fail
  refine (HB.out _ H8.out).mono ?_
  rintro e w9 ⟨rfl, hb9⟩
  clear i0 i1 j0 j1 HB
  have H9 : Hid (Below W7.heap.size W7 w9) := H8.out.trans (hb9.mono H8.out.size)
  clear H8 hb9
  obtain ⟨c0, c1, c2, c3, c4, c5, c6⟩ := (HL.out.below H9.out).c.all
  obtain ⟨x0, x1, x2, x3, x4, x5, x6⟩ := (HL.out.below H9.out).x.all
  go_wp2_with fail
  refine (HD.out _ H9.out).mono ?_
  rintro e w10 ⟨rfl, hb10⟩
  clear c0 c1 c2 c3 c4 c5 c6 x0 x1 x2 x3 x4 x5 x6 HD
  have H10 : Hid (Below W7.heap.size W7 w10) := H9.out.trans (hb10.mono H9.out.size)
  clear H9 hb10
  go_wp2_with fail
  refine (HE.out _ H10.out).mono ?_
  rintro e w11 ⟨rfl, hb11⟩
  clear HE hne
  have H11 : Hid (Below W7.heap.size W7 w11) := H10.out.trans (hb11.mono H10.out.size)
  clear H10 hb11
  have HS6 : Hid (∀ W, Below W7.heap.size W7 W → W.cell? ⟨w.heap.size, 0, none⟩ = some (.int .i64 x.k) ∧ W.cell? ⟨w.heap.size, 1, none⟩ = some (.int .i64 x.n) ∧ W.cell? ⟨w.heap.size, 2, none⟩ = some (.int .i64 x.t.k) ∧ W.cell? ⟨w.heap.size, 3, none⟩ = some (.slice x.t.a x.t.l.length x.t.c) ∧ W.cell? ⟨w.heap.size, 4, none⟩ = some (.int .i64 x.f.k) ∧ W.cell? ⟨w.heap.size, 5, none⟩ = some (.slice x.f.a x.f.l.length x.f.c) ∧ W.cell? ⟨w.heap.size, 6, none⟩ = some (.slice x.a x.l.length x.c) ∧ W.cell? ⟨w2.heap.size, 0, none⟩ = some (.int .i64 c.k) ∧ W.cell? ⟨w2.heap.size, 1, none⟩ = some (.int .i64 c.n) ∧ W.cell? ⟨w2.heap.size, 2, none⟩ = some (.int .i64 c.t.k) ∧ W.cell? ⟨w2.heap.size, 3, none⟩ = some (.slice c.t.a c.t.l.length c.t.c) ∧ W.cell? ⟨w2.heap.size, 4, none⟩ = some (.int .i64 c.f.k) ∧ W.cell? ⟨w2.heap.size, 5, none⟩ = some (.slice c.f.a c.f.l.length c.f.c) ∧ W.cell? ⟨w2.heap.size, 6, none⟩ = some (.slice c.a c.l.length c.c)) := fun W hb => by
    obtain ⟨c0, c1, c2, c3, c4, c5, c6⟩ := (HL.out.below hb).c.all
    obtain ⟨x0, x1, x2, x3, x4, x5, x6⟩ := (HL.out.below hb).x.all
    exact ⟨x0, x1, x2, x3, x4, x5, x6, c0, c1, c2, c3, c4, c5, c6⟩
  have HS8 : Hid (∀ W, Below W7.heap.size W7 W → W.cell? ⟨w4.heap.size, 0, none⟩ = some (.int .i64 y.k) ∧ W.cell? ⟨w4.heap.size, 1, none⟩ = some (.int .i64 y.n) ∧ W.cell? ⟨w4.heap.size, 2, none⟩ = some (.int .i64 y.t.k) ∧ W.cell? ⟨w4.heap.size, 3, none⟩ = some (.slice y.t.a y.t.l.length y.t.c) ∧ W.cell? ⟨w4.heap.size, 4, none⟩ = some (.int .i64 y.f.k) ∧ W.cell? ⟨w4.heap.size, 5, none⟩ = some (.slice y.f.a y.f.l.length y.f.c) ∧ W.cell? ⟨w4.heap.size, 6, none⟩ = some (.slice y.a y.l.length y.c) ∧ W.cell? ⟨w6.heap.size, 0, none⟩ = some (.int .i64 z.k) ∧ W.cell? ⟨w6.heap.size, 1, none⟩ = some (.int .i64 z.n) ∧ W.cell? ⟨w6.heap.size, 2, none⟩ = some (.int .i64 z.t.k) ∧ W.cell? ⟨w6.heap.size, 3, none⟩ = some (.slice z.t.a z.t.l.length z.t.c) ∧ W.cell? ⟨w6.heap.size, 4, none⟩ = some (.int .i64 z.f.k) ∧ W.cell? ⟨w6.heap.size, 5, none⟩ = some (.slice z.f.a z.f.l.length z.f.c) ∧ W.cell? ⟨w6.heap.size, 6, none⟩ = some (.slice z.a z.l.length z.c)) := fun W hb => by
    obtain ⟨c0, c1, c2, c3, c4, c5, c6⟩ := (HL.out.below hb).y.all
    obtain ⟨x0, x1, x2, x3, x4, x5, x6⟩ := (HL.out.below hb).z.all
    exact ⟨c0, c1, c2, c3, c4, c5, c6, x0, x1, x2, x3, x4, x5, x6⟩
  clear HL
  obtain ⟨gd, hgd⟩ : ∃ gd, goodM 0 x.tm = gd := ⟨_, rfl⟩
  have HT : Hid (∀ W, Below W7.heap.size W7 W → Calls Tryd.prog 18 #[.agg #[.int .i64 x.k, .int .i64 x.n, .int .i64 x.t.k, .slice x.t.a x.t.l.length x.t.c, .int .i64 x.f.k, .slice x.f.a x.f.l.length x.f.c, .slice x.a x.l.length x.c], .int .i64 0] W fun e w' => e = .returned (.bool gd) ∧ Below W.heap.size W w') := fun W hb => by
    have := isTerm_any x 0 W (HG.out.1.1.below hb) (by have := HG.out.1.2.2.2.2.2.1; omega) HG.out.1.2.2.2.2.1
    rw [hgd] at this
    exact this
  have HGD : Hid (goodM 0 x.tm = gd) := hgd
  clear hgd
  have HW11 : Hid (Below W7.heap.size W7 w11) := H11.out
  have Hw11 : Hid (Below W7.heap.size W7 w11) := H11.out
  clear HW11 H11
  have HK : Hid ((ec = 1 ∧ gd = false) ∨ (ec = 2 ∧ gd = true) ∨ (ec = 0 ∧ gd = true ∧ readS x.tm [] 0 = some (y.tm, i.ty))) := by
    have h := HG.out.2.1.2
    rw [HG.out.1.2.2.1, HGD.out] at h
    rcases h with ⟨h1, h2, _⟩ | ⟨h1, ⟨h2, _⟩, _⟩ | ⟨h1, h2, h3⟩
    · exact .inl ⟨h1, h2⟩
    · exact .inr (.inl ⟨h1, h2⟩)
    · exact .inr (.inr ⟨h1, h2, h3⟩)
  cases gd
  · have hec : ec = 1 := by
      rcases HK.out with ⟨h, _⟩ | ⟨_, h⟩ | ⟨_, h, _⟩
      · exact h
      · cases h
      · cases h
    subst hec
    clear HK HGD
    have HSS : Hid (∀ W, Below W7.heap.size W7 W → (fun W : World => W.cell? ⟨w.heap.size, 0, none⟩ = some (.int .i64 x.k) ∧ W.cell? ⟨w.heap.size, 1, none⟩ = some (.int .i64 x.n) ∧ W.cell? ⟨w.heap.size, 2, none⟩ = some (.int .i64 x.t.k) ∧ W.cell? ⟨w.heap.size, 3, none⟩ = some (.slice x.t.a x.t.l.length x.t.c) ∧ W.cell? ⟨w.heap.size, 4, none⟩ = some (.int .i64 x.f.k) ∧ W.cell? ⟨w.heap.size, 5, none⟩ = some (.slice x.f.a x.f.l.length x.f.c) ∧ W.cell? ⟨w.heap.size, 6, none⟩ = some (.slice x.a x.l.length x.c) ∧ W.cell? ⟨w2.heap.size, 0, none⟩ = some (.int .i64 c.k) ∧ W.cell? ⟨w2.heap.size, 1, none⟩ = some (.int .i64 c.n) ∧ W.cell? ⟨w2.heap.size, 2, none⟩ = some (.int .i64 c.t.k) ∧ W.cell? ⟨w2.heap.size, 3, none⟩ = some (.slice c.t.a c.t.l.length c.t.c) ∧ W.cell? ⟨w2.heap.size, 4, none⟩ = some (.int .i64 c.f.k) ∧ W.cell? ⟨w2.heap.size, 5, none⟩ = some (.slice c.f.a c.f.l.length c.f.c) ∧ W.cell? ⟨w2.heap.size, 6, none⟩ = some (.slice c.a c.l.length c.c)) W) := fun W hb => HS6.out W hb
    go_upto_region 6 with fail
    refine wp_region_held_drew (S := fun W : World => W.cell? ⟨w.heap.size, 0, none⟩ = some (.int .i64 x.k) ∧ W.cell? ⟨w.heap.size, 1, none⟩ = some (.int .i64 x.n) ∧ W.cell? ⟨w.heap.size, 2, none⟩ = some (.int .i64 x.t.k) ∧ W.cell? ⟨w.heap.size, 3, none⟩ = some (.slice x.t.a x.t.l.length x.t.c) ∧ W.cell? ⟨w.heap.size, 4, none⟩ = some (.int .i64 x.f.k) ∧ W.cell? ⟨w.heap.size, 5, none⟩ = some (.slice x.f.a x.f.l.length x.f.c) ∧ W.cell? ⟨w.heap.size, 6, none⟩ = some (.slice x.a x.l.length x.c) ∧ W.cell? ⟨w2.heap.size, 0, none⟩ = some (.int .i64 c.k) ∧ W.cell? ⟨w2.heap.size, 1, none⟩ = some (.int .i64 c.n) ∧ W.cell? ⟨w2.heap.size, 2, none⟩ = some (.int .i64 c.t.k) ∧ W.cell? ⟨w2.heap.size, 3, none⟩ = some (.slice c.t.a c.t.l.length c.t.c) ∧ W.cell? ⟨w2.heap.size, 4, none⟩ = some (.int .i64 c.f.k) ∧ W.cell? ⟨w2.heap.size, 5, none⟩ = some (.slice c.f.a c.f.l.length c.f.c) ∧ W.cell? ⟨w2.heap.size, 6, none⟩ = some (.slice c.a c.l.length c.c)) (by kernel_rfl) (HSS.out _ (Hw11.out.trans (((Below.refl _ _).drew).mono Hw11.out.size))) (fun hHeld => ?_)
    have Hd6 : Hid (Below W7.heap.size W7 w11.drew) := Hw11.out.trans (((Below.refl _ _).drew).mono Hw11.out.size)
    refine takeH (i := 0) (v := ?_) rfl (by kernel_rfl) (by kernel_rfl) (by kernel_rfl) (fun _ _ _ h => h) (Or.inl ⟨by rfl, ?_⟩) hHeld ?_; rotate_left; (focus (intro w' hSw; (try dsimp only at hSw); go_split_ands; first | (go_simp; done) | (go_simp; with_reducible rfl))); simp only [Act.put, List.setIfInBounds_toArray, List.set_cons_zero, List.set_cons_succ]
    refine oneH (i := 1) rfl (by kernel_rfl) (fun K hK => ?_)
    go_simp
    go_at_call 18
    refine (HT.out _ Hd6.out).mono ?_
    rintro e w12 ⟨rfl, hbw12⟩
    have Hw12 : Hid (Below W7.heap.size W7 w12) := Hd6.out.trans (hbw12.mono Hd6.out.size)
    clear hbw12
    refine hK.out _ _ (HSS.out _ Hw12.out) (fun hHeld => ?_)
    clear hK K
    refine takeH (i := 2) (v := ?_) rfl (by kernel_rfl) (by kernel_rfl) (by kernel_rfl) (fun _ _ _ h => h) (Or.inl ⟨by rfl, ?_⟩) hHeld ?_; rotate_left; (focus (intro w' hSw; (try dsimp only at hSw); go_split_ands; first | (go_simp; done) | (go_simp; with_reducible rfl))); simp only [Act.put, List.setIfInBounds_toArray, List.set_cons_zero, List.set_cons_succ]
    refine takeH (i := 3) (v := undef) rfl (by kernel_rfl) (by kernel_rfl) (by kernel_rfl) (fun _ _ _ h => h) (Or.inr ⟨by kernel_rfl, rfl⟩) hHeld ?_; simp only [Act.put, List.setIfInBounds_toArray, List.set_cons_zero, List.set_cons_succ]
    refine takeH (i := 4) (v := undef) rfl (by kernel_rfl) (by kernel_rfl) (by kernel_rfl) (fun _ _ _ h => h) (Or.inr ⟨by kernel_rfl, rfl⟩) hHeld ?_; simp only [Act.put, List.setIfInBounds_toArray, List.set_cons_zero, List.set_cons_succ]
    refine takeH (i := 5) (v := undef) rfl (by kernel_rfl) (by kernel_rfl) (by kernel_rfl) (fun _ _ _ h => h) (Or.inr ⟨by kernel_rfl, rfl⟩) hHeld ?_; simp only [Act.put, List.setIfInBounds_toArray, List.set_cons_zero, List.set_cons_succ]
    refine takeH (i := 6) (v := undef) rfl (by kernel_rfl) (by kernel_rfl) (by kernel_rfl) (fun _ _ _ h => h) (Or.inr ⟨by kernel_rfl, rfl⟩) hHeld ?_; simp only [Act.put, List.setIfInBounds_toArray, List.set_cons_zero, List.set_cons_succ]
    refine takeH (i := 7) (v := undef) rfl (by kernel_rfl) (by kernel_rfl) (by kernel_rfl) (fun _ _ _ h => h) (Or.inr ⟨by kernel_rfl, rfl⟩) hHeld ?_; simp only [Act.put, List.setIfInBounds_toArray, List.set_cons_zero, List.set_cons_succ]
    refine takeH (i := 8) (v := undef) rfl (by kernel_rfl) (by kernel_rfl) (by kernel_rfl) (fun _ _ _ h => h) (Or.inr ⟨by kernel_rfl, rfl⟩) hHeld ?_; simp only [Act.put, List.setIfInBounds_toArray, List.set_cons_zero, List.set_cons_succ]
    refine takeH (i := 9) (v := undef) rfl (by kernel_rfl) (by kernel_rfl) (by kernel_rfl) (fun _ _ _ h => h) (Or.inr ⟨by kernel_rfl, rfl⟩) hHeld ?_; simp only [Act.put, List.setIfInBounds_toArray, List.set_cons_zero, List.set_cons_succ]
    refine takeH (i := 10) (v := undef) rfl (by kernel_rfl) (by kernel_rfl) (by kernel_rfl) (fun _ _ _ h => h) (Or.inr ⟨by kernel_rfl, rfl⟩) hHeld ?_; simp only [Act.put, List.setIfInBounds_toArray, List.set_cons_zero, List.set_cons_succ]
    refine takeH (i := 11) (v := undef) rfl (by kernel_rfl) (by kernel_rfl) (by kernel_rfl) (fun _ _ _ h => h) (Or.inr ⟨by kernel_rfl, rfl⟩) hHeld ?_; simp only [Act.put, List.setIfInBounds_toArray, List.set_cons_zero, List.set_cons_succ]
    refine takeH (i := 12) (v := undef) rfl (by kernel_rfl) (by kernel_rfl) (by kernel_rfl) (fun _ _ _ h => h) (Or.inr ⟨by kernel_rfl, rfl⟩) hHeld ?_; simp only [Act.put, List.setIfInBounds_toArray, List.set_cons_zero, List.set_cons_succ]
    refine takeH (i := 13) (v := undef) rfl (by kernel_rfl) (by kernel_rfl) (by kernel_rfl) (fun _ _ _ h => h) (Or.inr ⟨by kernel_rfl, rfl⟩) hHeld ?_; simp only [Act.put, List.setIfInBounds_toArray, List.set_cons_zero, List.set_cons_succ]
    refine takeH (i := 14) (v := undef) rfl (by kernel_rfl) (by kernel_rfl) (by kernel_rfl) (fun _ _ _ h => h) (Or.inr ⟨by kernel_rfl, rfl⟩) hHeld ?_; simp only [Act.put, List.setIfInBounds_toArray, List.set_cons_zero, List.set_cons_succ]
    refine takeH (i := 15) (v := ?_) rfl (by kernel_rfl) (by kernel_rfl) (by kernel_rfl) (fun _ _ _ h => h) (Or.inl ⟨by rfl, ?_⟩) hHeld ?_; rotate_left; (focus (intro w' hSw; (try dsimp only at hSw); go_split_ands; first | (go_simp; done) | (go_simp; with_reducible rfl))); simp only [Act.put, List.setIfInBounds_toArray, List.set_cons_zero, List.set_cons_succ]
    refine wpAnyH_done (by kernel_rfl) ?_ _
    clear HSS hHeld Hd6
    have HSS : Hid (∀ W, Below W7.heap.size W7 W → (fun W : World => W.cell? ⟨w4.heap.size, 0, none⟩ = some (.int .i64 y.k) ∧ W.cell? ⟨w4.heap.size, 1, none⟩ = some (.int .i64 y.n) ∧ W.cell? ⟨w4.heap.size, 2, none⟩ = some (.int .i64 y.t.k) ∧ W.cell? ⟨w4.heap.size, 3, none⟩ = some (.slice y.t.a y.t.l.length y.t.c) ∧ W.cell? ⟨w4.heap.size, 4, none⟩ = some (.int .i64 y.f.k) ∧ W.cell? ⟨w4.heap.size, 5, none⟩ = some (.slice y.f.a y.f.l.length y.f.c) ∧ W.cell? ⟨w4.heap.size, 6, none⟩ = some (.slice y.a y.l.length y.c) ∧ W.cell? ⟨w6.heap.size, 0, none⟩ = some (.int .i64 z.k) ∧ W.cell? ⟨w6.heap.size, 1, none⟩ = some (.int .i64 z.n) ∧ W.cell? ⟨w6.heap.size, 2, none⟩ = some (.int .i64 z.t.k) ∧ W.cell? ⟨w6.heap.size, 3, none⟩ = some (.slice z.t.a z.t.l.length z.t.c) ∧ W.cell? ⟨w6.heap.size, 4, none⟩ = some (.int .i64 z.f.k) ∧ W.cell? ⟨w6.heap.size, 5, none⟩ = some (.slice z.f.a z.f.l.length z.f.c) ∧ W.cell? ⟨w6.heap.size, 6, none⟩ = some (.slice z.a z.l.length z.c)) W) := fun W hb => HS8.out W hb
    go_upto_region 8 with fail
    refine wp_region_held_drew (S := fun W : World => W.cell? ⟨w4.heap.size, 0, none⟩ = some (.int .i64 y.k) ∧ W.cell? ⟨w4.heap.size, 1, none⟩ = some (.int .i64 y.n) ∧ W.cell? ⟨w4.heap.size, 2, none⟩ = some (.int .i64 y.t.k) ∧ W.cell? ⟨w4.heap.size, 3, none⟩ = some (.slice y.t.a y.t.l.length y.t.c) ∧ W.cell? ⟨w4.heap.size, 4, none⟩ = some (.int .i64 y.f.k) ∧ W.cell? ⟨w4.heap.size, 5, none⟩ = some (.slice y.f.a y.f.l.length y.f.c) ∧ W.cell? ⟨w4.heap.size, 6, none⟩ = some (.slice y.a y.l.length y.c) ∧ W.cell? ⟨w6.heap.size, 0, none⟩ = some (.int .i64 z.k) ∧ W.cell? ⟨w6.heap.size, 1, none⟩ = some (.int .i64 z.n) ∧ W.cell? ⟨w6.heap.size, 2, none⟩ = some (.int .i64 z.t.k) ∧ W.cell? ⟨w6.heap.size, 3, none⟩ = some (.slice z.t.a z.t.l.length z.t.c) ∧ W.cell? ⟨w6.heap.size, 4, none⟩ = some (.int .i64 z.f.k) ∧ W.cell? ⟨w6.heap.size, 5, none⟩ = some (.slice z.f.a z.f.l.length z.f.c) ∧ W.cell? ⟨w6.heap.size, 6, none⟩ = some (.slice z.a z.l.length z.c)) (by kernel_rfl) (HSS.out _ (Hw12.out.trans (((Below.refl _ _).drew).mono Hw12.out.size))) (fun hHeld => ?_)
    have Hd8 : Hid (Below W7.heap.size W7 w12.drew) := Hw12.out.trans (((Below.refl _ _).drew).mono Hw12.out.size)
    refine takeH (i := 0) (v := ?_) rfl (by kernel_rfl) (by kernel_rfl) (by kernel_rfl) (fun _ _ _ h => h) (Or.inl ⟨by rfl, ?_⟩) hHeld ?_; rotate_left; (focus (intro w' hSw; (try dsimp only at hSw); go_split_ands; first | (go_simp; done) | (go_simp; with_reducible rfl))); simp only [Act.put, List.setIfInBounds_toArray, List.set_cons_zero, List.set_cons_succ]
    refine takeH (i := 1) (v := ?_) rfl (by kernel_rfl) (by kernel_rfl) (by kernel_rfl) (fun _ _ _ h => h) (Or.inl ⟨by rfl, ?_⟩) hHeld ?_; rotate_left; (focus (intro w' hSw; (try dsimp only at hSw); go_split_ands; first | (go_simp; done) | (go_simp; with_reducible rfl))); simp only [Act.put, List.setIfInBounds_toArray, List.set_cons_zero, List.set_cons_succ]
    refine takeH (i := 2) (v := ?_) rfl (by kernel_rfl) (by kernel_rfl) (by kernel_rfl) (fun _ _ _ h => h) (Or.inl ⟨by rfl, ?_⟩) hHeld ?_; rotate_left; (focus (intro w' hSw; (try dsimp only at hSw); go_split_ands; first | (go_simp; done) | (go_simp; with_reducible rfl))); simp only [Act.put, List.setIfInBounds_toArray, List.set_cons_zero, List.set_cons_succ]
    refine takeH (i := 3) (v := undef) rfl (by kernel_rfl) (by kernel_rfl) (by kernel_rfl) (fun _ _ _ h => h) (Or.inr ⟨by kernel_rfl, rfl⟩) hHeld ?_; simp only [Act.put, List.setIfInBounds_toArray, List.set_cons_zero, List.set_cons_succ]
    refine takeH (i := 4) (v := undef) rfl (by kernel_rfl) (by kernel_rfl) (by kernel_rfl) (fun _ _ _ h => h) (Or.inr ⟨by kernel_rfl, rfl⟩) hHeld ?_; simp only [Act.put, List.setIfInBounds_toArray, List.set_cons_zero, List.set_cons_succ]
    refine takeH (i := 5) (v := undef) rfl (by kernel_rfl) (by kernel_rfl) (by kernel_rfl) (fun _ _ _ h => h) (Or.inr ⟨by kernel_rfl, rfl⟩) hHeld ?_; simp only [Act.put, List.setIfInBounds_toArray, List.set_cons_zero, List.set_cons_succ]
    refine takeH (i := 6) (v := undef) rfl (by kernel_rfl) (by kernel_rfl) (by kernel_rfl) (fun _ _ _ h => h) (Or.inr ⟨by kernel_rfl, rfl⟩) hHeld ?_; simp only [Act.put, List.setIfInBounds_toArray, List.set_cons_zero, List.set_cons_succ]
    refine takeH (i := 7) (v := undef) rfl (by kernel_rfl) (by kernel_rfl) (by kernel_rfl) (fun _ _ _ h => h) (Or.inr ⟨by kernel_rfl, rfl⟩) hHeld ?_; simp only [Act.put, List.setIfInBounds_toArray, List.set_cons_zero, List.set_cons_succ]
    refine takeH (i := 8) (v := undef) rfl (by kernel_rfl) (by kernel_rfl) (by kernel_rfl) (fun _ _ _ h => h) (Or.inr ⟨by kernel_rfl, rfl⟩) hHeld ?_; simp only [Act.put, List.setIfInBounds_toArray, List.set_cons_zero, List.set_cons_succ]
    refine takeH (i := 9) (v := undef) rfl (by kernel_rfl) (by kernel_rfl) (by kernel_rfl) (fun _ _ _ h => h) (Or.inr ⟨by kernel_rfl, rfl⟩) hHeld ?_; simp only [Act.put, List.setIfInBounds_toArray, List.set_cons_zero, List.set_cons_succ]
    refine takeH (i := 10) (v := undef) rfl (by kernel_rfl) (by kernel_rfl) (by kernel_rfl) (fun _ _ _ h => h) (Or.inr ⟨by kernel_rfl, rfl⟩) hHeld ?_; simp only [Act.put, List.setIfInBounds_toArray, List.set_cons_zero, List.set_cons_succ]
    refine takeH (i := 11) (v := undef) rfl (by kernel_rfl) (by kernel_rfl) (by kernel_rfl) (fun _ _ _ h => h) (Or.inr ⟨by kernel_rfl, rfl⟩) hHeld ?_; simp only [Act.put, List.setIfInBounds_toArray, List.set_cons_zero, List.set_cons_succ]
    refine takeH (i := 12) (v := undef) rfl (by kernel_rfl) (by kernel_rfl) (by kernel_rfl) (fun _ _ _ h => h) (Or.inr ⟨by kernel_rfl, rfl⟩) hHeld ?_; simp only [Act.put, List.setIfInBounds_toArray, List.set_cons_zero, List.set_cons_succ]
    refine takeH (i := 13) (v := undef) rfl (by kernel_rfl) (by kernel_rfl) (by kernel_rfl) (fun _ _ _ h => h) (Or.inr ⟨by kernel_rfl, rfl⟩) hHeld ?_; simp only [Act.put, List.setIfInBounds_toArray, List.set_cons_zero, List.set_cons_succ]
    refine takeH (i := 14) (v := undef) rfl (by kernel_rfl) (by kernel_rfl) (by kernel_rfl) (fun _ _ _ h => h) (Or.inr ⟨by kernel_rfl, rfl⟩) hHeld ?_; simp only [Act.put, List.setIfInBounds_toArray, List.set_cons_zero, List.set_cons_succ]
    refine takeH (i := 15) (v := ?_) rfl (by kernel_rfl) (by kernel_rfl) (by kernel_rfl) (fun _ _ _ h => h) (Or.inl ⟨by rfl, ?_⟩) hHeld ?_; rotate_left; (focus (intro w' hSw; (try dsimp only at hSw); go_split_ands; first | (go_simp; done) | (go_simp; with_reducible rfl))); simp only [Act.put, List.setIfInBounds_toArray, List.set_cons_zero, List.set_cons_succ]
    refine takeH (i := 16) (v := ?_) rfl (by kernel_rfl) (by kernel_rfl) (by kernel_rfl) (fun _ _ _ h => h) (Or.inl ⟨by rfl, ?_⟩) hHeld ?_; rotate_left; (focus (intro w' hSw; (try dsimp only at hSw); go_split_ands; first | (go_simp; done) | (go_simp; with_reducible rfl))); simp only [Act.put, List.setIfInBounds_toArray, List.set_cons_zero, List.set_cons_succ]
    refine wpAnyH_done (by kernel_rfl) ?_ _
    have HN : Hid (Below w.heap.size w (w12.drew)) := HG.out.1.2.2.2.2.2.2.trans (Hd8.out.mono HG.out.1.2.2.2.2.2.2.size)
    clear HSS hHeld Hd8
    go_wp2_with fail
    refine bodyPost_ret (v := .bool true) ?_ rfl ⟨rfl, HN.out⟩
    simp [results, Tryd.results4, go_sem]
  · have HM : Hid (okTm x.tm 0 ∧ x.sz ≤ 40 ∧ c.sz ≤ 40) := by
      obtain ⟨h1, h2⟩ := goodM_ok HGD.out
      refine ⟨h1, by rw [x.sz_tm]; exact h2, ?_⟩
      rw [c.sz_tm, HG.out.1.2.2.1]; exact h2
    have HSC : Hid (∀ W, Below W7.heap.size W7 W → Calls Tryd.prog 19 #[.agg #[.int .i64 c.k, .int .i64 c.n, .int .i64 c.t.k, .slice c.t.a c.t.l.length c.t.c, .int .i64 c.f.k, .slice c.f.a c.f.l.length c.f.c, .slice c.a c.l.length c.c]] W fun e w' => ∃ (a : Option Addr) (d : Nat), e = .returned (.slice a (0 : Nat) d) ∧ Below W.heap.size W w') := fun W hb => by
      have hs : sitesM c.tm = [] := by rw [HG.out.1.2.2.1]; exact sites_ok x.tm _ HM.out.1
      refine (sites_any c W (HG.out.1.2.1.below hb) (by have := HM.out.2.2; omega) (cok_of 44 (by omega) c fun s hs' => by rw [hs] at hs'; cases hs')).mono ?_
      rintro e w' ⟨ss, a, d, rfl, _, hm, hb'⟩
      have h0 : ss.length = 0 := by
        have := congrArg List.length hm
        rw [hs] at this
        simpa using this
      exact ⟨a, d, by rw [h0], hb'⟩
    have HER : Hid (∀ W, Below W7.heap.size W7 W → Calls Tryd.prog 20 #[.agg #[.int .i64 c.k, .int .i64 c.n, .int .i64 c.t.k, .slice c.t.a c.t.l.length c.t.c, .int .i64 c.f.k, .slice c.f.a c.f.l.length c.f.c, .slice c.a c.l.length c.c]] W fun e w' => ∃ u : TT, e = .returned (.agg #[.int .i64 u.k, .int .i64 u.n, .int .i64 u.t.k, .slice u.t.a u.t.l.length u.t.c, .int .i64 u.f.k, .slice u.f.a u.f.l.length u.f.c, .slice u.a u.l.length u.c]) ∧ Hid (u.In w' ∧ u.tm = eraseM x.tm) ∧ Below W.heap.size W w') := fun W hb => by
      refine (erase_any c W (HG.out.1.2.1.below hb) (by have := HM.out.2.2; omega)).mono ?_
      rintro e w' ⟨u, rfl, h1, h2, h3⟩
      exact ⟨u, rfl, ⟨h1, by rw [h2, HG.out.1.2.2.1]⟩, h3⟩
    have HET : Hid (∀ W, Below W7.heap.size W7 W → Calls Tryd.prog 21 #[.agg #[.int .i64 x.k, .int .i64 x.n, .int .i64 x.t.k, .slice x.t.a x.t.l.length x.t.c, .int .i64 x.f.k, .slice x.f.a x.f.l.length x.f.c, .slice x.a x.l.length x.c]] W fun e w' => ∃ u : TT, e = .returned (.agg #[.int .i64 u.k, .int .i64 u.n, .int .i64 u.t.k, .slice u.t.a u.t.l.length u.t.c, .int .i64 u.f.k, .slice u.f.a u.f.l.length u.f.c, .slice u.a u.l.length u.c]) ∧ Hid (u.In w' ∧ u.tm = eraseM x.tm) ∧ Below W.heap.size W w') := fun W hb => by
      refine (eraseTm_any x.sz x W (Nat.le_refl _) (HG.out.1.1.below hb) (by have := HM.out.2.1; omega)).mono ?_
      rintro e w' ⟨u, rfl, h1, h2, _, h3⟩
      exact ⟨u, rfl, ⟨h2, h1⟩, h3⟩
    by_cases hec : ec = 0
    · have HR : Hid (readS x.tm [] 0 = some (y.tm, i.ty)) := by
        rcases HK.out with ⟨h, _⟩ | ⟨h, _⟩ | ⟨_, _, h⟩
        · omega
        · omega
        · exact h
      subst hec
      clear HK
      have HY80 : Hid (y.sz ≤ 80) := HG.out.2.1.1.2.2.2.1
      have HZ80 : Hid (z.sz ≤ 80) := HG.out.2.2.1.1.2.2.2.1
      have HSY : Hid (∀ W, Below W7.heap.size W7 W → Calls Tryd.prog 19 #[.agg #[.int .i64 y.k, .int .i64 y.n, .int .i64 y.t.k, .slice y.t.a y.t.l.length y.t.c, .int .i64 y.f.k, .slice y.f.a y.f.l.length y.f.c, .slice y.a y.l.length y.c]] W fun e w' => ∃ (ss : List St) (a : Option Addr) (d : Nat), e = .returned (.slice a ss.length d) ∧ Hid (SL w' a ss ∧ ss.map St.m = sitesM y.tm) ∧ Below W.heap.size W w') := fun W hb => by
        refine (sites_any y W (HG.out.2.1.1.1.below hb) (by have := HY80.out; omega) (cok_of 44 (by omega) y fun s hs => by
          obtain ⟨hok, h40⟩ := goodM_ok HGD.out
          have S := read_sites x.tm [] 0 y.tm i.ty hok (fun u h => by cases h) HR.out
          have h4 := (S.inn s hs).2.2.more (m' := 44) (by omega)
          exact ⟨h4.1, h4.2.1⟩)).mono ?_
        rintro e w' ⟨ss, a, d, rfl, ⟨hs, _⟩, hm, hb'⟩
        exact ⟨ss, a, d, rfl, ⟨hs, hm⟩, hb'⟩
      have HSZ : Hid (∀ W, Below W7.heap.size W7 W → Calls Tryd.prog 23 #[.agg #[.int .i64 z.k, .int .i64 z.n, .int .i64 z.t.k, .slice z.t.a z.t.l.length z.t.c, .int .i64 z.f.k, .slice z.f.a z.f.l.length z.f.c, .slice z.a z.l.length z.c]] W fun e w' => ∃ (ss : List St) (a : Option Addr) (d : Nat), e = .returned (.slice a ss.length d) ∧ Hid (SL w' a ss ∧ ss.map St.m = sitesM y.tm) ∧ Below W.heap.size W w') := fun W hb => by
        refine (sitesOf_any z W (HG.out.2.2.1.1.1.below hb) (by have := HZ80.out; omega)).mono ?_
        rintro e w' ⟨ss, a, d, rfl, ⟨hs, _⟩, hm, hb'⟩
        exact ⟨ss, a, d, rfl, ⟨hs, by rw [hm, HG.out.2.2.2.1]⟩, hb'⟩
      have HSS2 : Hid (∀ (ss ts : List St) (a b : Option Addr) (d d' : Nat) (W : World), (SL W a ss ∧ SL W b ts ∧ ss.map St.m = sitesM y.tm ∧ ts.map St.m = sitesM y.tm) → Calls Tryd.prog 22 #[.slice a ss.length d, .slice b ts.length d'] W fun e w' => e = .returned (.bool true) ∧ Below W.heap.size W w') := fun ss ts a b d d' W h => by
        have F := sites_facts HGD.out HR.out h.2.2.1
        refine sameSites_yes ss ts a b d d' W h.1 h.2.1 (h.2.2.1.trans h.2.2.2.symm) (fun s hs => ⟨Tr.sm_good 44 _ (F.gf s hs).1, Tr.sm_good 44 _ (F.gf s hs).2⟩) ?_
        have := F.sz
        have := HY80.out
        omega
      have HEY : Hid (∀ W, Below W7.heap.size W7 W → Calls Tryd.prog 20 #[.agg #[.int .i64 y.k, .int .i64 y.n, .int .i64 y.t.k, .slice y.t.a y.t.l.length y.t.c, .int .i64 y.f.k, .slice y.f.a y.f.l.length y.f.c, .slice y.a y.l.length y.c]] W fun e w' => ∃ u : TT, e = .returned (.agg #[.int .i64 u.k, .int .i64 u.n, .int .i64 u.t.k, .slice u.t.a u.t.l.length u.t.c, .int .i64 u.f.k, .slice u.f.a u.f.l.length u.f.c, .slice u.a u.l.length u.c]) ∧ Hid (u.In w' ∧ u.tm = eraseM y.tm) ∧ Below W.heap.size W w') := fun W hb => by
        refine (erase_any y W (HG.out.2.1.1.1.below hb) (by have := HY80.out; omega)).mono ?_
        rintro e w' ⟨u, rfl, h1, h2, h3⟩
        exact ⟨u, rfl, ⟨h1, h2⟩, h3⟩
      have HEZ : Hid (∀ W, Below W7.heap.size W7 W → Calls Tryd.prog 21 #[.agg #[.int .i64 z.k, .int .i64 z.n, .int .i64 z.t.k, .slice z.t.a z.t.l.length z.t.c, .int .i64 z.f.k, .slice z.f.a z.f.l.length z.f.c, .slice z.a z.l.length z.c]] W fun e w' => ∃ u : TT, e = .returned (.agg #[.int .i64 u.k, .int .i64 u.n, .int .i64 u.t.k, .slice u.t.a u.t.l.length u.t.c, .int .i64 u.f.k, .slice u.f.a u.f.l.length u.f.c, .slice u.a u.l.length u.c]) ∧ Hid (u.In w' ∧ u.tm = eraseM y.tm) ∧ Below W.heap.size W w') := fun W hb => by
        refine (eraseTm_any z.sz z W (Nat.le_refl _) (HG.out.2.2.1.1.1.below hb) (by have := HZ80.out; omega)).mono ?_
        rintro e w' ⟨u, rfl, h1, h2, _, h3⟩
        exact ⟨u, rfl, ⟨h2, by rw [h1, HG.out.2.2.2.1]⟩, h3⟩
      have HSS : Hid (∀ W, Below W7.heap.size W7 W → (fun W : World => W.cell? ⟨w.heap.size, 0, none⟩ = some (.int .i64 x.k) ∧ W.cell? ⟨w.heap.size, 1, none⟩ = some (.int .i64 x.n) ∧ W.cell? ⟨w.heap.size, 2, none⟩ = some (.int .i64 x.t.k) ∧ W.cell? ⟨w.heap.size, 3, none⟩ = some (.slice x.t.a x.t.l.length x.t.c) ∧ W.cell? ⟨w.heap.size, 4, none⟩ = some (.int .i64 x.f.k) ∧ W.cell? ⟨w.heap.size, 5, none⟩ = some (.slice x.f.a x.f.l.length x.f.c) ∧ W.cell? ⟨w.heap.size, 6, none⟩ = some (.slice x.a x.l.length x.c) ∧ W.cell? ⟨w2.heap.size, 0, none⟩ = some (.int .i64 c.k) ∧ W.cell? ⟨w2.heap.size, 1, none⟩ = some (.int .i64 c.n) ∧ W.cell? ⟨w2.heap.size, 2, none⟩ = some (.int .i64 c.t.k) ∧ W.cell? ⟨w2.heap.size, 3, none⟩ = some (.slice c.t.a c.t.l.length c.t.c) ∧ W.cell? ⟨w2.heap.size, 4, none⟩ = some (.int .i64 c.f.k) ∧ W.cell? ⟨w2.heap.size, 5, none⟩ = some (.slice c.f.a c.f.l.length c.f.c) ∧ W.cell? ⟨w2.heap.size, 6, none⟩ = some (.slice c.a c.l.length c.c)) W) := fun W hb => HS6.out W hb
      go_upto_region 6 with fail
      refine wp_region_held_drew (S := fun W : World => W.cell? ⟨w.heap.size, 0, none⟩ = some (.int .i64 x.k) ∧ W.cell? ⟨w.heap.size, 1, none⟩ = some (.int .i64 x.n) ∧ W.cell? ⟨w.heap.size, 2, none⟩ = some (.int .i64 x.t.k) ∧ W.cell? ⟨w.heap.size, 3, none⟩ = some (.slice x.t.a x.t.l.length x.t.c) ∧ W.cell? ⟨w.heap.size, 4, none⟩ = some (.int .i64 x.f.k) ∧ W.cell? ⟨w.heap.size, 5, none⟩ = some (.slice x.f.a x.f.l.length x.f.c) ∧ W.cell? ⟨w.heap.size, 6, none⟩ = some (.slice x.a x.l.length x.c) ∧ W.cell? ⟨w2.heap.size, 0, none⟩ = some (.int .i64 c.k) ∧ W.cell? ⟨w2.heap.size, 1, none⟩ = some (.int .i64 c.n) ∧ W.cell? ⟨w2.heap.size, 2, none⟩ = some (.int .i64 c.t.k) ∧ W.cell? ⟨w2.heap.size, 3, none⟩ = some (.slice c.t.a c.t.l.length c.t.c) ∧ W.cell? ⟨w2.heap.size, 4, none⟩ = some (.int .i64 c.f.k) ∧ W.cell? ⟨w2.heap.size, 5, none⟩ = some (.slice c.f.a c.f.l.length c.f.c) ∧ W.cell? ⟨w2.heap.size, 6, none⟩ = some (.slice c.a c.l.length c.c)) (by kernel_rfl) (HSS.out _ (Hw11.out.trans (((Below.refl _ _).drew).mono Hw11.out.size))) (fun hHeld => ?_)
      have Hd6 : Hid (Below W7.heap.size W7 w11.drew) := Hw11.out.trans (((Below.refl _ _).drew).mono Hw11.out.size)
      refine takeH (i := 0) (v := ?_) rfl (by kernel_rfl) (by kernel_rfl) (by kernel_rfl) (fun _ _ _ h => h) (Or.inl ⟨by rfl, ?_⟩) hHeld ?_; rotate_left; (focus (intro w' hSw; (try dsimp only at hSw); go_split_ands; first | (go_simp; done) | (go_simp; with_reducible rfl))); simp only [Act.put, List.setIfInBounds_toArray, List.set_cons_zero, List.set_cons_succ]
      refine oneH (i := 1) rfl (by kernel_rfl) (fun K hK => ?_)
      go_simp
      go_at_call 18
      refine (HT.out _ Hd6.out).mono ?_
      rintro e w12 ⟨rfl, hbw12⟩
      have Hw12 : Hid (Below W7.heap.size W7 w12) := Hd6.out.trans (hbw12.mono Hd6.out.size)
      clear hbw12
      refine hK.out _ _ (HSS.out _ Hw12.out) (fun hHeld => ?_)
      clear hK K
      refine takeH (i := 2) (v := ?_) rfl (by kernel_rfl) (by kernel_rfl) (by kernel_rfl) (fun _ _ _ h => h) (Or.inl ⟨by rfl, ?_⟩) hHeld ?_; rotate_left; (focus (intro w' hSw; (try dsimp only at hSw); go_split_ands; first | (go_simp; done) | (go_simp; with_reducible rfl))); simp only [Act.put, List.setIfInBounds_toArray, List.set_cons_zero, List.set_cons_succ]
      refine takeH (i := 3) (v := ?_) rfl (by kernel_rfl) (by kernel_rfl) (by kernel_rfl) (fun _ _ _ h => h) (Or.inl ⟨by rfl, ?_⟩) hHeld ?_; rotate_left; (focus (intro w' hSw; (try dsimp only at hSw); go_split_ands; first | (go_simp; done) | (go_simp; with_reducible rfl))); simp only [Act.put, List.setIfInBounds_toArray, List.set_cons_zero, List.set_cons_succ]
      refine oneH (i := 4) rfl (by kernel_rfl) (fun K hK => ?_)
      go_simp
      go_at_call 19
      refine (HSC.out _ Hw12.out).mono ?_
      rintro e w13 ⟨sa, sc, rfl, hbw13⟩
      have Hw13 : Hid (Below W7.heap.size W7 w13) := Hw12.out.trans (hbw13.mono Hw12.out.size)
      clear hbw13
      refine hK.out _ _ (HSS.out _ Hw13.out) (fun hHeld => ?_)
      clear hK K
      refine takeH (i := 5) (v := ?_) rfl (by kernel_rfl) (by kernel_rfl) (by kernel_rfl) (fun _ _ _ h => h) (Or.inl ⟨by rfl, ?_⟩) hHeld ?_; rotate_left; (focus (intro w' hSw; (try dsimp only at hSw); go_split_ands; first | (go_simp; done) | (go_simp; with_reducible rfl))); simp only [Act.put, List.setIfInBounds_toArray, List.set_cons_zero, List.set_cons_succ]
      refine takeH (i := 6) (v := ?_) rfl (by kernel_rfl) (by kernel_rfl) (by kernel_rfl) (fun _ _ _ h => h) (Or.inl ⟨by rfl, ?_⟩) hHeld ?_; rotate_left; (focus (intro w' hSw; (try dsimp only at hSw); go_split_ands; first | (go_simp; done) | (go_simp; with_reducible rfl))); simp only [Act.put, List.setIfInBounds_toArray, List.set_cons_zero, List.set_cons_succ]
      refine takeH (i := 7) (v := ?_) rfl (by kernel_rfl) (by kernel_rfl) (by kernel_rfl) (fun _ _ _ h => h) (Or.inl ⟨by rfl, ?_⟩) hHeld ?_; rotate_left; (focus (intro w' hSw; (try dsimp only at hSw); go_split_ands; first | (go_simp; done) | (go_simp; with_reducible rfl))); simp only [Act.put, List.setIfInBounds_toArray, List.set_cons_zero, List.set_cons_succ]
      refine takeH (i := 8) (v := ?_) rfl (by kernel_rfl) (by kernel_rfl) (by kernel_rfl) (fun _ _ _ h => h) (Or.inl ⟨by rfl, ?_⟩) hHeld ?_; rotate_left; (focus (intro w' hSw; (try dsimp only at hSw); go_split_ands; first | (go_simp; done) | (go_simp; with_reducible rfl))); simp only [Act.put, List.setIfInBounds_toArray, List.set_cons_zero, List.set_cons_succ]
      refine takeH (i := 10) (v := ?_) rfl (by kernel_rfl) (by kernel_rfl) (by kernel_rfl) (fun _ _ _ h => h) (Or.inl ⟨by rfl, ?_⟩) hHeld ?_; rotate_left; (focus (intro w' hSw; (try dsimp only at hSw); go_split_ands; first | (go_simp; done) | (go_simp; with_reducible rfl))); simp only [Act.put, List.setIfInBounds_toArray, List.set_cons_zero, List.set_cons_succ]
      refine oneH (i := 9) rfl (by kernel_rfl) (fun K hK => ?_)
      go_simp
      go_at_call 20
      refine (HER.out _ Hw13.out).mono ?_
      rintro e w14 ⟨u, rfl, HU, hbw14⟩
      have Hw14 : Hid (Below W7.heap.size W7 w14) := Hw13.out.trans (hbw14.mono Hw13.out.size)
      clear hbw14
      refine hK.out _ _ (HSS.out _ Hw14.out) (fun hHeld => ?_)
      clear hK K
      refine oneH (i := 11) rfl (by kernel_rfl) (fun K hK => ?_)
      go_simp
      go_at_call 21
      refine (HET.out _ Hw14.out).mono ?_
      rintro e w15 ⟨v, rfl, HV, hbw15⟩
      have HUV : Hid (u.In w15 ∧ v.In w15 ∧ u.tm = v.tm ∧ u.tm = eraseM x.tm ∧ x.sz ≤ 40) := ⟨HU.out.1.below hbw15, HV.out.1, HU.out.2.trans HV.out.2.symm, HU.out.2, HM.out.2.1⟩
      have Hw15 : Hid (Below W7.heap.size W7 w15) := Hw14.out.trans (hbw15.mono Hw14.out.size)
      clear hbw15
      refine hK.out _ _ (HSS.out _ Hw15.out) (fun hHeld => ?_)
      clear hK K
      refine oneH (i := 12) rfl (by kernel_rfl) (fun K hK => ?_)
      go_simp
      go_at_call 15
      refine (same_erased HUV.out).mono ?_
      rintro e w16 ⟨rfl, hbw16⟩
      have Hw16 : Hid (Below W7.heap.size W7 w16) := Hw15.out.trans (hbw16.mono Hw15.out.size)
      clear hbw16
      refine hK.out _ _ (HSS.out _ Hw16.out) (fun hHeld => ?_)
      clear hK K
      refine takeH (i := 13) (v := ?_) rfl (by kernel_rfl) (by kernel_rfl) (by kernel_rfl) (fun _ _ _ h => h) (Or.inl ⟨by rfl, ?_⟩) hHeld ?_; rotate_left; (focus (intro w' hSw; (try dsimp only at hSw); go_split_ands; first | (go_simp; done) | (go_simp; with_reducible rfl))); simp only [Act.put, List.setIfInBounds_toArray, List.set_cons_zero, List.set_cons_succ]
      refine takeH (i := 14) (v := ?_) rfl (by kernel_rfl) (by kernel_rfl) (by kernel_rfl) (fun _ _ _ h => h) (Or.inl ⟨by rfl, ?_⟩) hHeld ?_; rotate_left; (focus (intro w' hSw; (try dsimp only at hSw); go_split_ands; first | (go_simp; done) | (go_simp; with_reducible rfl))); simp only [Act.put, List.setIfInBounds_toArray, List.set_cons_zero, List.set_cons_succ]
      refine takeH (i := 15) (v := ?_) rfl (by kernel_rfl) (by kernel_rfl) (by kernel_rfl) (fun _ _ _ h => h) (Or.inl ⟨by rfl, ?_⟩) hHeld ?_; rotate_left; (focus (intro w' hSw; (try dsimp only at hSw); go_split_ands; first | (go_simp; done) | (go_simp; with_reducible rfl))); simp only [Act.put, List.setIfInBounds_toArray, List.set_cons_zero, List.set_cons_succ]
      refine wpAnyH_done (by kernel_rfl) ?_ _
      clear HSS hHeld Hd6
      have HSS : Hid (∀ W, Below W7.heap.size W7 W → (fun W : World => W.cell? ⟨w4.heap.size, 0, none⟩ = some (.int .i64 y.k) ∧ W.cell? ⟨w4.heap.size, 1, none⟩ = some (.int .i64 y.n) ∧ W.cell? ⟨w4.heap.size, 2, none⟩ = some (.int .i64 y.t.k) ∧ W.cell? ⟨w4.heap.size, 3, none⟩ = some (.slice y.t.a y.t.l.length y.t.c) ∧ W.cell? ⟨w4.heap.size, 4, none⟩ = some (.int .i64 y.f.k) ∧ W.cell? ⟨w4.heap.size, 5, none⟩ = some (.slice y.f.a y.f.l.length y.f.c) ∧ W.cell? ⟨w4.heap.size, 6, none⟩ = some (.slice y.a y.l.length y.c) ∧ W.cell? ⟨w6.heap.size, 0, none⟩ = some (.int .i64 z.k) ∧ W.cell? ⟨w6.heap.size, 1, none⟩ = some (.int .i64 z.n) ∧ W.cell? ⟨w6.heap.size, 2, none⟩ = some (.int .i64 z.t.k) ∧ W.cell? ⟨w6.heap.size, 3, none⟩ = some (.slice z.t.a z.t.l.length z.t.c) ∧ W.cell? ⟨w6.heap.size, 4, none⟩ = some (.int .i64 z.f.k) ∧ W.cell? ⟨w6.heap.size, 5, none⟩ = some (.slice z.f.a z.f.l.length z.f.c) ∧ W.cell? ⟨w6.heap.size, 6, none⟩ = some (.slice z.a z.l.length z.c)) W) := fun W hb => HS8.out W hb
      go_upto_region 8 with fail
      refine wp_region_held_drew (S := fun W : World => W.cell? ⟨w4.heap.size, 0, none⟩ = some (.int .i64 y.k) ∧ W.cell? ⟨w4.heap.size, 1, none⟩ = some (.int .i64 y.n) ∧ W.cell? ⟨w4.heap.size, 2, none⟩ = some (.int .i64 y.t.k) ∧ W.cell? ⟨w4.heap.size, 3, none⟩ = some (.slice y.t.a y.t.l.length y.t.c) ∧ W.cell? ⟨w4.heap.size, 4, none⟩ = some (.int .i64 y.f.k) ∧ W.cell? ⟨w4.heap.size, 5, none⟩ = some (.slice y.f.a y.f.l.length y.f.c) ∧ W.cell? ⟨w4.heap.size, 6, none⟩ = some (.slice y.a y.l.length y.c) ∧ W.cell? ⟨w6.heap.size, 0, none⟩ = some (.int .i64 z.k) ∧ W.cell? ⟨w6.heap.size, 1, none⟩ = some (.int .i64 z.n) ∧ W.cell? ⟨w6.heap.size, 2, none⟩ = some (.int .i64 z.t.k) ∧ W.cell? ⟨w6.heap.size, 3, none⟩ = some (.slice z.t.a z.t.l.length z.t.c) ∧ W.cell? ⟨w6.heap.size, 4, none⟩ = some (.int .i64 z.f.k) ∧ W.cell? ⟨w6.heap.size, 5, none⟩ = some (.slice z.f.a z.f.l.length z.f.c) ∧ W.cell? ⟨w6.heap.size, 6, none⟩ = some (.slice z.a z.l.length z.c)) (by kernel_rfl) (HSS.out _ (Hw16.out.trans (((Below.refl _ _).drew).mono Hw16.out.size))) (fun hHeld => ?_)
      have Hd8 : Hid (Below W7.heap.size W7 w16.drew) := Hw16.out.trans (((Below.refl _ _).drew).mono Hw16.out.size)
      refine takeH (i := 0) (v := ?_) rfl (by kernel_rfl) (by kernel_rfl) (by kernel_rfl) (fun _ _ _ h => h) (Or.inl ⟨by rfl, ?_⟩) hHeld ?_; rotate_left; (focus (intro w' hSw; (try dsimp only at hSw); go_split_ands; first | (go_simp; done) | (go_simp; with_reducible rfl))); simp only [Act.put, List.setIfInBounds_toArray, List.set_cons_zero, List.set_cons_succ]
      refine takeH (i := 1) (v := ?_) rfl (by kernel_rfl) (by kernel_rfl) (by kernel_rfl) (fun _ _ _ h => h) (Or.inl ⟨by rfl, ?_⟩) hHeld ?_; rotate_left; (focus (intro w' hSw; (try dsimp only at hSw); go_split_ands; first | (go_simp; done) | (go_simp; with_reducible rfl))); simp only [Act.put, List.setIfInBounds_toArray, List.set_cons_zero, List.set_cons_succ]
      refine takeH (i := 2) (v := ?_) rfl (by kernel_rfl) (by kernel_rfl) (by kernel_rfl) (fun _ _ _ h => h) (Or.inl ⟨by rfl, ?_⟩) hHeld ?_; rotate_left; (focus (intro w' hSw; (try dsimp only at hSw); go_split_ands; first | (go_simp; done) | (go_simp; with_reducible rfl))); simp only [Act.put, List.setIfInBounds_toArray, List.set_cons_zero, List.set_cons_succ]
      refine takeH (i := 3) (v := ?_) rfl (by kernel_rfl) (by kernel_rfl) (by kernel_rfl) (fun _ _ _ h => h) (Or.inl ⟨by rfl, ?_⟩) hHeld ?_; rotate_left; (focus (intro w' hSw; (try dsimp only at hSw); go_split_ands; first | (go_simp; done) | (go_simp; with_reducible rfl))); simp only [Act.put, List.setIfInBounds_toArray, List.set_cons_zero, List.set_cons_succ]
      refine takeH (i := 5) (v := ?_) rfl (by kernel_rfl) (by kernel_rfl) (by kernel_rfl) (fun _ _ _ h => h) (Or.inl ⟨by rfl, ?_⟩) hHeld ?_; rotate_left; (focus (intro w' hSw; (try dsimp only at hSw); go_split_ands; first | (go_simp; done) | (go_simp; with_reducible rfl))); simp only [Act.put, List.setIfInBounds_toArray, List.set_cons_zero, List.set_cons_succ]
      refine oneH (i := 4) rfl (by kernel_rfl) (fun K hK => ?_)
      go_simp
      go_at_call 19
      refine (HSY.out _ Hd8.out).mono ?_
      rintro e w17 ⟨ss, sa2, sc2, rfl, HQ1, hbw17⟩
      have Hw17 : Hid (Below W7.heap.size W7 w17) := Hd8.out.trans (hbw17.mono Hd8.out.size)
      clear hbw17
      refine hK.out _ _ (HSS.out _ Hw17.out) (fun hHeld => ?_)
      clear hK K
      refine oneH (i := 6) rfl (by kernel_rfl) (fun K hK => ?_)
      go_simp
      go_at_call 23
      refine (HSZ.out _ Hw17.out).mono ?_
      rintro e w18 ⟨ts, sa3, sc3, rfl, HQ2, hbw18⟩
      have HQ : Hid (SL w18 sa2 ss ∧ SL w18 sa3 ts ∧ ss.map St.m = sitesM y.tm ∧ ts.map St.m = sitesM y.tm) := ⟨SL_below HQ1.out.1 hbw18, HQ2.out.1, HQ1.out.2, HQ2.out.2⟩
      have Hw18 : Hid (Below W7.heap.size W7 w18) := Hw17.out.trans (hbw18.mono Hw17.out.size)
      clear hbw18
      refine hK.out _ _ (HSS.out _ Hw18.out) (fun hHeld => ?_)
      clear hK K
      refine oneH (i := 7) rfl (by kernel_rfl) (fun K hK => ?_)
      go_simp
      go_at_call 22
      refine (HSS2.out ss ts sa2 sa3 sc2 sc3 _ HQ.out).mono ?_
      rintro e w19 ⟨rfl, hbw19⟩
      have Hw19 : Hid (Below W7.heap.size W7 w19) := Hw18.out.trans (hbw19.mono Hw18.out.size)
      clear hbw19
      refine hK.out _ _ (HSS.out _ Hw19.out) (fun hHeld => ?_)
      clear hK K
      refine takeH (i := 8) (v := ?_) rfl (by kernel_rfl) (by kernel_rfl) (by kernel_rfl) (fun _ _ _ h => h) (Or.inl ⟨by rfl, ?_⟩) hHeld ?_; rotate_left; (focus (intro w' hSw; (try dsimp only at hSw); go_split_ands; first | (go_simp; done) | (go_simp; with_reducible rfl))); simp only [Act.put, List.setIfInBounds_toArray, List.set_cons_zero, List.set_cons_succ]
      refine takeH (i := 9) (v := ?_) rfl (by kernel_rfl) (by kernel_rfl) (by kernel_rfl) (fun _ _ _ h => h) (Or.inl ⟨by rfl, ?_⟩) hHeld ?_; rotate_left; (focus (intro w' hSw; (try dsimp only at hSw); go_split_ands; first | (go_simp; done) | (go_simp; with_reducible rfl))); simp only [Act.put, List.setIfInBounds_toArray, List.set_cons_zero, List.set_cons_succ]
      refine takeH (i := 11) (v := ?_) rfl (by kernel_rfl) (by kernel_rfl) (by kernel_rfl) (fun _ _ _ h => h) (Or.inl ⟨by rfl, ?_⟩) hHeld ?_; rotate_left; (focus (intro w' hSw; (try dsimp only at hSw); go_split_ands; first | (go_simp; done) | (go_simp; with_reducible rfl))); simp only [Act.put, List.setIfInBounds_toArray, List.set_cons_zero, List.set_cons_succ]
      refine oneH (i := 10) rfl (by kernel_rfl) (fun K hK => ?_)
      go_simp
      go_at_call 20
      refine (HEY.out _ Hw19.out).mono ?_
      rintro e w20 ⟨u2, rfl, HU2, hbw20⟩
      have Hw20 : Hid (Below W7.heap.size W7 w20) := Hw19.out.trans (hbw20.mono Hw19.out.size)
      clear hbw20
      refine hK.out _ _ (HSS.out _ Hw20.out) (fun hHeld => ?_)
      clear hK K
      refine oneH (i := 12) rfl (by kernel_rfl) (fun K hK => ?_)
      go_simp
      go_at_call 21
      refine (HEZ.out _ Hw20.out).mono ?_
      rintro e w21 ⟨v2, rfl, HV2, hbw21⟩
      have HUV2 : Hid (u2.In w21 ∧ v2.In w21 ∧ u2.tm = v2.tm ∧ u2.tm = eraseM y.tm ∧ y.sz ≤ 80) := ⟨HU2.out.1.below hbw21, HV2.out.1, HU2.out.2.trans HV2.out.2.symm, HU2.out.2, HY80.out⟩
      have Hw21 : Hid (Below W7.heap.size W7 w21) := Hw20.out.trans (hbw21.mono Hw20.out.size)
      clear hbw21
      refine hK.out _ _ (HSS.out _ Hw21.out) (fun hHeld => ?_)
      clear hK K
      refine oneH (i := 13) rfl (by kernel_rfl) (fun K hK => ?_)
      go_simp
      go_at_call 15
      refine (same_erased2 HUV2.out).mono ?_
      rintro e w22 ⟨rfl, hbw22⟩
      have Hw22 : Hid (Below W7.heap.size W7 w22) := Hw21.out.trans (hbw22.mono Hw21.out.size)
      clear hbw22
      refine hK.out _ _ (HSS.out _ Hw22.out) (fun hHeld => ?_)
      clear hK K
      refine takeH (i := 14) (v := ?_) rfl (by kernel_rfl) (by kernel_rfl) (by kernel_rfl) (fun _ _ _ h => h) (Or.inl ⟨by rfl, ?_⟩) hHeld ?_; rotate_left; (focus (intro w' hSw; (try dsimp only at hSw); go_split_ands; first | (go_simp; done) | (go_simp; with_reducible rfl))); simp only [Act.put, List.setIfInBounds_toArray, List.set_cons_zero, List.set_cons_succ]
      refine takeH (i := 15) (v := ?_) rfl (by kernel_rfl) (by kernel_rfl) (by kernel_rfl) (fun _ _ _ h => h) (Or.inl ⟨by rfl, ?_⟩) hHeld ?_; rotate_left; (focus (intro w' hSw; (try dsimp only at hSw); go_split_ands; first | (go_simp; done) | (go_simp; with_reducible rfl))); simp only [Act.put, List.setIfInBounds_toArray, List.set_cons_zero, List.set_cons_succ]
      refine takeH (i := 16) (v := ?_) rfl (by kernel_rfl) (by kernel_rfl) (by kernel_rfl) (fun _ _ _ h => h) (Or.inl ⟨by rfl, ?_⟩) hHeld ?_; rotate_left; (focus (intro w' hSw; (try dsimp only at hSw); go_split_ands; first | (go_simp; done) | (go_simp; with_reducible rfl))); simp only [Act.put, List.setIfInBounds_toArray, List.set_cons_zero, List.set_cons_succ]
      refine wpAnyH_done (by kernel_rfl) ?_ _
      have HN : Hid (Below w.heap.size w (w22)) := HG.out.1.2.2.2.2.2.2.trans (Hw22.out.mono HG.out.1.2.2.2.2.2.2.size)
      clear HSS hHeld Hd8
      go_wp2_with fail
      refine bodyPost_ret (v := .bool true) ?_ rfl ⟨rfl, HN.out⟩
      simp [results, Tryd.results4, go_sem]
    · have hec2 : ec = 2 := by
        rcases HK.out with ⟨_, h⟩ | ⟨h, _⟩ | ⟨h, _⟩
        · cases h
        · exact h
        · exact absurd h hec
      subst hec2
      clear HK hec
      have HSS : Hid (∀ W, Below W7.heap.size W7 W → (fun W : World => W.cell? ⟨w.heap.size, 0, none⟩ = some (.int .i64 x.k) ∧ W.cell? ⟨w.heap.size, 1, none⟩ = some (.int .i64 x.n) ∧ W.cell? ⟨w.heap.size, 2, none⟩ = some (.int .i64 x.t.k) ∧ W.cell? ⟨w.heap.size, 3, none⟩ = some (.slice x.t.a x.t.l.length x.t.c) ∧ W.cell? ⟨w.heap.size, 4, none⟩ = some (.int .i64 x.f.k) ∧ W.cell? ⟨w.heap.size, 5, none⟩ = some (.slice x.f.a x.f.l.length x.f.c) ∧ W.cell? ⟨w.heap.size, 6, none⟩ = some (.slice x.a x.l.length x.c) ∧ W.cell? ⟨w2.heap.size, 0, none⟩ = some (.int .i64 c.k) ∧ W.cell? ⟨w2.heap.size, 1, none⟩ = some (.int .i64 c.n) ∧ W.cell? ⟨w2.heap.size, 2, none⟩ = some (.int .i64 c.t.k) ∧ W.cell? ⟨w2.heap.size, 3, none⟩ = some (.slice c.t.a c.t.l.length c.t.c) ∧ W.cell? ⟨w2.heap.size, 4, none⟩ = some (.int .i64 c.f.k) ∧ W.cell? ⟨w2.heap.size, 5, none⟩ = some (.slice c.f.a c.f.l.length c.f.c) ∧ W.cell? ⟨w2.heap.size, 6, none⟩ = some (.slice c.a c.l.length c.c)) W) := fun W hb => HS6.out W hb
      go_upto_region 6 with fail
      refine wp_region_held_drew (S := fun W : World => W.cell? ⟨w.heap.size, 0, none⟩ = some (.int .i64 x.k) ∧ W.cell? ⟨w.heap.size, 1, none⟩ = some (.int .i64 x.n) ∧ W.cell? ⟨w.heap.size, 2, none⟩ = some (.int .i64 x.t.k) ∧ W.cell? ⟨w.heap.size, 3, none⟩ = some (.slice x.t.a x.t.l.length x.t.c) ∧ W.cell? ⟨w.heap.size, 4, none⟩ = some (.int .i64 x.f.k) ∧ W.cell? ⟨w.heap.size, 5, none⟩ = some (.slice x.f.a x.f.l.length x.f.c) ∧ W.cell? ⟨w.heap.size, 6, none⟩ = some (.slice x.a x.l.length x.c) ∧ W.cell? ⟨w2.heap.size, 0, none⟩ = some (.int .i64 c.k) ∧ W.cell? ⟨w2.heap.size, 1, none⟩ = some (.int .i64 c.n) ∧ W.cell? ⟨w2.heap.size, 2, none⟩ = some (.int .i64 c.t.k) ∧ W.cell? ⟨w2.heap.size, 3, none⟩ = some (.slice c.t.a c.t.l.length c.t.c) ∧ W.cell? ⟨w2.heap.size, 4, none⟩ = some (.int .i64 c.f.k) ∧ W.cell? ⟨w2.heap.size, 5, none⟩ = some (.slice c.f.a c.f.l.length c.f.c) ∧ W.cell? ⟨w2.heap.size, 6, none⟩ = some (.slice c.a c.l.length c.c)) (by kernel_rfl) (HSS.out _ (Hw11.out.trans (((Below.refl _ _).drew).mono Hw11.out.size))) (fun hHeld => ?_)
      have Hd6 : Hid (Below W7.heap.size W7 w11.drew) := Hw11.out.trans (((Below.refl _ _).drew).mono Hw11.out.size)
      refine takeH (i := 0) (v := ?_) rfl (by kernel_rfl) (by kernel_rfl) (by kernel_rfl) (fun _ _ _ h => h) (Or.inl ⟨by rfl, ?_⟩) hHeld ?_; rotate_left; (focus (intro w' hSw; (try dsimp only at hSw); go_split_ands; first | (go_simp; done) | (go_simp; with_reducible rfl))); simp only [Act.put, List.setIfInBounds_toArray, List.set_cons_zero, List.set_cons_succ]
      refine oneH (i := 1) rfl (by kernel_rfl) (fun K hK => ?_)
      go_simp
      go_at_call 18
      refine (HT.out _ Hd6.out).mono ?_
      rintro e w12 ⟨rfl, hbw12⟩
      have Hw12 : Hid (Below W7.heap.size W7 w12) := Hd6.out.trans (hbw12.mono Hd6.out.size)
      clear hbw12
      refine hK.out _ _ (HSS.out _ Hw12.out) (fun hHeld => ?_)
      clear hK K
      refine takeH (i := 2) (v := ?_) rfl (by kernel_rfl) (by kernel_rfl) (by kernel_rfl) (fun _ _ _ h => h) (Or.inl ⟨by rfl, ?_⟩) hHeld ?_; rotate_left; (focus (intro w' hSw; (try dsimp only at hSw); go_split_ands; first | (go_simp; done) | (go_simp; with_reducible rfl))); simp only [Act.put, List.setIfInBounds_toArray, List.set_cons_zero, List.set_cons_succ]
      refine takeH (i := 3) (v := ?_) rfl (by kernel_rfl) (by kernel_rfl) (by kernel_rfl) (fun _ _ _ h => h) (Or.inl ⟨by rfl, ?_⟩) hHeld ?_; rotate_left; (focus (intro w' hSw; (try dsimp only at hSw); go_split_ands; first | (go_simp; done) | (go_simp; with_reducible rfl))); simp only [Act.put, List.setIfInBounds_toArray, List.set_cons_zero, List.set_cons_succ]
      refine oneH (i := 4) rfl (by kernel_rfl) (fun K hK => ?_)
      go_simp
      go_at_call 19
      refine (HSC.out _ Hw12.out).mono ?_
      rintro e w13 ⟨sa, sc, rfl, hbw13⟩
      have Hw13 : Hid (Below W7.heap.size W7 w13) := Hw12.out.trans (hbw13.mono Hw12.out.size)
      clear hbw13
      refine hK.out _ _ (HSS.out _ Hw13.out) (fun hHeld => ?_)
      clear hK K
      refine takeH (i := 5) (v := ?_) rfl (by kernel_rfl) (by kernel_rfl) (by kernel_rfl) (fun _ _ _ h => h) (Or.inl ⟨by rfl, ?_⟩) hHeld ?_; rotate_left; (focus (intro w' hSw; (try dsimp only at hSw); go_split_ands; first | (go_simp; done) | (go_simp; with_reducible rfl))); simp only [Act.put, List.setIfInBounds_toArray, List.set_cons_zero, List.set_cons_succ]
      refine takeH (i := 6) (v := ?_) rfl (by kernel_rfl) (by kernel_rfl) (by kernel_rfl) (fun _ _ _ h => h) (Or.inl ⟨by rfl, ?_⟩) hHeld ?_; rotate_left; (focus (intro w' hSw; (try dsimp only at hSw); go_split_ands; first | (go_simp; done) | (go_simp; with_reducible rfl))); simp only [Act.put, List.setIfInBounds_toArray, List.set_cons_zero, List.set_cons_succ]
      refine takeH (i := 7) (v := ?_) rfl (by kernel_rfl) (by kernel_rfl) (by kernel_rfl) (fun _ _ _ h => h) (Or.inl ⟨by rfl, ?_⟩) hHeld ?_; rotate_left; (focus (intro w' hSw; (try dsimp only at hSw); go_split_ands; first | (go_simp; done) | (go_simp; with_reducible rfl))); simp only [Act.put, List.setIfInBounds_toArray, List.set_cons_zero, List.set_cons_succ]
      refine takeH (i := 8) (v := ?_) rfl (by kernel_rfl) (by kernel_rfl) (by kernel_rfl) (fun _ _ _ h => h) (Or.inl ⟨by rfl, ?_⟩) hHeld ?_; rotate_left; (focus (intro w' hSw; (try dsimp only at hSw); go_split_ands; first | (go_simp; done) | (go_simp; with_reducible rfl))); simp only [Act.put, List.setIfInBounds_toArray, List.set_cons_zero, List.set_cons_succ]
      refine takeH (i := 10) (v := ?_) rfl (by kernel_rfl) (by kernel_rfl) (by kernel_rfl) (fun _ _ _ h => h) (Or.inl ⟨by rfl, ?_⟩) hHeld ?_; rotate_left; (focus (intro w' hSw; (try dsimp only at hSw); go_split_ands; first | (go_simp; done) | (go_simp; with_reducible rfl))); simp only [Act.put, List.setIfInBounds_toArray, List.set_cons_zero, List.set_cons_succ]
      refine oneH (i := 9) rfl (by kernel_rfl) (fun K hK => ?_)
      go_simp
      go_at_call 20
      refine (HER.out _ Hw13.out).mono ?_
      rintro e w14 ⟨u, rfl, HU, hbw14⟩
      have Hw14 : Hid (Below W7.heap.size W7 w14) := Hw13.out.trans (hbw14.mono Hw13.out.size)
      clear hbw14
      refine hK.out _ _ (HSS.out _ Hw14.out) (fun hHeld => ?_)
      clear hK K
      refine oneH (i := 11) rfl (by kernel_rfl) (fun K hK => ?_)
      go_simp
      go_at_call 21
      refine (HET.out _ Hw14.out).mono ?_
      rintro e w15 ⟨v, rfl, HV, hbw15⟩
      have HUV : Hid (u.In w15 ∧ v.In w15 ∧ u.tm = v.tm ∧ u.tm = eraseM x.tm ∧ x.sz ≤ 40) := ⟨HU.out.1.below hbw15, HV.out.1, HU.out.2.trans HV.out.2.symm, HU.out.2, HM.out.2.1⟩
      have Hw15 : Hid (Below W7.heap.size W7 w15) := Hw14.out.trans (hbw15.mono Hw14.out.size)
      clear hbw15
      refine hK.out _ _ (HSS.out _ Hw15.out) (fun hHeld => ?_)
      clear hK K
      refine oneH (i := 12) rfl (by kernel_rfl) (fun K hK => ?_)
      go_simp
      go_at_call 15
      refine (same_erased HUV.out).mono ?_
      rintro e w16 ⟨rfl, hbw16⟩
      have Hw16 : Hid (Below W7.heap.size W7 w16) := Hw15.out.trans (hbw16.mono Hw15.out.size)
      clear hbw16
      refine hK.out _ _ (HSS.out _ Hw16.out) (fun hHeld => ?_)
      clear hK K
      refine takeH (i := 13) (v := ?_) rfl (by kernel_rfl) (by kernel_rfl) (by kernel_rfl) (fun _ _ _ h => h) (Or.inl ⟨by rfl, ?_⟩) hHeld ?_; rotate_left; (focus (intro w' hSw; (try dsimp only at hSw); go_split_ands; first | (go_simp; done) | (go_simp; with_reducible rfl))); simp only [Act.put, List.setIfInBounds_toArray, List.set_cons_zero, List.set_cons_succ]
      refine takeH (i := 14) (v := ?_) rfl (by kernel_rfl) (by kernel_rfl) (by kernel_rfl) (fun _ _ _ h => h) (Or.inl ⟨by rfl, ?_⟩) hHeld ?_; rotate_left; (focus (intro w' hSw; (try dsimp only at hSw); go_split_ands; first | (go_simp; done) | (go_simp; with_reducible rfl))); simp only [Act.put, List.setIfInBounds_toArray, List.set_cons_zero, List.set_cons_succ]
      refine takeH (i := 15) (v := ?_) rfl (by kernel_rfl) (by kernel_rfl) (by kernel_rfl) (fun _ _ _ h => h) (Or.inl ⟨by rfl, ?_⟩) hHeld ?_; rotate_left; (focus (intro w' hSw; (try dsimp only at hSw); go_split_ands; first | (go_simp; done) | (go_simp; with_reducible rfl))); simp only [Act.put, List.setIfInBounds_toArray, List.set_cons_zero, List.set_cons_succ]
      refine wpAnyH_done (by kernel_rfl) ?_ _
      clear HSS hHeld Hd6
      have HSS : Hid (∀ W, Below W7.heap.size W7 W → (fun W : World => W.cell? ⟨w4.heap.size, 0, none⟩ = some (.int .i64 y.k) ∧ W.cell? ⟨w4.heap.size, 1, none⟩ = some (.int .i64 y.n) ∧ W.cell? ⟨w4.heap.size, 2, none⟩ = some (.int .i64 y.t.k) ∧ W.cell? ⟨w4.heap.size, 3, none⟩ = some (.slice y.t.a y.t.l.length y.t.c) ∧ W.cell? ⟨w4.heap.size, 4, none⟩ = some (.int .i64 y.f.k) ∧ W.cell? ⟨w4.heap.size, 5, none⟩ = some (.slice y.f.a y.f.l.length y.f.c) ∧ W.cell? ⟨w4.heap.size, 6, none⟩ = some (.slice y.a y.l.length y.c) ∧ W.cell? ⟨w6.heap.size, 0, none⟩ = some (.int .i64 z.k) ∧ W.cell? ⟨w6.heap.size, 1, none⟩ = some (.int .i64 z.n) ∧ W.cell? ⟨w6.heap.size, 2, none⟩ = some (.int .i64 z.t.k) ∧ W.cell? ⟨w6.heap.size, 3, none⟩ = some (.slice z.t.a z.t.l.length z.t.c) ∧ W.cell? ⟨w6.heap.size, 4, none⟩ = some (.int .i64 z.f.k) ∧ W.cell? ⟨w6.heap.size, 5, none⟩ = some (.slice z.f.a z.f.l.length z.f.c) ∧ W.cell? ⟨w6.heap.size, 6, none⟩ = some (.slice z.a z.l.length z.c)) W) := fun W hb => HS8.out W hb
      go_upto_region 8 with fail
      refine wp_region_held_drew (S := fun W : World => W.cell? ⟨w4.heap.size, 0, none⟩ = some (.int .i64 y.k) ∧ W.cell? ⟨w4.heap.size, 1, none⟩ = some (.int .i64 y.n) ∧ W.cell? ⟨w4.heap.size, 2, none⟩ = some (.int .i64 y.t.k) ∧ W.cell? ⟨w4.heap.size, 3, none⟩ = some (.slice y.t.a y.t.l.length y.t.c) ∧ W.cell? ⟨w4.heap.size, 4, none⟩ = some (.int .i64 y.f.k) ∧ W.cell? ⟨w4.heap.size, 5, none⟩ = some (.slice y.f.a y.f.l.length y.f.c) ∧ W.cell? ⟨w4.heap.size, 6, none⟩ = some (.slice y.a y.l.length y.c) ∧ W.cell? ⟨w6.heap.size, 0, none⟩ = some (.int .i64 z.k) ∧ W.cell? ⟨w6.heap.size, 1, none⟩ = some (.int .i64 z.n) ∧ W.cell? ⟨w6.heap.size, 2, none⟩ = some (.int .i64 z.t.k) ∧ W.cell? ⟨w6.heap.size, 3, none⟩ = some (.slice z.t.a z.t.l.length z.t.c) ∧ W.cell? ⟨w6.heap.size, 4, none⟩ = some (.int .i64 z.f.k) ∧ W.cell? ⟨w6.heap.size, 5, none⟩ = some (.slice z.f.a z.f.l.length z.f.c) ∧ W.cell? ⟨w6.heap.size, 6, none⟩ = some (.slice z.a z.l.length z.c)) (by kernel_rfl) (HSS.out _ (Hw16.out.trans (((Below.refl _ _).drew).mono Hw16.out.size))) (fun hHeld => ?_)
      have Hd8 : Hid (Below W7.heap.size W7 w16.drew) := Hw16.out.trans (((Below.refl _ _).drew).mono Hw16.out.size)
      refine takeH (i := 0) (v := ?_) rfl (by kernel_rfl) (by kernel_rfl) (by kernel_rfl) (fun _ _ _ h => h) (Or.inl ⟨by rfl, ?_⟩) hHeld ?_; rotate_left; (focus (intro w' hSw; (try dsimp only at hSw); go_split_ands; first | (go_simp; done) | (go_simp; with_reducible rfl))); simp only [Act.put, List.setIfInBounds_toArray, List.set_cons_zero, List.set_cons_succ]
      refine takeH (i := 1) (v := ?_) rfl (by kernel_rfl) (by kernel_rfl) (by kernel_rfl) (fun _ _ _ h => h) (Or.inl ⟨by rfl, ?_⟩) hHeld ?_; rotate_left; (focus (intro w' hSw; (try dsimp only at hSw); go_split_ands; first | (go_simp; done) | (go_simp; with_reducible rfl))); simp only [Act.put, List.setIfInBounds_toArray, List.set_cons_zero, List.set_cons_succ]
      refine takeH (i := 2) (v := ?_) rfl (by kernel_rfl) (by kernel_rfl) (by kernel_rfl) (fun _ _ _ h => h) (Or.inl ⟨by rfl, ?_⟩) hHeld ?_; rotate_left; (focus (intro w' hSw; (try dsimp only at hSw); go_split_ands; first | (go_simp; done) | (go_simp; with_reducible rfl))); simp only [Act.put, List.setIfInBounds_toArray, List.set_cons_zero, List.set_cons_succ]
      refine takeH (i := 3) (v := undef) rfl (by kernel_rfl) (by kernel_rfl) (by kernel_rfl) (fun _ _ _ h => h) (Or.inr ⟨by kernel_rfl, rfl⟩) hHeld ?_; simp only [Act.put, List.setIfInBounds_toArray, List.set_cons_zero, List.set_cons_succ]
      refine takeH (i := 4) (v := undef) rfl (by kernel_rfl) (by kernel_rfl) (by kernel_rfl) (fun _ _ _ h => h) (Or.inr ⟨by kernel_rfl, rfl⟩) hHeld ?_; simp only [Act.put, List.setIfInBounds_toArray, List.set_cons_zero, List.set_cons_succ]
      refine takeH (i := 5) (v := undef) rfl (by kernel_rfl) (by kernel_rfl) (by kernel_rfl) (fun _ _ _ h => h) (Or.inr ⟨by kernel_rfl, rfl⟩) hHeld ?_; simp only [Act.put, List.setIfInBounds_toArray, List.set_cons_zero, List.set_cons_succ]
      refine takeH (i := 6) (v := undef) rfl (by kernel_rfl) (by kernel_rfl) (by kernel_rfl) (fun _ _ _ h => h) (Or.inr ⟨by kernel_rfl, rfl⟩) hHeld ?_; simp only [Act.put, List.setIfInBounds_toArray, List.set_cons_zero, List.set_cons_succ]
      refine takeH (i := 7) (v := undef) rfl (by kernel_rfl) (by kernel_rfl) (by kernel_rfl) (fun _ _ _ h => h) (Or.inr ⟨by kernel_rfl, rfl⟩) hHeld ?_; simp only [Act.put, List.setIfInBounds_toArray, List.set_cons_zero, List.set_cons_succ]
      refine takeH (i := 8) (v := undef) rfl (by kernel_rfl) (by kernel_rfl) (by kernel_rfl) (fun _ _ _ h => h) (Or.inr ⟨by kernel_rfl, rfl⟩) hHeld ?_; simp only [Act.put, List.setIfInBounds_toArray, List.set_cons_zero, List.set_cons_succ]
      refine takeH (i := 9) (v := undef) rfl (by kernel_rfl) (by kernel_rfl) (by kernel_rfl) (fun _ _ _ h => h) (Or.inr ⟨by kernel_rfl, rfl⟩) hHeld ?_; simp only [Act.put, List.setIfInBounds_toArray, List.set_cons_zero, List.set_cons_succ]
      refine takeH (i := 10) (v := undef) rfl (by kernel_rfl) (by kernel_rfl) (by kernel_rfl) (fun _ _ _ h => h) (Or.inr ⟨by kernel_rfl, rfl⟩) hHeld ?_; simp only [Act.put, List.setIfInBounds_toArray, List.set_cons_zero, List.set_cons_succ]
      refine takeH (i := 11) (v := undef) rfl (by kernel_rfl) (by kernel_rfl) (by kernel_rfl) (fun _ _ _ h => h) (Or.inr ⟨by kernel_rfl, rfl⟩) hHeld ?_; simp only [Act.put, List.setIfInBounds_toArray, List.set_cons_zero, List.set_cons_succ]
      refine takeH (i := 12) (v := undef) rfl (by kernel_rfl) (by kernel_rfl) (by kernel_rfl) (fun _ _ _ h => h) (Or.inr ⟨by kernel_rfl, rfl⟩) hHeld ?_; simp only [Act.put, List.setIfInBounds_toArray, List.set_cons_zero, List.set_cons_succ]
      refine takeH (i := 13) (v := undef) rfl (by kernel_rfl) (by kernel_rfl) (by kernel_rfl) (fun _ _ _ h => h) (Or.inr ⟨by kernel_rfl, rfl⟩) hHeld ?_; simp only [Act.put, List.setIfInBounds_toArray, List.set_cons_zero, List.set_cons_succ]
      refine takeH (i := 14) (v := undef) rfl (by kernel_rfl) (by kernel_rfl) (by kernel_rfl) (fun _ _ _ h => h) (Or.inr ⟨by kernel_rfl, rfl⟩) hHeld ?_; simp only [Act.put, List.setIfInBounds_toArray, List.set_cons_zero, List.set_cons_succ]
      refine takeH (i := 15) (v := ?_) rfl (by kernel_rfl) (by kernel_rfl) (by kernel_rfl) (fun _ _ _ h => h) (Or.inl ⟨by rfl, ?_⟩) hHeld ?_; rotate_left; (focus (intro w' hSw; (try dsimp only at hSw); go_split_ands; first | (go_simp; done) | (go_simp; with_reducible rfl))); simp only [Act.put, List.setIfInBounds_toArray, List.set_cons_zero, List.set_cons_succ]
      refine takeH (i := 16) (v := ?_) rfl (by kernel_rfl) (by kernel_rfl) (by kernel_rfl) (fun _ _ _ h => h) (Or.inl ⟨by rfl, ?_⟩) hHeld ?_; rotate_left; (focus (intro w' hSw; (try dsimp only at hSw); go_split_ands; first | (go_simp; done) | (go_simp; with_reducible rfl))); simp only [Act.put, List.setIfInBounds_toArray, List.set_cons_zero, List.set_cons_succ]
      refine wpAnyH_done (by kernel_rfl) ?_ _
      have HN : Hid (Below w.heap.size w (w16.drew)) := HG.out.1.2.2.2.2.2.2.trans (Hd8.out.mono HG.out.1.2.2.2.2.2.2.size)
      clear HSS hHeld Hd8
      go_wp2_with fail
      refine bodyPost_ret (v := .bool true) ?_ rfl ⟨rfl, HN.out⟩
      simp [results, Tryd.results4, go_sem]
end Go.Proofs.YtnddkmccagiclaaDoor
