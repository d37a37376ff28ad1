/-
  What the call of check's ruleOf answers at If and Fn: drawn regions.
-/
import Derived.Test.YtnddkmccagiclaaGreatDoorLotdc0c6f4aaf
import Derived.Test.YtnddkmccagiclaaGreatDoorLot694cd256ef
import Derived.Deep.RegionLaw
import Derived.Deep.RegionHeld3
import Derived.Deep.LoopGhost
import Derived.Test.YtnddkmccagiclaaGreatDoorLot8a8b3f08ee
import Derived.Test.YtnddkmccagiclaaGreatDoorLotb171d508ce
import Derived.Deep.AppendLies
import Derived.Test.YtnddkmccagiclaaGreatDoorLot865065d6b2
import Derived.Lib.Join
namespace Go.Proofs.YtnddkmccagiclaaGreatDoor
open Go.RowKit

/-- A rule, or none, in letters. -/
theorem RuOut.letters {Q : Nat → Prop} {w w' : World} {r : Option (Ty × List Ty)} {e : Ending} (h : RuOut Q w r e w') :
    ∃ (I U : Tr) (b : Bool), e = .returned (.tuple #[.agg #[.int .i64 I.k, .slice I.a I.l.length I.c, .slice U.a U.l.length U.c], .bool b]) ∧ Below w.heap.size w w' ∧ I.In w' ∧ U.In w' ∧ I.Bl Q ∧ U.Bl Q ∧ ((b = false ∧ r = none ∧ I = leaf 0 ∧ U = leaf 0) ∨ (b = true ∧ r = some (I.ty, U.l.map Tr.ty))) := by
  obtain ⟨hb, ⟨hr, rfl⟩ | ⟨I, U, hr, rfl, iI, iU, bI, bU⟩⟩ := h
  · exact ⟨leaf 0, leaf 0, false, rfl, hb, leaf_in _ _, leaf_in _ _, leaf_bl _ _, leaf_bl _ _, .inl ⟨rfl, hr, rfl, rfl⟩⟩
  · exact ⟨I, U, true, rfl, hb, iI, iU, bI, bU, .inr ⟨rfl, hr⟩⟩

theorem RuOut.of {Q : Nat → Prop} {w w' : World} {r : Option (Ty × List Ty)} {I U : Tr} {b : Bool} (hb : Below w.heap.size w w') (iI : I.In w') (iU : U.In w') (bI : I.Bl Q) (bU : U.Bl Q) (h : (b = false ∧ r = none ∧ I = leaf 0 ∧ U = leaf 0) ∨ (b = true ∧ r = some (I.ty, U.l.map Tr.ty))) :
    RuOut Q w r (.returned (.tuple #[.agg #[.int .i64 I.k, .slice I.a I.l.length I.c, .slice U.a U.l.length U.c], .bool b])) w' := by
  rcases h with ⟨rfl, rfl, rfl, rfl⟩ | ⟨rfl, hr⟩
  · exact ⟨hb, .inl ⟨rfl, rfl⟩⟩
  · exact ⟨hb, .inr ⟨I, U, hr, rfl, iI, iU, bI, bU⟩⟩

set_option maxRecDepth 20000 in
set_option maxHeartbeats 1000000 in
theorem ruleOf_6 (Q : Nat → Prop) (x : TT) (p q : Tr) (pb po pm pc : Nat) (ta : Option Addr) (tm tc : Nat) (w : World) (hm : 2 < pm) (c0 : w.cell? ⟨pb, po + 2, none⟩ = some (.int .i64 p.k)) (c1 : w.cell? ⟨pb, po + 3, none⟩ = some (.slice p.a p.l.length p.c)) (c2 : w.cell? ⟨pb, po + 4, none⟩ = some (.int .i64 q.k)) (c3 : w.cell? ⟨pb, po + 5, none⟩ = some (.slice q.a q.l.length q.c)) (hp : p.In w) (hq : q.In w) (rp : p.right) (rq : q.right) (hh : p.hgt ≤ 1000) (hs : p.sm) (hQ : ∀ b, w.heap.size ≤ b → Q b) :
    Calls Tryz.prog 65 #[.agg #[.int .i64 6, .int .i64 x.n, .int .i64 x.t.k, .slice x.t.a x.t.l.length x.t.c, .int .i64 x.f.k, .slice x.f.a x.f.l.length x.f.c, .slice x.a x.l.length x.c], .slice (some ⟨pb, po, none⟩) pm pc, .slice ta tm tc] w (RuOut Q w (ifY ⟨2, []⟩ p.ty q.ty)) := by
  have hb0 := (wRule_below 6 x w).drew
  have hw0 : WR 6 x w.heap.size (wRule 6 x w).drew := (wRule_ok 6 x w).below ((Below.refl _ _).drew)
  have hz : (wRule 6 x w).drew.heap.size = w.heap.size + 1 + 1 + 1 + 1 := wRule_size 6 x w
  have HC : Hid (Calls Tryz.prog 102 #[.agg #[.int .i64 2, .slice none 0 0], .agg #[.int .i64 p.k, .slice p.a p.l.length p.c], .agg #[.int .i64 q.k, .slice q.a q.l.length q.c]] (wRule 6 x w).drew (RuOut (fun b => Q b ∧ b ≠ w.heap.size + 1) (wRule 6 x w).drew (ifY ⟨2, []⟩ p.ty q.ty))) := by
    have := ruleOfIf_any (fun b => Q b ∧ b ≠ w.heap.size + 1) (leaf 2) p q (wRule 6 x w).drew (leaf_in _ _) (hp.below hb0) (hq.below hb0) rp rq hh hs (fun b hb => ⟨hQ b (by omega), by omega⟩) (leaf_bl _ _)
    rw [leaf_ty] at this
    exact this
  have d0 := cell_later hb0 c0
  have d1 := cell_later hb0 c1
  have d2 := cell_later hb0 c2
  have d3 := cell_later hb0 c3
  have i1 : (1 : Int) < (pm : Int) := by omega
  have i2 : (2 : Int) < (pm : Int) := by omega
  have j1 : 1 < pm := by omega
  obtain ⟨W0, hW0⟩ : ∃ W0, W0 = wRule 6 x w := ⟨_, rfl⟩
  rw [← hW0] at hb0 hw0 hz HC d0 d1 d2 d3
  unfold wRule at hW0
  clear c0 c1 c2 c3 hp hq rp rq hh hs
  obtain ⟨_, r0, r1, r2, rf, _, _, b0, b1⟩ := id hw0
  have f0 := rf 0
  have f1 := rf 1
  have f2 := rf 2
  have HB : Hid (Below w.heap.size w W0.drew ∧ WR 6 x w.heap.size W0.drew ∧ W0.drew.heap.size = w.heap.size + 1 + 1 + 1 + 1) := ⟨hb0, hw0, hz⟩
  clear hb0 hw0 hz
  go_enter Tryz.func65, Tryz.ntmps65
  go_wp2_with fail
  rw [← hW0]
  clear hW0
  go_region_law
    (first
      | (go_simp; go_at_call 102; refine HC.out.mono ?_; rintro e w1 hR; obtain ⟨I, U, b, rfl, h1, iI, iU, bI, bU, hr⟩ := hR.letters; have hw1 := HB.out.2.1.below h1; obtain ⟨_, r0, r1, r2, rf, _, _, _, _⟩ := id hw1; have f0 := rf 0; have f1 := rf 1; have f2 := rf 2; go_wp2_with fail))
  all_goals
    have HS : Hid _ := RuOut.store (Q := Q) (HB.out.1.trans (h1.mono (by have := HB.out.2.2; omega))) hw1 iI iU bI bU
    have HR : Hid _ := hr
    clear h1 HC HB hw1 iI iU bI bU hR hr
    go_wp2_with fail
    obtain ⟨W, hW, e1, e2, e3, e4, e5, e6, e7, e8⟩ := HS.out
    rw [← hW]
    clear hW
    refine bodyPost_ret (v := .tuple #[.agg #[.int .i64 I.k, .slice I.a I.l.length I.c, .slice U.a U.l.length U.c], .bool b]) ?_ rfl (RuOut.of e1 e2 e3 e4 e5 HR.out)
    simp [results, Tryz.results65, go_sem, e6, e7, e8]

set_option maxRecDepth 20000 in
set_option maxHeartbeats 1000000 in
theorem ruleOf_7 (Q : Nat → Prop) (x : TT) (p : Tr) (pb po pc : Nat) (ta : Option Addr) (tm tc : Nat) (w : World) (c0 : w.cell? ⟨pb, po, none⟩ = some (.int .i64 p.k)) (c1 : w.cell? ⟨pb, po + 1, none⟩ = some (.slice p.a p.l.length p.c)) (hp : p.In w) (ht : x.t.In w) (bp : p.Bl Q) (bt : x.t.Bl Q) (hpb : Q pb) (hQ : ∀ b, w.heap.size ≤ b → Q b) :
    Calls Tryz.prog 65 #[.agg #[.int .i64 7, .int .i64 x.n, .int .i64 x.t.k, .slice x.t.a x.t.l.length x.t.c, .int .i64 x.f.k, .slice x.f.a x.f.l.length x.f.c, .slice x.a x.l.length x.c], .slice (some ⟨pb, po, none⟩) 1 pc, .slice ta tm tc] w (RuOut Q w (some (⟨3, [x.t.ty, p.ty]⟩, [p.ty]))) := by
  have hb0 := (wRule_below 7 x w).drew
  have hw0 : WR 7 x w.heap.size (wRule 7 x w).drew := (wRule_ok 7 x w).below ((Below.refl _ _).drew)
  have hz : (wRule 7 x w).drew.heap.size = w.heap.size + 1 + 1 + 1 + 1 := wRule_size 7 x w
  have hU : (Tr.mk 0 (some ⟨pb, po, none⟩) pc [p]).In w := by
    refine Tr.In_mk.2 ⟨fun j h => ?_, fun t h => ?_⟩
    · have hj : j = 0 := by simpa using h
      subst hj
      exact ⟨pb, po, rfl, by simpa using c0, by simpa [Tr.sl] using c1⟩
    · have : t = p := by simpa using h
      subst this; exact hp
  have lpb : pb < w.heap.size := World.block_lt_of_cell? _ _ c0
  have hUb : (Tr.mk 0 (some ⟨pb, po, none⟩) pc [p]).Bl fun b => Q b ∧ b ≠ w.heap.size + 1 := by
    refine Tr.Bl_mk.2 ⟨fun _ y hy => ?_, fun t h => ?_⟩
    · cases hy; exact ⟨hpb, by show pb ≠ _; omega⟩
    · have : t = p := by simpa using h
      subst this; exact bp.and (hp.bl.mono fun b hb => by omega)
  have HC : Hid (Calls Tryz.prog 103 #[.agg #[.int .i64 x.t.k, .slice x.t.a x.t.l.length x.t.c], .agg #[.int .i64 p.k, .slice p.a p.l.length p.c]] (wRule 7 x w).drew fun e w' => ∃ I : Tr, e = .returned (.agg #[.int .i64 I.k, .slice I.a I.l.length I.c]) ∧ I.ty = ⟨3, [x.t.ty, p.ty]⟩ ∧ I.In w' ∧ (I.Bl fun b => Q b ∧ b ≠ w.heap.size + 1) ∧ Below (wRule 7 x w).drew.heap.size (wRule 7 x w).drew w') := by
    refine (to_any x.t p (wRule 7 x w).drew (ht.below hb0) (hp.below hb0)).mono ?_
    rintro e w' ⟨g, hg, rfl, hin, hb⟩
    refine ⟨⟨3, some ⟨g, 0, none⟩, 2, [x.t, p]⟩, rfl, by simp [Tr.ty_mk], hin, Tr.Bl_two ⟨hQ g (by omega), by omega⟩ (bt.and (ht.bl.mono fun b hb => by omega)) (bp.and (hp.bl.mono fun b hb => by omega)), hb⟩
  have HU : Hid ((Tr.mk 0 (some ⟨pb, po, none⟩) pc [p]).In (wRule 7 x w).drew ∧ (Tr.mk 0 (some ⟨pb, po, none⟩) pc [p]).Bl fun b => Q b ∧ b ≠ w.heap.size + 1) := ⟨hU.below hb0, hUb⟩
  have d0 := cell_later hb0 c0
  have d1 := cell_later hb0 c1
  obtain ⟨W0, hW0⟩ : ∃ W0, W0 = wRule 7 x w := ⟨_, rfl⟩
  rw [← hW0] at hb0 hw0 hz HC HU d0 d1
  unfold wRule at hW0
  clear c0 c1 hp ht bp bt hU hUb hQ
  obtain ⟨⟨_, _, t2, t3, _, _, _⟩, r0, r1, r2, rf, _, _, _, _⟩ := id hw0
  have f0 := rf 0
  have f1 := rf 1
  have f2 := rf 2
  have HB : Hid (Below w.heap.size w W0.drew ∧ WR 7 x w.heap.size W0.drew ∧ W0.drew.heap.size = w.heap.size + 1 + 1 + 1 + 1) := ⟨hb0, hw0, hz⟩
  clear hb0 hw0 hz
  go_enter Tryz.func65, Tryz.ntmps65
  go_wp2_with fail
  rw [← hW0]
  clear hW0
  go_region_law
    (first
      | (go_simp; go_at_call 103; refine HC.out.mono ?_; rintro e w1 ⟨I, rfl, hty, iI, bI, h1⟩; have hw1 := HB.out.2.1.below h1; obtain ⟨_, r0, r1, r2, rf, _, _, _, _⟩ := id hw1; have f0 := rf 0; have f1 := rf 1; have f2 := rf 2; go_wp2_with fail))
  all_goals
    have HS : Hid _ := RuOut.store (Q := Q) (HB.out.1.trans (h1.mono (by have := HB.out.2.2; omega))) hw1 iI (HU.out.1.below h1) bI HU.out.2
    have HR : Hid (some ((⟨3, [x.t.ty, p.ty]⟩ : Ty), [p.ty]) = some (I.ty, (Tr.mk 0 (some ⟨pb, po, none⟩) pc [p]).l.map Tr.ty)) := by rw [hty]; exact rfl
    clear h1 HC HB HU hw1 iI bI hty
    go_wp2_with fail
    obtain ⟨W, hW, e1, e2, e3, e4, e5, e6, e7, e8⟩ := HS.out
    have hW' : W = (((w1.setCell ⟨w.heap.size + 1, 0, none⟩ (.int .i64 I.k)).setCell ⟨w.heap.size + 1, 1, none⟩ (.slice I.a I.l.length I.c)).setCell ⟨w.heap.size + 1, 2, none⟩ (.slice (some ⟨pb, po, none⟩) 1 pc)) := hW
    rw [← hW']
    clear hW hW'
    refine bodyPost_ret (v := .tuple #[.agg #[.int .i64 I.k, .slice I.a I.l.length I.c, .slice (some ⟨pb, po, none⟩) 1 pc], .bool true]) ?_ rfl (RuOut.of (U := ⟨0, some ⟨pb, po, none⟩, pc, [p]⟩) e1 e2 e3 e4 e5 (.inr ⟨rfl, HR.out⟩))
    have e8' : W.cell? ⟨w.heap.size + 1, 2, none⟩ = some (.slice (some ⟨pb, po, none⟩) 1 pc) := e8
    simp [results, Tryz.results65, go_sem, e6, e7, e8']
end Go.Proofs.YtnddkmccagiclaaGreatDoor

/-
  Readings (a number, a term, a type) and rows of them; what the call of check's allFit answers.
-/
namespace Go.Proofs.YtnddkmccagiclaaGreatDoor
open Go.RowKit

structure Rd where
  n : Int
  y : TT
  i : Tr

/-- A reading's ten cells. -/
structure At10 (w : World) (b o : Nat) (r : Rd) : Prop where
  n : w.cell? ⟨b, o, none⟩ = some (.int .i64 r.n)
  y : At7 w b (o + 1) r.y
  k : w.cell? ⟨b, o + 8, none⟩ = some (.int .i64 r.i.k)
  l : w.cell? ⟨b, o + 9, none⟩ = some (.slice r.i.a r.i.l.length r.i.c)

theorem At10.below {w w' : World} {b o : Nat} {r : Rd} (hb : Below w.heap.size w w') (h : At10 w b o r) : At10 w' b o r :=
  ⟨cell_later hb h.n, h.y.below hb, cell_later hb h.k, cell_later hb h.l⟩

/-- A row of readings lies in the world. -/
def RL (w : World) (a : Option Addr) (rs : List Rd) : Prop :=
  ∀ j (h : j < rs.length), ∃ b o, a = some ⟨b, o, none⟩ ∧ At10 w b (o + j * 10) rs[j] ∧ rs[j].y.In w ∧ rs[j].i.In w

theorem RL.below {w w' : World} {a : Option Addr} {rs : List Rd} (hb : Below w.heap.size w w') (h : RL w a rs) : RL w' a rs := by
  intro j hj
  obtain ⟨b, o, e, h1, h2, h3⟩ := h j hj
  exact ⟨b, o, e, h1.below hb, h2.below hb, h3.below hb⟩

def fitL : List Ty → List Ty → Bool
  | x :: r, y :: s => relY escFits x y && fitL r s
  | _, _ => true

theorem fitL_all : ∀ (l m : List Ty), (∀ j (h : j < l.length) (h' : j < m.length), relY escFits l[j] m[j] = true) → fitL l m = true
  | [], _, _ => by simp [fitL]
  | _ :: _, [], _ => by simp [fitL]
  | x :: r, y :: s, h => by
    simp only [fitL, Bool.and_eq_true]
    exact ⟨h 0 (by simp) (by simp), fitL_all r s fun j h1 h2 => h (j + 1) (by simpa using h1) (by simpa using h2)⟩

theorem fitL_not : ∀ (l m : List Ty) (j : Nat) (h : j < l.length) (h' : j < m.length), relY escFits l[j] m[j] = false → fitL l m = false
  | [], _, _, h, _, _ => by simp at h
  | _ :: _, [], _, _, h', _ => by simp at h'
  | x :: r, y :: s, 0, _, _, e => by simp only [List.getElem_cons_zero] at e; simp [fitL, e]
  | x :: r, y :: s, j + 1, h, h', e => by simp only [fitL, fitL_not r s j (by simpa using h) (by simpa using h') (by simpa using e), Bool.and_false]

set_option maxRecDepth 20000 in
set_option maxHeartbeats 1000000 in
/-- allFit. -/
theorem allFit_any (rs : List Rd) (a : Option Addr) (c : Nat) (U : Tr) (w : World) (hr : RL w a rs) (hU : U.In w) (hl : rs.length = U.l.length) (h3 : rs.length ≤ 1000) (hok : ∀ r, r ∈ rs → r.i.hgt ≤ 1000 ∧ r.i.sm) :
    Calls Tryz.prog 67 #[.slice a rs.length c, .slice U.a U.l.length U.c] w fun e w' => e = .returned (.bool (fitL (rs.map fun r => r.i.ty) (U.l.map Tr.ty))) ∧ Below w.heap.size w w' := by
  have HF : Hid (∀ j (h : j < rs.length) (h' : j < U.l.length) (W : World), rs[j].i.In W → U.l[j].In W → Calls Tryz.prog 105 #[.agg #[.int .i64 rs[j].i.k, .slice rs[j].i.a rs[j].i.l.length rs[j].i.c], .agg #[.int .i64 U.l[j].k, .slice U.l[j].a U.l[j].l.length U.l[j].c]] W fun e w' => e = .returned (.bool (relY escFits rs[j].i.ty U.l[j].ty)) ∧ Below W.heap.size W w') :=
    fun j h h' W h1 h2 => fits_whole _ _ W h1 h2 (hok _ (List.getElem_mem h)).1 (hok _ (List.getElem_mem h)).2
  have HR : Hid (RL w a rs) := hr
  have HU : Hid (U.In w) := hU
  have HL : Hid (rs.length = U.l.length) := hl
  clear hr hU hl hok
  go_enter Tryz.func67, Tryz.ntmps67
  go_wp2_with fail
  go_loopg [9] rs.length (fun g i wr => ∃ (j : Nat), g + j = rs.length ∧ i = .int .i64 (j : Int) ∧ Hid (Below w.heap.size w wr ∧ ∀ q (h : q < rs.length) (h' : q < U.l.length), q < j → relY escFits rs[q].i.ty U.l[q].ty = true))
  case atStart => exact ⟨0, by omega, rfl, Below.refl _ _, fun q _ _ h => absurd h (by omega)⟩
  case round =>
    obtain ⟨j, hj, rfl, HQ⟩ := hrel
    by_cases hlt : j < rs.length
    · have hlt' : j < U.l.length := HL.out ▸ hlt
      obtain ⟨b, o, ea, h10, hy, hi⟩ := HR.out j hlt
      obtain ⟨b', o', eb, u0, u1, hu⟩ := HU.out.part j hlt'
      have hb := HQ.out.1
      have h11 := h10.below hb
      obtain ⟨d0, ⟨d1, d2, d3, d4, d5, d6, d7⟩, d8, d9⟩ := h11
      replace u0 := cell_later hb u0
      replace u1 := cell_later hb u1
      have i1 : (j : Int) < (rs.length : Int) := by omega
      have i2 : (j : Int) < (U.l.length : Int) := by omega
      have i0 : (0 : Int) ≤ (j : Int) := by omega
      have HEA : Hid (a = some ⟨b, o, none⟩) := ea
      have HEB : Hid (U.a = some ⟨b', o', none⟩) := eb
      rw [ea, eb]
      clear ea eb
      have hB0 : (wr.alloc (.cells #[.int .i64 rs[j].n, .int .i64 rs[j].y.k, .int .i64 rs[j].y.n, .int .i64 rs[j].y.t.k, .slice rs[j].y.t.a rs[j].y.t.l.length rs[j].y.t.c, .int .i64 rs[j].y.f.k, .slice rs[j].y.f.a rs[j].y.f.l.length rs[j].y.f.c, .slice rs[j].y.a rs[j].y.l.length rs[j].y.c, .int .i64 rs[j].i.k, .slice rs[j].i.a rs[j].i.l.length rs[j].i.c] 71)).cell? ⟨wr.heap.size, 8, none⟩ = some (.int .i64 rs[j].i.k) := by simp [go_sem]
      have hB1 : (wr.alloc (.cells #[.int .i64 rs[j].n, .int .i64 rs[j].y.k, .int .i64 rs[j].y.n, .int .i64 rs[j].y.t.k, .slice rs[j].y.t.a rs[j].y.t.l.length rs[j].y.t.c, .int .i64 rs[j].y.f.k, .slice rs[j].y.f.a rs[j].y.f.l.length rs[j].y.f.c, .slice rs[j].y.a rs[j].y.l.length rs[j].y.c, .int .i64 rs[j].i.k, .slice rs[j].i.a rs[j].i.l.length rs[j].i.c] 71)).cell? ⟨wr.heap.size, 9, none⟩ = some (.slice rs[j].i.a rs[j].i.l.length rs[j].i.c) := by simp [go_sem]
      have hbA : Below wr.heap.size wr (wr.alloc (.cells #[.int .i64 rs[j].n, .int .i64 rs[j].y.k, .int .i64 rs[j].y.n, .int .i64 rs[j].y.t.k, .slice rs[j].y.t.a rs[j].y.t.l.length rs[j].y.t.c, .int .i64 rs[j].y.f.k, .slice rs[j].y.f.a rs[j].y.f.l.length rs[j].y.f.c, .slice rs[j].y.a rs[j].y.l.length rs[j].y.c, .int .i64 rs[j].i.k, .slice rs[j].i.a rs[j].i.l.length rs[j].i.c] 71)) := (Below.refl _ _).alloc (Nat.le_refl _) _
      have v0 := cell_later hbA u0
      have v1 := cell_later hbA u1
      have hbE : Below w.heap.size w (wr.alloc (.cells #[.int .i64 rs[j].n, .int .i64 rs[j].y.k, .int .i64 rs[j].y.n, .int .i64 rs[j].y.t.k, .slice rs[j].y.t.a rs[j].y.t.l.length rs[j].y.t.c, .int .i64 rs[j].y.f.k, .slice rs[j].y.f.a rs[j].y.f.l.length rs[j].y.f.c, .slice rs[j].y.a rs[j].y.l.length rs[j].y.c, .int .i64 rs[j].i.k, .slice rs[j].i.a rs[j].i.l.length rs[j].i.c] 71)) := hb.trans (hbA.mono hb.size)
      have hi1 := hi.below hbE
      have hu1 := hu.below hbE
      have HFC := HF.out j hlt hlt'
      clear hbA u0 u1 hi hu h10 hy
      obtain ⟨r, hrr⟩ : ∃ r, relY escFits rs[j].i.ty U.l[j].ty = r := ⟨_, rfl⟩
      rw [hrr] at HFC
      have HC : Hid (∀ (W : World), rs[j].i.In W → U.l[j].In W → Calls Tryz.prog 105 #[.agg #[.int .i64 rs[j].i.k, .slice rs[j].i.a rs[j].i.l.length rs[j].i.c], .agg #[.int .i64 U.l[j].k, .slice U.l[j].a U.l[j].l.length U.l[j].c]] W fun e w' => e = .returned (.bool r) ∧ Below W.heap.size W w') := HFC
      have HRR : Hid (relY escFits rs[j].i.ty U.l[j].ty = r) := hrr
      have HI : Hid (rs[j].i.In (wr.alloc (.cells #[.int .i64 rs[j].n, .int .i64 rs[j].y.k, .int .i64 rs[j].y.n, .int .i64 rs[j].y.t.k, .slice rs[j].y.t.a rs[j].y.t.l.length rs[j].y.t.c, .int .i64 rs[j].y.f.k, .slice rs[j].y.f.a rs[j].y.f.l.length rs[j].y.f.c, .slice rs[j].y.a rs[j].y.l.length rs[j].y.c, .int .i64 rs[j].i.k, .slice rs[j].i.a rs[j].i.l.length rs[j].i.c] 71)) ∧ U.l[j].In (wr.alloc (.cells #[.int .i64 rs[j].n, .int .i64 rs[j].y.k, .int .i64 rs[j].y.n, .int .i64 rs[j].y.t.k, .slice rs[j].y.t.a rs[j].y.t.l.length rs[j].y.t.c, .int .i64 rs[j].y.f.k, .slice rs[j].y.f.a rs[j].y.f.l.length rs[j].y.f.c, .slice rs[j].y.a rs[j].y.l.length rs[j].y.c, .int .i64 rs[j].i.k, .slice rs[j].i.a rs[j].i.l.length rs[j].i.c] 71)) ∧ Below w.heap.size w (wr.alloc (.cells #[.int .i64 rs[j].n, .int .i64 rs[j].y.k, .int .i64 rs[j].y.n, .int .i64 rs[j].y.t.k, .slice rs[j].y.t.a rs[j].y.t.l.length rs[j].y.t.c, .int .i64 rs[j].y.f.k, .slice rs[j].y.f.a rs[j].y.f.l.length rs[j].y.f.c, .slice rs[j].y.a rs[j].y.l.length rs[j].y.c, .int .i64 rs[j].i.k, .slice rs[j].i.a rs[j].i.l.length rs[j].i.c] 71))) := ⟨hi1, hu1, hbE⟩
      clear HFC hrr hi1 hu1 hbE
      go_wp2_with fail
      clear d0 d1 d2 d3 d4 d5 d6 d7 d8 d9
      generalize (wr.alloc (.cells #[.int .i64 rs[j].n, .int .i64 rs[j].y.k, .int .i64 rs[j].y.n, .int .i64 rs[j].y.t.k, .slice rs[j].y.t.a rs[j].y.t.l.length rs[j].y.t.c, .int .i64 rs[j].y.f.k, .slice rs[j].y.f.a rs[j].y.f.l.length rs[j].y.f.c, .slice rs[j].y.a rs[j].y.l.length rs[j].y.c, .int .i64 rs[j].i.k, .slice rs[j].i.a rs[j].i.l.length rs[j].i.c] 71)) = WA at *
      go_region_held3 (fun w' => w'.cell? ⟨wr.heap.size, 8, none⟩ = some (.int .i64 rs[j].i.k) ∧ w'.cell? ⟨wr.heap.size, 9, none⟩ = some (.slice rs[j].i.a rs[j].i.l.length rs[j].i.c) ∧ w'.cell? ⟨b', o' + j * 2, none⟩ = some (.int .i64 U.l[j].k) ∧ w'.cell? ⟨b', o' + j * 2 + 1, none⟩ = some (.slice U.l[j].a U.l[j].l.length U.l[j].c)) (first | exact ⟨cell_later hb2 hB0, cell_later hb2 hB1, cell_later hb2 v0, cell_later hb2 v1⟩ | go_keep) (first | (go_at_call 105; refine (HC.out _ (HI.out.1.below ((Below.refl _ _).drew)) (HI.out.2.1.below ((Below.refl _ _).drew))).mono ?_; rintro e w2 ⟨rfl, hb2⟩))
      have hbr2 : Below w.heap.size w w2 := HI.out.2.2.drew.trans (hb2.mono HI.out.2.2.size)
      cases r
      · have HE : Hid (fitL (rs.map fun r => r.i.ty) (U.l.map Tr.ty) = false ∧ Below w.heap.size w w2) := ⟨fitL_not _ _ j (by simpa using hlt) (by simpa using hlt') (by simpa using HRR.out), hbr2⟩
        clear hb2 hbr2 HI HQ hB0 hB1 v0 v1
        go_wp2_with fail
        go_ret
        exact ⟨ret_bool HE.out.1.symm, HE.out.2⟩
      · have HN : Hid (Below w.heap.size w w2 ∧ ∀ q (h : q < rs.length) (h' : q < U.l.length), q < j + 1 → relY escFits rs[q].i.ty U.l[q].ty = true) := by
          refine ⟨hbr2, fun q h h' hq => ?_⟩
          by_cases e : q = j
          · subst e; exact HRR.out
          · exact HQ.out.2 q h h' (by omega)
        clear hb2 hbr2 HI HQ hB0 hB1 v0 v1
        go_wp2_with fail
        rw [← HEA.out, ← HEB.out]
        go_roundg (rs.length - (j + 1))
        case measure => omega
        case rel => exact ⟨j + 1, by omega, by go_num, HN⟩
    · have HE : Hid (fitL (rs.map fun r => r.i.ty) (U.l.map Tr.ty) = true ∧ Below w.heap.size w wr) :=
        ⟨fitL_all _ _ fun q h h' => by simpa using HQ.out.2 q (by simpa using h) (by simpa using h') (by have : q < rs.length := (by simpa using h); omega), HQ.out.1⟩
      clear HQ
      go_wp2_with fail
      go_ret
      exact ⟨ret_bool HE.out.1.symm, HE.out.2⟩
end Go.Proofs.YtnddkmccagiclaaGreatDoor

/-
  What the call of check's typesOf answers: the types of a row of readings, in a row of their own.
-/
namespace Go.Proofs.YtnddkmccagiclaaGreatDoor
open Go.RowKit

theorem makeN (n : Nat) (hn : n ≤ 1000) (w : World) : (Instr.makeSlice 22 (.int .i64 (n : Int)) (.int .i64 (n : Int))).run Tryz.prog w = .ok (.slice (some ⟨w.heap.size, 0, none⟩) n n) (w.alloc (.cells (madeCells #[.int .i64 0, .slice none 0 0] (n * 2)) 24)) := by
  obtain ⟨i0, hi0, hz0, hz1, hz2⟩ := info_parts Tryz.info24
  have h := run_make (P := Tryz.prog) w 22 24 i0 _ Tryz.underlying22 hi0 hz0 .i64 .i64 (n : Int) (n : Int) (by omega) (by omega) (by rw [hz2]; omega) (by omega)
  rw [h, hz1]
  rfl

/-- The row while it is filled: the first j types stand, all cells are there. -/
structure TyRow (w : World) (g : Nat) (rs : List Rd) (j : Nat) (wr : World) : Prop where
  bel : Below w.heap.size w wr
  is : ∀ q (h : q < rs.length), q < j → wr.cell? ⟨g, q * 2, none⟩ = some (.int .i64 rs[q].i.k) ∧ wr.cell? ⟨g, q * 2 + 1, none⟩ = some (.slice rs[q].i.a rs[q].i.l.length rs[q].i.c)
  any : ∀ i, i < rs.length * 2 → ∃ v, wr.cell? ⟨g, i, none⟩ = some v
  fz : ∀ i, wr.frozen? ⟨g, i, none⟩ = false

theorem TyRow.start (w : World) (rs : List Rd) : TyRow w w.heap.size rs 0 (w.alloc (.cells (madeCells #[.int .i64 0, .slice none 0 0] (rs.length * 2)) 24)) := by
  refine ⟨(Below.refl _ _).alloc (Nat.le_refl _) _, fun q _ h => absurd h (by omega), fun i hi => ?_, fun i => by simp [go_sem]⟩
  have hs : i < (madeCells #[.int .i64 0, .slice none 0 0] (rs.length * 2)).size := by rw [size_madeCells]; exact hi
  refine ⟨(madeCells #[.int .i64 0, .slice none 0 0] (rs.length * 2))[i], ?_⟩
  simp [go_sem, hs]

theorem TyRow.step {w wr : World} {g j : Nat} {rs : List Rd} (h : TyRow w g rs j wr) (hg : w.heap.size ≤ g) (hgl : g < wr.heap.size) (hj : j < rs.length) (X : Obj) :
    TyRow w g rs (j + 1) (((wr.alloc X).setCell ⟨g, j * 2, none⟩ (.int .i64 rs[j].i.k)).setCell ⟨g, j * 2 + 1, none⟩ (.slice rs[j].i.a rs[j].i.l.length rs[j].i.c)) := by
  have hb : Below wr.heap.size wr (wr.alloc X) := (Below.refl _ _).alloc (Nat.le_refl _) _
  refine ⟨((h.bel.trans (hb.mono h.bel.size)).setCell hg _).setCell hg _, fun q hq hlt => ?_, fun i hi => ?_, fun i => ?_⟩
  · by_cases e : q = j
    · subst e
      obtain ⟨v0, hv0⟩ := h.any (q * 2) (by omega)
      obtain ⟨v1, hv1⟩ := h.any (q * 2 + 1) (by omega)
      constructor
      · simpa using set_get (j := q * 2 + 1) (v := .slice rs[q].i.a rs[q].i.l.length rs[q].i.c) (set_get (j := q * 2) (v := .int .i64 rs[q].i.k) (cell_later hb hv0))
      · simpa using set_get (j := q * 2 + 1) (v := .slice rs[q].i.a rs[q].i.l.length rs[q].i.c) (set_get (j := q * 2) (v := .int .i64 rs[q].i.k) (cell_later hb hv1))
    · obtain ⟨c0, c1⟩ := h.is q hq (by omega)
      have n1 : q * 2 ≠ j * 2 := by omega
      have n2 : q * 2 ≠ j * 2 + 1 := by omega
      have n3 : q * 2 + 1 ≠ j * 2 := by omega
      have n4 : q * 2 + 1 ≠ j * 2 + 1 := by omega
      constructor
      · have := set_get (j := j * 2 + 1) (v := .slice rs[j].i.a rs[j].i.l.length rs[j].i.c) (set_get (j := j * 2) (v := .int .i64 rs[j].i.k) (cell_later hb c0))
        rw [if_neg n2, if_neg n1] at this
        exact this
      · have := set_get (j := j * 2 + 1) (v := .slice rs[j].i.a rs[j].i.l.length rs[j].i.c) (set_get (j := j * 2) (v := .int .i64 rs[j].i.k) (cell_later hb c1))
        rw [if_neg n4, if_neg n3] at this
        exact this
  · obtain ⟨v, hv⟩ := h.any i hi
    exact ⟨_, set_get (j := j * 2 + 1) (v := .slice rs[j].i.a rs[j].i.l.length rs[j].i.c) (set_get (j := j * 2) (v := .int .i64 rs[j].i.k) (cell_later hb hv))⟩
  · have := (hb.frozen (p := ⟨g, i, none⟩) hgl).trans (h.fz i)
    simpa using this

set_option maxRecDepth 20000 in
set_option maxHeartbeats 1000000 in
/-- typesOf. -/
theorem typesOf_any (rs : List Rd) (a : Option Addr) (c : Nat) (w : World) (hr : RL w a rs) (h3 : rs.length ≤ 1000) :
    Calls Tryz.prog 66 #[.slice a rs.length c] w fun e w' => ∃ T : Tr, e = .returned (.slice T.a T.l.length T.c) ∧ T.l = rs.map (fun r => r.i) ∧ T.In w' ∧ (∀ y, T.a = some y → w.heap.size ≤ y.block) ∧ Below w.heap.size w w' := by
  have hmk := makeN rs.length h3
  have HR : Hid (RL w a rs) := hr
  have HT : Hid (TyRow w w.heap.size rs 0 (w.alloc (.cells (madeCells #[.int .i64 0, .slice none 0 0] (rs.length * 2)) 24))) := TyRow.start w rs
  clear hr
  go_enter Tryz.func66, Tryz.ntmps66
  go_wp2_with fail
  go_loopg [11] rs.length (fun g i wr => ∃ (j : Nat), g + j = rs.length ∧ i = .int .i64 (j : Int) ∧ Hid (TyRow w w.heap.size rs j wr ∧ w.heap.size < wr.heap.size))
  case atStart => exact ⟨0, by omega, rfl, HT.out, by simp⟩
  case round =>
    obtain ⟨j, hj, rfl, HQ⟩ := hrel
    by_cases hlt : j < rs.length
    · obtain ⟨b, o, ea, h10, hy, hi⟩ := HR.out j hlt
      have hb := HQ.out.1.bel
      have h11 := h10.below hb
      obtain ⟨d0, ⟨d1, d2, d3, d4, d5, d6, d7⟩, d8, d9⟩ := h11
      have i1 : (j : Int) < (rs.length : Int) := by omega
      have i0 : (0 : Int) ≤ (j : Int) := by omega
      have HEA : Hid (a = some ⟨b, o, none⟩) := ea
      rw [ea]
      have hbA : ∀ X, Below wr.heap.size wr (wr.alloc X) := fun X => (Below.refl _ _).alloc (Nat.le_refl _) _
      obtain ⟨x0, hx0⟩ := HQ.out.1.any (j * 2) (by omega)
      obtain ⟨x1, hx1⟩ := HQ.out.1.any (j * 2 + 1) (by omega)
      have v0 := fun X => cell_later (hbA X) hx0
      have v1 := fun X => cell_later (hbA X) hx1
      have vf : ∀ X i, (wr.alloc X).frozen? ⟨w.heap.size, i, none⟩ = false := fun X i => ((hbA X).frozen (p := ⟨w.heap.size, i, none⟩) HQ.out.2).trans (HQ.out.1.fz i)
      have nw : wr.heap.size ≠ w.heap.size := by have := HQ.out.2; omega
      have HN : Hid (TyRow w w.heap.size rs (j + 1) (((wr.alloc (.cells #[.int .i64 rs[j].n, .int .i64 rs[j].y.k, .int .i64 rs[j].y.n, .int .i64 rs[j].y.t.k, .slice rs[j].y.t.a rs[j].y.t.l.length rs[j].y.t.c, .int .i64 rs[j].y.f.k, .slice rs[j].y.f.a rs[j].y.f.l.length rs[j].y.f.c, .slice rs[j].y.a rs[j].y.l.length rs[j].y.c, .int .i64 rs[j].i.k, .slice rs[j].i.a rs[j].i.l.length rs[j].i.c] 71)).setCell ⟨w.heap.size, j * 2, none⟩ (.int .i64 rs[j].i.k)).setCell ⟨w.heap.size, j * 2 + 1, none⟩ (.slice rs[j].i.a rs[j].i.l.length rs[j].i.c)) ∧ w.heap.size < (((wr.alloc (.cells #[.int .i64 rs[j].n, .int .i64 rs[j].y.k, .int .i64 rs[j].y.n, .int .i64 rs[j].y.t.k, .slice rs[j].y.t.a rs[j].y.t.l.length rs[j].y.t.c, .int .i64 rs[j].y.f.k, .slice rs[j].y.f.a rs[j].y.f.l.length rs[j].y.f.c, .slice rs[j].y.a rs[j].y.l.length rs[j].y.c, .int .i64 rs[j].i.k, .slice rs[j].i.a rs[j].i.l.length rs[j].i.c] 71)).setCell ⟨w.heap.size, j * 2, none⟩ (.int .i64 rs[j].i.k)).setCell ⟨w.heap.size, j * 2 + 1, none⟩ (.slice rs[j].i.a rs[j].i.l.length rs[j].i.c)).heap.size) :=
        ⟨HQ.out.1.step (Nat.le_refl _) HQ.out.2 hlt _, by have := HQ.out.2; simp [World.setCell]; omega⟩
      clear ea hbA hb h10 hy hi HQ HT
      go_wp2_with fail
      rw [← HEA.out]
      go_roundg (rs.length - (j + 1))
      case measure => omega
      case rel => exact ⟨j + 1, by omega, by go_num, HN⟩
    · have HE : Hid (TyRow w w.heap.size rs j wr) := HQ.out.1
      have HJ : Hid (rs.length ≤ j) := by exact Nat.le_of_not_lt hlt
      clear HQ
      go_wp2_with fail
      go_ret
      refine ⟨⟨0, some ⟨w.heap.size, 0, none⟩, rs.length, rs.map fun r => r.i⟩, by simp, rfl, ?_, fun y hy => by cases hy; exact Nat.le_refl _, HE.out.bel⟩
      refine Tr.In_mk.2 ⟨fun q hq => ?_, fun t ht => ?_⟩
      · have hq' : q < rs.length := by simpa using hq
        obtain ⟨c0, c1⟩ := HE.out.is q hq' (by have := HJ.out; omega)
        exact ⟨w.heap.size, 0, rfl, by simpa using c0, by simpa [Tr.sl] using c1⟩
      · obtain ⟨r, hr, rfl⟩ := List.mem_map.1 ht
        obtain ⟨q, hq, rfl⟩ := List.getElem_of_mem hr
        obtain ⟨_, _, _, _, _, hi⟩ := HR.out q hq
        exact hi.below HE.out.bel
end Go.Proofs.YtnddkmccagiclaaGreatDoor

/-
  What the call of check's ahead answers: a new row, a type ahead of others.
-/
namespace Go.Proofs.YtnddkmccagiclaaGreatDoor
open Go.RowKit

/-- append of nothing, where there is room for nothing. -/
theorem wpList_append_void {P : Program} {ops : Array Oper} {rest : List Oper} {o : Oper} {a : Act} {w : World} {Q : Exit → Act → World → Prop}
    (hg : o.guard = none) (s x : Operand) (t : TypeId) (hop : o.op = Op.call { callee := Callee.builtin Builtin.append, args := #[s, x], argTypes := #[t, t] })
    (e : TypeId) (i : TypeInfo) (h1 : P.underlying t = some (.slice e)) (h2 : P.info? e = some i)
    (b n cap : Nat) (hs : a.eval s = .slice (some ⟨b, 0, none⟩) n cap) (xa : Option Addr) (c : Nat) (hx : a.eval x = .slice xa 0 c) (hroom : n ≤ cap)
    (h : wpList P ops Q rest (a.put o.dst (.slice (some ⟨b, 0, none⟩) n cap)) w) : wpList P ops Q (o :: rest) a w := by
  refine wpList_plain hg fun K hK => ?_
  have hsrc : Src P i.size t (.slice xa 0 c) 0 [] w := by
    cases xa with
    | none => exact Src.ofNil w h1 c
    | some ad => exact Src.ofSlice w h1 ad 0 c [] (by simp) (fun j u h => by simp at h) (fun u h => by cases h)
  have hrun := run_append_room_src (P := P) w t t o.type e i h1 h2 b 0 n cap (.slice xa 0 c) 0 [] hsrc (by omega) (fun j h => by simp at h) (fun j h => by simp at h)
  unfold Oper.wp
  simp only [execOp, hop, resolve, invoke, builtin, Sem.run_bind, Sem.run_pure, Result.andThen_ok, List.map_toArray, List.map_cons, List.map_nil, hs, hx, hrun]
  exact hK _ _ h

theorem cellsOf_at : ∀ (l : List Tr) (q : Nat) (h : q < l.length), (cellsOf l)[q * 2]? = some (.int .i64 l[q].k) ∧ (cellsOf l)[q * 2 + 1]? = some (.slice l[q].a l[q].l.length l[q].c)
  | [], q, h => by simp at h
  | x :: r, 0, _ => by simp [cellsOf]
  | x :: r, q + 1, h => by
    have := cellsOf_at r q (by simpa using h)
    have e : (q + 1) * 2 = q * 2 + 1 + 1 := by omega
    rw [e]
    simpa [cellsOf] using this

theorem cellsOf_one : ∀ (l : List Tr) (u : Value), u ∈ cellsOf l → u.oneCell' = true
  | [], u, h => by simp [cellsOf] at h
  | x :: r, u, h => by
    simp only [cellsOf, List.mem_cons] at h
    rcases h with rfl | rfl | h
    · simp [Value.oneCell']
    · simp [Value.oneCell']
    · exact cellsOf_one r u h

theorem cellsOf_news {w : World} {T : Tr} {b o : Nat} (h : T.In w) (ha : T.a = some ⟨b, o, none⟩) (j : Nat) (u : Value) (hj : (cellsOf T.l)[j]? = some u) : w.cell? ((⟨b, o, none⟩ : Addr).add j) = some u := by
  have hlt : j < T.l.length * 2 := by
    have := (List.getElem?_eq_some_iff.1 hj).1
    rwa [cellsOf_length] at this
  obtain ⟨b', o', e, c0, c1, _⟩ := h.part (j / 2) (by omega)
  rw [ha] at e
  cases e
  obtain ⟨d0, d1⟩ := cellsOf_at T.l (j / 2) (by omega)
  have hadd : (⟨b, o, none⟩ : Addr).add j = ⟨b, o + j, none⟩ := by
    unfold Addr.add
    split
    · rename_i h; simp_all
    · rfl
  rcases Nat.mod_two_eq_zero_or_one j with hm | hm
  · have e : j / 2 * 2 = j := by omega
    rw [e] at d0 c0
    rw [hj] at d0
    rw [Option.some.inj d0]
    rw [hadd]
    exact c0
  · have e : j / 2 * 2 + 1 = j := by omega
    have e' : o + j / 2 * 2 + 1 = o + j := by omega
    rw [e] at d1
    rw [e'] at c1
    rw [hj] at d1
    rw [Option.some.inj d1]
    rw [hadd]
    exact c1

/-- A row of types that is owned is a tree's list. -/
theorem tr_of_row {w : World} {base g cap n : Nat} {l : List Tr} (h : w.ownsRow base 24 2 (.slice (some ⟨g, 0, none⟩) n cap) n (cellsOf l)) (hn : n = l.length) (hin : ∀ t, t ∈ l → t.In w) (k : Int) : (Tr.mk k (some ⟨g, 0, none⟩) cap l).In w := by
  refine Tr.In_mk.2 ⟨fun j hj => ⟨g, 0, rfl, ?_, ?_⟩, hin⟩
  · rw [h.cellAt _ (by omega)]
    simpa using (cellsOf_at l j hj).1
  · rw [h.cellAt _ (by omega)]
    simpa [Tr.sl] using (cellsOf_at l j hj).2

set_option maxRecDepth 20000 in
set_option maxHeartbeats 1000000 in
theorem ahead_any (x T : Tr) (w : World) (hx : x.In w) (hT : T.In w) (hl : T.l.length ≤ 1000) :
    Calls Tryz.prog 63 #[.agg #[.int .i64 x.k, .slice x.a x.l.length x.c], .slice T.a T.l.length T.c] w fun e w' => ∃ N : Tr, e = .returned (.slice N.a N.l.length N.c) ∧ N.l = x :: T.l ∧ N.In w' ∧ (∀ y, N.a = some y → w.heap.size ≤ y.block) ∧ Below w.heap.size w w' := by
  obtain ⟨i0, hi0, hz0, hz1, hz2⟩ := info_parts Tryz.info24
  have hb0 : Below w.heap.size w ((w.alloc (.cells #[.int .i64 x.k, .slice x.a x.l.length x.c] 24)).alloc (.cells #[.int .i64 x.k, .slice x.a x.l.length x.c] 24)) := ((Below.refl _ _).alloc (Nat.le_refl _) _).alloc (by simp) _
  have hown : ((w.alloc (.cells #[.int .i64 x.k, .slice x.a x.l.length x.c] 24)).alloc (.cells #[.int .i64 x.k, .slice x.a x.l.length x.c] 24)).ownsRow (w.heap.size + 1) 24 2 (.slice (some ⟨w.heap.size + 1, 0, none⟩) 1 1) 1 (cellsOf [x]) := by
    have := World.ownsRow_lit (base := w.heap.size + 1) (e := 24) (size := 2) (w.alloc (.cells #[.int .i64 x.k, .slice x.a x.l.length x.c] 24)) #[.int .i64 x.k, .slice x.a x.l.length x.c] 1 (by simp) (by unfold maxLen; omega) (by simp)
    simpa [cellsOf] using this
  by_cases h0 : T.l.length = 0
  · have hT0 : T.l = [] := List.eq_nil_of_length_eq_zero h0
    have HE : Hid ((Tr.mk 0 (some ⟨w.heap.size + 1, 0, none⟩) 1 [x]).In ((w.alloc (.cells #[.int .i64 x.k, .slice x.a x.l.length x.c] 24)).alloc (.cells #[.int .i64 x.k, .slice x.a x.l.length x.c] 24)) ∧ Below w.heap.size w ((w.alloc (.cells #[.int .i64 x.k, .slice x.a x.l.length x.c] 24)).alloc (.cells #[.int .i64 x.k, .slice x.a x.l.length x.c] 24))) :=
      ⟨tr_of_row hown rfl (fun t ht => by have : t = x := (by simpa using ht); subst this; exact hx.below hb0) 0, hb0⟩
    rw [h0]
    clear hown hb0 hx hT hl
    go_enter Tryz.func63, Tryz.ntmps63
    go_wp2_with (at_builtin; refine wpList_append_void rfl _ _ _ rfl 24 i0 Tryz.underlying22 hi0 (w.heap.size + 1) 1 1 rfl T.a T.c rfl (by omega) ?_)
    go_ret
    exact ⟨_, rfl, by rw [hT0], HE.out.1, fun y hy => by cases hy; show w.heap.size ≤ w.heap.size + 1; omega, HE.out.2⟩
  · obtain ⟨b, o, ea, _⟩ := hT.part 0 (by omega)
    have hT1 := hT.below hb0
    have hnews := fun j u h => cellsOf_news hT1 ea j u h
    have HIN : Hid (∀ t, t ∈ x :: T.l → t.In ((w.alloc (.cells #[.int .i64 x.k, .slice x.a x.l.length x.c] 24)).alloc (.cells #[.int .i64 x.k, .slice x.a x.l.length x.c] 24)) ∧ t.Bl (· < w.heap.size)) := by
      intro t ht
      rcases List.mem_cons.1 ht with rfl | ht
      · exact ⟨hx.below hb0, hx.bl⟩
      · obtain ⟨q, hq, rfl⟩ := List.getElem_of_mem ht
        obtain ⟨_, _, _, _, _, hi⟩ := hT.part q hq
        exact ⟨hi.below hb0, hi.bl⟩
    have hm : 0 < T.l.length := by omega
    have HB : Hid (Below w.heap.size w ((w.alloc (.cells #[.int .i64 x.k, .slice x.a x.l.length x.c] 24)).alloc (.cells #[.int .i64 x.k, .slice x.a x.l.length x.c] 24))) := hb0
    rw [ea]
    clear hx hT hT1 ea hb0
    go_enter Tryz.func63, Tryz.ntmps63
    go_wp2_with (at_builtin; refine wpList_append_lies _ rfl _ _ _ rfl (w.heap.size + 1) 24 i0 _ 2 32 Tryz.underlying22 hi0 hz0 hz1 hz2 rfl (by omega) (.slice (some ⟨w.heap.size + 1, 0, none⟩) 1 1) 1 (cellsOf [x]) rfl hown ⟨b, o, none⟩ T.l.length T.c (cellsOf T.l) rfl (cellsOf_length _) hnews (cellsOf_one _) hm (by unfold maxLen; omega) (by omega) (by simp) (w.heap.size + 1 + 1) (by simp) ?_; intro gg cap1 w3 hown1 hgrow hat hlt3)
    have hg : w.heap.size + 1 ≤ gg := by rcases hat with h | h
                                         · simp [Value.ownBlock] at h; omega
                                         · omega
    have hsz := hgrow.size
    have hlow : Below (w.heap.size + 1) ((w.alloc (.cells #[.int .i64 x.k, .slice x.a x.l.length x.c] 24)).alloc (.cells #[.int .i64 x.k, .slice x.a x.l.length x.c] 24)) w3 :=
      ⟨hgrow.os, hgrow.tape, hgrow.output, hgrow.size, fun q hq => hgrow.block q (by simp; omega) (by simp [Value.ownBlock]; omega)⟩
    have HE : Hid ((Tr.mk 0 (some ⟨gg, 0, none⟩) cap1 (x :: T.l)).In w3 ∧ Below w.heap.size w w3) := by
      refine ⟨tr_of_row (n := 1 + T.l.length) (l := x :: T.l) (by simpa [cellsOf] using hown1) (by simp; omega) (fun t ht => ?_) 0, HB.out.trans (hlow.mono (by omega))⟩
      obtain ⟨h1, h2⟩ := HIN.out t ht
      exact Tr.In.congr (P := fun q => q < w.heap.size) (fun q hq o => hlow.cell (p := ⟨q, o, none⟩) (by show q < _; omega)) h2 h1
    clear hown1 hgrow hat hlt3 hlow hown hnews HIN HB
    go_wp2_with fail
    go_ret
    exact ⟨⟨0, some ⟨gg, 0, none⟩, cap1, x :: T.l⟩, by simp [Nat.add_comm], rfl, HE.out.1, fun y hy => by cases hy; show w.heap.size ≤ gg; omega, HE.out.2⟩
end Go.Proofs.YtnddkmccagiclaaGreatDoor

/-
  What the call of chaperoneref.text answers: words; a row of words that a call makes longer.
-/
namespace Go.Proofs.YtnddkmccagiclaaGreatDoor
open Go.RowKit

/-- An operation that may be taken first, by its place in the region's list. -/
theorem takeH {P : Program} {md : Region.Mode} {ops : Array Oper} {Q : Exit → Act → World → Prop} {S : World → Prop} {i : Nat} {o : Oper} {v : Value} {fuel : Nat} {listed : Array Bool} {a : Act} {w : World} (ho : ops.toList[i]? = some o)
    (hs : Region.noSelect ops = true) (hf : Region.free md ops listed i = true) (hr : (Region.ready md ops listed).contains i = true)
    (hQ : ∀ c a w, Q (.panic c) (a.put o.dst v) w → Q (.panic c) a w) (hy : YieldsIf P ops S o v a) (hS : S w)
    (h : wpAnyH P md ops Q S fuel (listed.setIfInBounds i true) (a.put o.dst v) w) : wpAnyH P md ops Q S (fuel + 1) listed a w :=
  wpAnyH_take (i := i) (oi := o) (by simpa using ho) hs hf hr hQ hy hS h

/-- The one that comes up, by its place in the region's list. -/
theorem oneH {P : Program} {md : Region.Mode} {ops : Array Oper} {Q : Exit → Act → World → Prop} {S : World → Prop} {i : Nat} {o : Oper} {fuel : Nat} {listed : Array Bool} {a : Act} {w : World} (ho : ops.toList[i]? = some o) (hr : Region.ready md ops listed = [i])
    (h : ∀ K' : Act → World → Prop, Shut (∀ a w, S w → (S w → wpAnyH P md ops Q S fuel (listed.setIfInBounds i true) a w) → K' a w) → if Region.wanted o (yielded ops a.tmps) = true then Oper.wp P o a w K' Q else K' (a.put o.dst undef) w) : wpAnyH P md ops Q S (fuel + 1) listed a w :=
  wpAnyH_ready hr (by simp) (AllReadyH.cons (o := o) (by simpa using ho) h AllReadyH.nil)


set_option maxRecDepth 20000 in
set_option maxHeartbeats 1000000 in
theorem refTm_word (x : TT) (w : World) (hk : x.k = 1 ∨ x.k = 2 ∨ x.k = 3) (h0 : -1000000 ≤ x.n) (h1 : x.n ≤ 1000000) (h3 : x.k = 3 → x.n = 0 ∨ x.n = 1) :
    Calls Tryz.prog 23 #[.agg #[.int .i64 x.k, .int .i64 x.n, .int .i64 x.t.k, .slice x.t.a x.t.l.length x.t.c, .int .i64 x.f.k, .slice x.f.a x.f.l.length x.f.c, .slice x.a x.l.length x.c]] w fun e w' => e = .returned (.string (bw (if x.k = 1 then 35 :: Lib.itoa x.n else if x.k = 2 then Lib.itoa x.n else truthW x.n))) ∧ Below w.heap.size w w' := by
  have hl := itoa_short x.n h0 h1
  have HI : Hid (∀ W, Calls Tryz.prog 39 #[.int .i64 x.n] W fun e w' => e = .returned (.string (bw (Lib.itoa x.n))) ∧ Below W.heap.size W w') := decimal_any x.n (by omega) (by omega)
  have hb0 : ∀ o, Below w.heap.size w (w.alloc o) := fun o => (Below.refl _ _).alloc (Nat.le_refl _) _
  by_cases k1 : x.k = 1
  · rw [if_pos k1]
    have e1 : (x.k == 1) = true := by simp [k1]
    have a1 : ∀ w, (Op.stringOp .add ⟨#[35]⟩ (bw (Lib.itoa x.n))).run Tryz.prog w = .ok (.string (bw (35 :: Lib.itoa x.n))) w := rcat_run [35] (Lib.itoa x.n) (by simp; omega)
    clear hk h3 k1 hb0
    go_enter Tryz.func23, Tryz.ntmps23
    go_wp2_with fail
    refine (HI.out _).mono ?_
    rintro e w1 ⟨rfl, hb1⟩
    have hb2 : Below w.heap.size w w1 := ((Below.refl _ _).alloc (Nat.le_refl _) _).trans (hb1.mono (by simp))
    clear hb1
    go_wp2_with fail
    go_ret
    exact ⟨rfl, hb2⟩
  · rw [if_neg k1]
    have e1 : (x.k == 1) = false := by simpa using k1
    by_cases k2 : x.k = 2
    · rw [if_pos k2]
      have e2 : (x.k == 2) = true := by simp [k2]
      clear hk h3 k1 k2 hb0
      go_enter Tryz.func23, Tryz.ntmps23
      go_wp2_with fail
      refine (HI.out _).mono ?_
      rintro e w1 ⟨rfl, hb1⟩
      have hb2 : Below w.heap.size w w1 := ((Below.refl _ _).alloc (Nat.le_refl _) _).trans (hb1.mono (by simp))
      clear hb1
      go_wp2_with fail
      go_ret
      exact ⟨rfl, hb2⟩
    · rw [if_neg k2]
      have e2 : (x.k == 2) = false := by simpa using k2
      have k3 : x.k = 3 := by omega
      have e3 : (x.k == 3) = true := by simp [k3]
      rcases h3 k3 with h | h
      · have e4 : (x.n == 1) = false := by rw [h]; rfl
        have et : truthW x.n = [110, 111] := by rw [h]; rfl
        rw [et]
        clear hk h3 k1 k2 k3 hb0 h
        go_enter Tryz.func23, Tryz.ntmps23
        go_wp2_with fail
        go_ret
        exact ⟨rfl, (Below.refl _ _).alloc (Nat.le_refl _) _⟩
      · have e4 : (x.n == 1) = true := by rw [h]; rfl
        have et : truthW x.n = [121, 101, 115] := by rw [h]; rfl
        rw [et]
        clear hk h3 k1 k2 k3 hb0 h
        go_enter Tryz.func23, Tryz.ntmps23
        go_wp2_with fail
        go_ret
        exact ⟨rfl, (Below.refl _ _).alloc (Nat.le_refl _) _⟩


/-- The words of the law, in one text. -/
def lawWords : ByteArray := ⟨#[97, 100, 100, 32, 108, 101, 115, 115, 32, 105, 102, 32, 102, 117, 110, 32, 99, 97, 108, 108, 32, 97, 115]⟩
theorem lawWords_fields : Lib.fields lawWords.data.toList = [kindW 4, kindW 5, kindW 6, kindW 7, kindW 8, kindW 9] := by decide +kernel

theorem lawWords_ascii : ∀ b, b ∈ lawWords.data.toList → b.toNat < 128 := by decide +kernel

theorem fields_any (w : World) (htab : Lib.TabIs Tryz.prog w "strings.asciiSpace" .u8 Lib.asciiSpaceTab) :
    Calls Tryz.prog 40 #[.string lawWords] w fun e w' => e = .returned (.slice (some ⟨w.heap.size, 0, none⟩) 6 6) ∧ w' = w.alloc (.cells #[.string (bw (kindW 4)), .string (bw (kindW 5)), .string (bw (kindW 6)), .string (bw (kindW 7)), .string (bw (kindW 8)), .string (bw (kindW 9))] 9) := by
  have h := Tryz.strings_Fields lawWords w (by decide) (fun j b h => lawWords_ascii b (List.mem_of_getElem? h)) htab
  rw [lawWords_fields] at h
  exact h

/-- A row of words in a block of its own. -/
structure Wds (B : Nat) (v : Value) (ss : List (List UInt8)) (w : World) : Prop where
  own : w.ownsRow B 9 1 v ss.length (ss.map fun s => Value.string (bw s))

theorem join_words (kw : List UInt8) (r : List (List UInt8)) : Lib.join (kw :: r) [32] = kw ++ r.flatMap (fun s => 32 :: s) := by
  rw [Lib.join_cons]
  simp [Lib.joinTail, List.flatMap]

end Go.Proofs.YtnddkmccagiclaaGreatDoor

/-
  What the call of check's cast answers: the term as it is, or a cast about it.
-/
namespace Go.Proofs.YtnddkmccagiclaaGreatDoor
open Go.RowKit

def castY (n : Int) (x : Tm) (i u : Ty) : Tm := if relY escSame i u then x else ⟨10, n, u, i, [x]⟩

/-- Behind the entry: the reading, what it is used as, the place of the answer. -/
structure CB (H : Nat) (r : Rd) (u : Tr) (W : World) : Prop where
  p0 : W.cell? ⟨H, 0, none⟩ = some (.int .i64 r.n)
  p1 : W.cell? ⟨H, 1, none⟩ = some (.int .i64 r.y.k)
  p2 : W.cell? ⟨H, 2, none⟩ = some (.int .i64 r.y.n)
  p3 : W.cell? ⟨H, 3, none⟩ = some (.int .i64 r.y.t.k)
  p4 : W.cell? ⟨H, 4, none⟩ = some (.slice r.y.t.a r.y.t.l.length r.y.t.c)
  p5 : W.cell? ⟨H, 5, none⟩ = some (.int .i64 r.y.f.k)
  p6 : W.cell? ⟨H, 6, none⟩ = some (.slice r.y.f.a r.y.f.l.length r.y.f.c)
  p7 : W.cell? ⟨H, 7, none⟩ = some (.slice r.y.a r.y.l.length r.y.c)
  p8 : W.cell? ⟨H, 8, none⟩ = some (.int .i64 r.i.k)
  p9 : W.cell? ⟨H, 9, none⟩ = some (.slice r.i.a r.i.l.length r.i.c)
  u0 : W.cell? ⟨H + 1, 0, none⟩ = some (.int .i64 u.k)
  u1 : W.cell? ⟨H + 1, 1, none⟩ = some (.slice u.a u.l.length u.c)
  z0 : W.cell? ⟨H + 1 + 1, 0, none⟩ = some (.int .i64 0)
  z1 : W.cell? ⟨H + 1 + 1, 1, none⟩ = some (.int .i64 0)
  z2 : W.cell? ⟨H + 1 + 1, 2, none⟩ = some (.int .i64 0)
  z3 : W.cell? ⟨H + 1 + 1, 3, none⟩ = some (.slice none 0 0)
  z4 : W.cell? ⟨H + 1 + 1, 4, none⟩ = some (.int .i64 0)
  z5 : W.cell? ⟨H + 1 + 1, 5, none⟩ = some (.slice none 0 0)
  z6 : W.cell? ⟨H + 1 + 1, 6, none⟩ = some (.slice none 0 0)
  fz : ∀ i, W.frozen? ⟨H + 1 + 1, i, none⟩ = false
  iu : u.In W
  ii : r.i.In W
  iy : r.y.In W

theorem CB.below {H : Nat} {r : Rd} {u : Tr} {W W' : World} (h : CB H r u W) (hb : Below W.heap.size W W') : CB H r u W' :=
  ⟨cell_later hb h.p0, cell_later hb h.p1, cell_later hb h.p2, cell_later hb h.p3, cell_later hb h.p4, cell_later hb h.p5, cell_later hb h.p6, cell_later hb h.p7, cell_later hb h.p8, cell_later hb h.p9, cell_later hb h.u0, cell_later hb h.u1, cell_later hb h.z0, cell_later hb h.z1, cell_later hb h.z2, cell_later hb h.z3, cell_later hb h.z4, cell_later hb h.z5, cell_later hb h.z6, fun i => (hb.frozen (p := ⟨H + 1 + 1, i, none⟩) (show (⟨H + 1 + 1, 0, none⟩ : Addr).block < W.heap.size from World.block_lt_of_cell? _ _ h.z0)).trans (h.fz i), h.iu.below hb, h.ii.below hb, h.iy.below hb⟩

def CPost (r : Rd) (u : Tr) (w : World) (e : Ending) (w' : World) : Prop :=
  ∃ z : TT, e = .returned (.agg #[.int .i64 z.k, .int .i64 z.n, .int .i64 z.t.k, .slice z.t.a z.t.l.length z.t.c, .int .i64 z.f.k, .slice z.f.a z.f.l.length z.f.c, .slice z.a z.l.length z.c]) ∧ z.tm = castY r.n r.y.tm r.i.ty u.ty ∧ z.In w' ∧ (∀ Q : Nat → Prop, (∀ b, w.heap.size ≤ b → Q b) → r.y.Bl Q → z.Bl Q) ∧ Below w.heap.size w w'

theorem cb_start (r : Rd) (u : Tr) (w : World) (hu : u.In w) (hi : r.i.In w) (hy : r.y.In w) : CB w.heap.size r u (((w.alloc (Obj.cells #[.int .i64 r.n, .int .i64 r.y.k, .int .i64 r.y.n, .int .i64 r.y.t.k, .slice r.y.t.a r.y.t.l.length r.y.t.c, .int .i64 r.y.f.k, .slice r.y.f.a r.y.f.l.length r.y.f.c, .slice r.y.a r.y.l.length r.y.c, .int .i64 r.i.k, .slice r.i.a r.i.l.length r.i.c] 71)).alloc (Obj.cells #[.int .i64 u.k, .slice u.a u.l.length u.c] 24)).alloc (Obj.cells #[.int .i64 0, .int .i64 0, .int .i64 0, .slice none 0 0, .int .i64 0, .slice none 0 0, .slice none 0 0] 27)) ∧ Below w.heap.size w (((w.alloc (Obj.cells #[.int .i64 r.n, .int .i64 r.y.k, .int .i64 r.y.n, .int .i64 r.y.t.k, .slice r.y.t.a r.y.t.l.length r.y.t.c, .int .i64 r.y.f.k, .slice r.y.f.a r.y.f.l.length r.y.f.c, .slice r.y.a r.y.l.length r.y.c, .int .i64 r.i.k, .slice r.i.a r.i.l.length r.i.c] 71)).alloc (Obj.cells #[.int .i64 u.k, .slice u.a u.l.length u.c] 24)).alloc (Obj.cells #[.int .i64 0, .int .i64 0, .int .i64 0, .slice none 0 0, .int .i64 0, .slice none 0 0, .slice none 0 0] 27)) := by
  have hb : Below w.heap.size w (((w.alloc (Obj.cells #[.int .i64 r.n, .int .i64 r.y.k, .int .i64 r.y.n, .int .i64 r.y.t.k, .slice r.y.t.a r.y.t.l.length r.y.t.c, .int .i64 r.y.f.k, .slice r.y.f.a r.y.f.l.length r.y.f.c, .slice r.y.a r.y.l.length r.y.c, .int .i64 r.i.k, .slice r.i.a r.i.l.length r.i.c] 71)).alloc (Obj.cells #[.int .i64 u.k, .slice u.a u.l.length u.c] 24)).alloc (Obj.cells #[.int .i64 0, .int .i64 0, .int .i64 0, .slice none 0 0, .int .i64 0, .slice none 0 0, .slice none 0 0] 27)) := (((Below.refl _ _).alloc (Nat.le_refl _) _).alloc (by simp) _).alloc (by simp; omega) _
  refine ⟨⟨?_, ?_, ?_, ?_, ?_, ?_, ?_, ?_, ?_, ?_, ?_, ?_, ?_, ?_, ?_, ?_, ?_, ?_, ?_, ?_, hu.below hb, hi.below hb, hy.below hb⟩, hb⟩
  all_goals simp [go_sem]

set_option maxRecDepth 20000 in
set_option maxHeartbeats 1000000 in
theorem cast_same (r : Rd) (u : Tr) (w : World) (hu : u.In w) (hi : r.i.In w) (hy : r.y.In w) (hh : r.i.hgt ≤ 1000) (hs : r.i.sm) (hr : relY escSame r.i.ty u.ty = true) :
    Calls Tryz.prog 106 #[.agg #[.int .i64 r.n, .int .i64 r.y.k, .int .i64 r.y.n, .int .i64 r.y.t.k, .slice r.y.t.a r.y.t.l.length r.y.t.c, .int .i64 r.y.f.k, .slice r.y.f.a r.y.f.l.length r.y.f.c, .slice r.y.a r.y.l.length r.y.c, .int .i64 r.i.k, .slice r.i.a r.i.l.length r.i.c], .agg #[.int .i64 u.k, .slice u.a u.l.length u.c]] w (CPost r u w) := by
  obtain ⟨hc, hb⟩ := cb_start r u w hu hi hy
  obtain ⟨W0, hW0⟩ : ∃ W0, W0 = ((w.alloc (Obj.cells #[.int .i64 r.n, .int .i64 r.y.k, .int .i64 r.y.n, .int .i64 r.y.t.k, .slice r.y.t.a r.y.t.l.length r.y.t.c, .int .i64 r.y.f.k, .slice r.y.f.a r.y.f.l.length r.y.f.c, .slice r.y.a r.y.l.length r.y.c, .int .i64 r.i.k, .slice r.i.a r.i.l.length r.i.c] 71)).alloc (Obj.cells #[.int .i64 u.k, .slice u.a u.l.length u.c] 24)).alloc (Obj.cells #[.int .i64 0, .int .i64 0, .int .i64 0, .slice none 0 0, .int .i64 0, .slice none 0 0, .slice none 0 0] 27) := ⟨_, rfl⟩
  rw [← hW0] at hc hb
  have HS : Hid (Calls Tryz.prog 48 #[.agg #[.int .i64 r.i.k, .slice r.i.a r.i.l.length r.i.c], .agg #[.int .i64 u.k, .slice u.a u.l.length u.c]] W0 fun e w' => e = .returned (.bool true) ∧ Below W0.heap.size W0 w') := by
    have := same_whole r.i u W0 hc.ii hc.iu hh hs
    rw [hr] at this
    exact this
  have HB : Hid (CB w.heap.size r u W0 ∧ Below w.heap.size w W0) := ⟨hc, hb⟩
  have HT : Hid (castY r.n r.y.tm r.i.ty u.ty = r.y.tm) := by simp [Hid, castY, hr]
  have HY : Hid (r.y.Bl (· < w.heap.size)) := hy.bl
  clear hc hb hu hi hy hh hs hr
  go_enter Tryz.func106, Tryz.ntmps106
  go_wp2_with fail
  rw [← hW0]
  clear hW0
  refine HS.out.mono ?_
  rintro e w1 ⟨rfl, h1⟩
  have hc1 := HB.out.1.below h1
  have lz : w.heap.size + 1 + 1 < w1.heap.size := World.block_lt_of_cell? _ _ hc1.z0
  have hbw : Below w.heap.size w w1 := HB.out.2.trans (h1.mono HB.out.2.size)
  have hbx : Box7 w1 (w.heap.size + 1 + 1) (tleaf 0 0) := ⟨⟨hc1.z0, hc1.z1, hc1.z2, hc1.z3, hc1.z4, hc1.z5, hc1.z6⟩, fun i _ => hc1.fz i⟩
  have h7 := (put7_box (x := r.y) hbx).at7
  obtain ⟨e0, e1, e2, e3, e4, e5, e6⟩ := h7
  have HE : Hid (r.y.In (put7 w1 (w.heap.size + 1 + 1) r.y) ∧ Below w.heap.size w (put7 w1 (w.heap.size + 1 + 1) r.y)) := by
    refine ⟨?_, hbw.trans ((put7_kept (x := r.y)).below (by simp) (by omega) |>.mono (by omega))⟩
    exact hc1.iy.keptR put7_kept (HY.out.mono fun b hb => by omega)
  simp only [Nat.zero_add] at e0 e1 e2 e3 e4 e5 e6
  obtain ⟨p0, p1, p2, p3, p4, p5, p6, p7, p8, p9, u0, u1, z0, z1, z2, z3, z4, z5, z6, fz, _, _, _⟩ := hc1
  have f0 := fz 0
  have f1 := fz 1
  have f2 := fz 2
  have f3 := fz 3
  have f4 := fz 4
  have f5 := fz 5
  have f6 := fz 6
  clear h1 HS HB hbx hbw fz
  go_wp2_with fail
  refine bodyPost_ret (v := .agg #[.int .i64 r.y.k, .int .i64 r.y.n, .int .i64 r.y.t.k, .slice r.y.t.a r.y.t.l.length r.y.t.c, .int .i64 r.y.f.k, .slice r.y.f.a r.y.f.l.length r.y.f.c, .slice r.y.a r.y.l.length r.y.c]) ?_ rfl ⟨r.y, rfl, HT.out.symm, HE.out.1, fun Q _ h => h, HE.out.2⟩
  unfold put7 at e0 e1 e2 e3 e4 e5 e6
  simp [results, Tryz.results106, go_sem, e0, e1, e2, e3, e4, e5, e6]

/-- The cast is written to its place. -/
theorem cast_end (r : Rd) (u : Tr) (w W : World) (G : Nat) (t f : Tr) (hb : Below w.heap.size w W) (hc : CB w.heap.size r u W) (hG : w.heap.size + 1 + 1 < G) (h7 : At7 W G 0 r.y) (ht : t.In W) (hf : f.In W) (bt : t.Bl (w.heap.size + 1 + 1 < ·)) (bf : f.Bl (w.heap.size + 1 + 1 < ·)) (hy : r.y.Bl (· < w.heap.size)) (et : t.ty = u.ty) (ef : f.ty = r.i.ty) (hr : relY escSame r.i.ty u.ty = false) :
    CPost r u w (.returned (.agg #[.int .i64 10, .int .i64 r.n, .int .i64 t.k, .slice t.a t.l.length t.c, .int .i64 f.k, .slice f.a f.l.length f.c, .slice (some ⟨G, 0, none⟩) 1 1])) (put7 W (w.heap.size + 1 + 1) ⟨10, r.n, t, f, some ⟨G, 0, none⟩, 1, [r.y]⟩) ∧
      At7 (put7 W (w.heap.size + 1 + 1) ⟨10, r.n, t, f, some ⟨G, 0, none⟩, 1, [r.y]⟩) (w.heap.size + 1 + 1) 0 ⟨10, r.n, t, f, some ⟨G, 0, none⟩, 1, [r.y]⟩ := by
  have hk := put7_kept (w := W) (J := w.heap.size + 1 + 1) (x := ⟨10, r.n, t, f, some ⟨G, 0, none⟩, 1, [r.y]⟩)
  have hbx : Box7 W (w.heap.size + 1 + 1) (tleaf 0 0) := ⟨⟨hc.z0, hc.z1, hc.z2, hc.z3, hc.z4, hc.z5, hc.z6⟩, fun i _ => hc.fz i⟩
  refine ⟨⟨⟨10, r.n, t, f, some ⟨G, 0, none⟩, 1, [r.y]⟩, rfl, ?_, ?_, fun Q hQ hyQ => ?_, ?_⟩, (put7_box hbx).at7⟩
  · rw [TT.tm_mk, et, ef]
    simp [castY, hr]
  · refine TT.In_mk.2 ⟨ht.keptR hk (bt.mono fun b hb => by omega), hf.keptR hk (bf.mono fun b hb => by omega), fun j hj => ?_, fun x hx => ?_⟩
    · have hj0 : j = 0 := by simpa using hj
      subst hj0
      exact ⟨G, 0, rfl, by simpa using h7.keptR hk (by omega)⟩
    · have : x = r.y := by simpa using hx
      subst this
      exact hc.iy.keptR hk (hy.mono fun b hb => by omega)
  · refine TT.Bl_mk.2 ⟨bt.mono fun b hb => hQ b (by omega), bf.mono fun b hb => hQ b (by omega), fun _ y hy => by cases hy; exact hQ G (by omega), fun x hx => ?_⟩
    have : x = r.y := by simpa using hx
    subst this
    exact hyQ
  · have lz : w.heap.size + 1 + 1 < W.heap.size := World.block_lt_of_cell? _ _ hc.z0
    exact hb.trans ((hk.below (by simp) (by omega)).mono (by omega))

theorem new_at7 (W : World) (r : Rd) : At7 (W.alloc (.cells #[.int .i64 r.y.k, .int .i64 r.y.n, .int .i64 r.y.t.k, .slice r.y.t.a r.y.t.l.length r.y.t.c, .int .i64 r.y.f.k, .slice r.y.f.a r.y.f.l.length r.y.f.c, .slice r.y.a r.y.l.length r.y.c] 27)) W.heap.size 0 r.y := by
  refine ⟨?_, ?_, ?_, ?_, ?_, ?_, ?_⟩
  all_goals simp [go_sem]

end Go.Proofs.YtnddkmccagiclaaGreatDoor
