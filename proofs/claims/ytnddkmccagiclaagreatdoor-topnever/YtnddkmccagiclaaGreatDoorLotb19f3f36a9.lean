/-
  What the call of check's ruleOf answers at the kinds that ask for no other function.
-/
import Derived.Test.YtnddkmccagiclaaGreatDoorLot1ed503618d
import Derived.Test.YtnddkmccagiclaaGreatDoorRows
import Derived.Test.YtnddkmccagiclaaGreatDoorLot5c98e2b2d2
import Derived.Test.YtnddkmccagiclaaGreatDoorLote5e6808ac6
import Derived.Test.YtnddkmccagiclaaGreatDoorLot0558bdb606
import Derived.BigQuiet
import Derived.Deep.QuietTactic
import Derived.WalkSmall
import Derived.Deep.RegionLaw
namespace Go.Proofs.YtnddkmccagiclaaGreatDoor
open Go.RowKit
set_option maxRecDepth 20000 in
set_option maxHeartbeats 1000000 in
theorem ruleOf_2 (x : TT) (pa ta : Option Addr) (pm pc tm tc : Nat) (w : World) :
    Calls Tryz.prog 65 #[.agg #[.int .i64 2, .int .i64 x.n, .int .i64 x.t.k, .slice x.t.a x.t.l.length x.t.c, .int .i64 x.f.k, .slice x.f.a x.f.l.length x.f.c, .slice x.a x.l.length x.c], .slice pa pm pc, .slice ta tm tc] w fun e w' => e = .returned (.tuple #[.agg #[.int .i64 1, .slice none 0 0, .slice none 0 0], .bool true]) ∧ Below w.heap.size w w' := by
  go_enter Tryz.func65, Tryz.ntmps65
  go_wp2_with fail
  refine bodyPost_ret (v := .tuple #[.agg #[.int .i64 1, .slice none 0 0, .slice none 0 0], .bool true]) (by simp [results, Tryz.results65, go_sem]) rfl ⟨rfl, ?_⟩
  repeat (first | exact Below.refl _ _ | refine Below.drew ?_ | refine Below.setCell ?_ (by first | (simp; done) | (simp; omega) | omega) _ | refine Below.alloc ?_ (by first | (simp; done) | (simp; omega) | omega) _)
set_option maxRecDepth 20000 in
set_option maxHeartbeats 1000000 in
theorem ruleOf_3 (x : TT) (pa ta : Option Addr) (pm pc tm tc : Nat) (w : World) :
    Calls Tryz.prog 65 #[.agg #[.int .i64 3, .int .i64 x.n, .int .i64 x.t.k, .slice x.t.a x.t.l.length x.t.c, .int .i64 x.f.k, .slice x.f.a x.f.l.length x.f.c, .slice x.a x.l.length x.c], .slice pa pm pc, .slice ta tm tc] w fun e w' => e = .returned (.tuple #[.agg #[.int .i64 2, .slice none 0 0, .slice none 0 0], .bool true]) ∧ Below w.heap.size w w' := by
  go_enter Tryz.func65, Tryz.ntmps65
  go_wp2_with fail
  refine bodyPost_ret (v := .tuple #[.agg #[.int .i64 2, .slice none 0 0, .slice none 0 0], .bool true]) (by simp [results, Tryz.results65, go_sem]) rfl ⟨rfl, ?_⟩
  repeat (first | exact Below.refl _ _ | refine Below.drew ?_ | refine Below.setCell ?_ (by first | (simp; done) | (simp; omega) | omega) _ | refine Below.alloc ?_ (by first | (simp; done) | (simp; omega) | omega) _)
set_option maxRecDepth 20000 in
set_option maxHeartbeats 1000000 in
theorem ruleOf_4 (x : TT) (pa ta : Option Addr) (pm pc tm tc : Nat) (w : World) :
    Calls Tryz.prog 65 #[.agg #[.int .i64 4, .int .i64 x.n, .int .i64 x.t.k, .slice x.t.a x.t.l.length x.t.c, .int .i64 x.f.k, .slice x.f.a x.f.l.length x.f.c, .slice x.a x.l.length x.c], .slice pa pm pc, .slice ta tm tc] w fun e w' => ∃ g, w.heap.size ≤ g ∧ e = .returned (.tuple #[.agg #[.int .i64 1, .slice none 0 0, .slice (some ⟨g, 0, none⟩) 2 2], .bool true]) ∧ w'.cell? ⟨g, 0, none⟩ = some (.int .i64 1) ∧ w'.cell? ⟨g, 1, none⟩ = some (.slice none 0 0) ∧ w'.cell? ⟨g, 2, none⟩ = some (.int .i64 1) ∧ w'.cell? ⟨g, 3, none⟩ = some (.slice none 0 0) ∧ Below w.heap.size w w' := by
  go_enter Tryz.func65, Tryz.ntmps65
  go_wp2_with fail
  refine bodyPost_ret (v := .tuple #[.agg #[.int .i64 1, .slice none 0 0, .slice (some ⟨w.heap.size + 1 + 1 + 1 + 1, 0, none⟩) 2 2], .bool true]) (by simp [results, Tryz.results65, go_sem]) rfl ⟨w.heap.size + 1 + 1 + 1 + 1, by omega, rfl, by simp [go_sem], by simp [go_sem], by simp [go_sem], by simp [go_sem], ?_⟩
  repeat (first | exact Below.refl _ _ | refine Below.drew ?_ | refine Below.setCell ?_ (by first | (simp; done) | (simp; omega) | omega) _ | refine Below.alloc ?_ (by first | (simp; done) | (simp; omega) | omega) _)
set_option maxRecDepth 20000 in
set_option maxHeartbeats 1000000 in
theorem ruleOf_5 (x : TT) (pa ta : Option Addr) (pm pc tm tc : Nat) (w : World) :
    Calls Tryz.prog 65 #[.agg #[.int .i64 5, .int .i64 x.n, .int .i64 x.t.k, .slice x.t.a x.t.l.length x.t.c, .int .i64 x.f.k, .slice x.f.a x.f.l.length x.f.c, .slice x.a x.l.length x.c], .slice pa pm pc, .slice ta tm tc] w fun e w' => ∃ g, w.heap.size ≤ g ∧ e = .returned (.tuple #[.agg #[.int .i64 2, .slice none 0 0, .slice (some ⟨g, 0, none⟩) 2 2], .bool true]) ∧ w'.cell? ⟨g, 0, none⟩ = some (.int .i64 1) ∧ w'.cell? ⟨g, 1, none⟩ = some (.slice none 0 0) ∧ w'.cell? ⟨g, 2, none⟩ = some (.int .i64 1) ∧ w'.cell? ⟨g, 3, none⟩ = some (.slice none 0 0) ∧ Below w.heap.size w w' := by
  go_enter Tryz.func65, Tryz.ntmps65
  go_wp2_with fail
  refine bodyPost_ret (v := .tuple #[.agg #[.int .i64 2, .slice none 0 0, .slice (some ⟨w.heap.size + 1 + 1 + 1 + 1, 0, none⟩) 2 2], .bool true]) (by simp [results, Tryz.results65, go_sem]) rfl ⟨w.heap.size + 1 + 1 + 1 + 1, by omega, rfl, by simp [go_sem], by simp [go_sem], by simp [go_sem], by simp [go_sem], ?_⟩
  repeat (first | exact Below.refl _ _ | refine Below.drew ?_ | refine Below.setCell ?_ (by first | (simp; done) | (simp; omega) | omega) _ | refine Below.alloc ?_ (by first | (simp; done) | (simp; omega) | omega) _)
set_option maxRecDepth 20000 in
set_option maxHeartbeats 1000000 in
theorem ruleOf_9 (x : TT) (pa ta : Option Addr) (pm pc tm tc : Nat) (w : World) :
    Calls Tryz.prog 65 #[.agg #[.int .i64 9, .int .i64 x.n, .int .i64 x.t.k, .slice x.t.a x.t.l.length x.t.c, .int .i64 x.f.k, .slice x.f.a x.f.l.length x.f.c, .slice x.a x.l.length x.c], .slice pa pm pc, .slice ta tm tc] w fun e w' => ∃ g, w.heap.size ≤ g ∧ e = .returned (.tuple #[.agg #[.int .i64 x.t.k, .slice x.t.a x.t.l.length x.t.c, .slice (some ⟨g, 0, none⟩) 1 1], .bool true]) ∧ w'.cell? ⟨g, 0, none⟩ = some (.int .i64 x.t.k) ∧ w'.cell? ⟨g, 1, none⟩ = some (.slice x.t.a x.t.l.length x.t.c) ∧ Below w.heap.size w w' := by
  go_enter Tryz.func65, Tryz.ntmps65
  go_wp2_with fail
  refine bodyPost_ret (v := .tuple #[.agg #[.int .i64 x.t.k, .slice x.t.a x.t.l.length x.t.c, .slice (some ⟨w.heap.size + 1 + 1 + 1 + 1, 0, none⟩) 1 1], .bool true]) (by simp [results, Tryz.results65, go_sem]) rfl ⟨w.heap.size + 1 + 1 + 1 + 1, by omega, rfl, by simp [go_sem], by simp [go_sem], ?_⟩
  repeat (first | exact Below.refl _ _ | refine Below.drew ?_ | refine Below.setCell ?_ (by first | (simp; done) | (simp; omega) | omega) _ | refine Below.alloc ?_ (by first | (simp; done) | (simp; omega) | omega) _)
/-- Behind the entry: the term, the rule, the two types. -/
def wRule (k : Int) (x : TT) (w : World) : World :=
  (((w.alloc (Obj.cells #[.int .i64 k, .int .i64 x.n, .int .i64 x.t.k, .slice x.t.a x.t.l.length x.t.c, .int .i64 x.f.k, .slice x.f.a x.f.l.length x.f.c, .slice x.a x.l.length x.c] 27)).alloc (Obj.cells #[.int .i64 0, .slice none 0 0, .slice none 0 0] 115)).alloc (Obj.cells #[.int .i64 1, .slice none 0 0] 24)).alloc (Obj.cells #[.int .i64 2, .slice none 0 0] 24)
theorem wRule_below (k : Int) (x : TT) (w : World) : Below w.heap.size w (wRule k x w) := ((((Below.refl _ _).alloc (Nat.le_refl _) _).alloc (by simp) _).alloc (by simp; omega) _).alloc (by simp; omega) _
structure WR (k : Int) (x : TT) (H : Nat) (W : World) : Prop where
  t : At7 W H 0 { x with k := k }
  r0 : W.cell? ⟨H + 1, 0, none⟩ = some (.int .i64 0)
  r1 : W.cell? ⟨H + 1, 1, none⟩ = some (.slice none 0 0)
  r2 : W.cell? ⟨H + 1, 2, none⟩ = some (.slice none 0 0)
  rf : ∀ i, W.frozen? ⟨H + 1, i, none⟩ = false
  n0 : W.cell? ⟨H + 1 + 1, 0, none⟩ = some (.int .i64 1)
  n1 : W.cell? ⟨H + 1 + 1, 1, none⟩ = some (.slice none 0 0)
  b0 : W.cell? ⟨H + 1 + 1 + 1, 0, none⟩ = some (.int .i64 2)
  b1 : W.cell? ⟨H + 1 + 1 + 1, 1, none⟩ = some (.slice none 0 0)
theorem WR.below {k : Int} {x : TT} {H : Nat} {W W' : World} (h : WR k x H W) (hb : Below W.heap.size W W') : WR k x H W' :=
  ⟨h.t.below hb, cell_later hb h.r0, cell_later hb h.r1, cell_later hb h.r2, fun i => (hb.frozen (p := ⟨H + 1, i, none⟩) (show (⟨H + 1, 0, none⟩ : Addr).block < W.heap.size from World.block_lt_of_cell? _ _ h.r0)).trans (h.rf i), cell_later hb h.n0, cell_later hb h.n1, cell_later hb h.b0, cell_later hb h.b1⟩
theorem wRule_ok (k : Int) (x : TT) (w : World) : WR k x w.heap.size (wRule k x w) := by
  refine ⟨⟨?_, ?_, ?_, ?_, ?_, ?_, ?_⟩, ?_, ?_, ?_, ?_, ?_, ?_, ?_, ?_⟩
  all_goals simp [wRule, go_sem]
theorem wRule_size (k : Int) (x : TT) (w : World) : (wRule k x w).heap.size = w.heap.size + 1 + 1 + 1 + 1 := by simp [wRule]
set_option maxRecDepth 20000 in
set_option maxHeartbeats 1000000 in
theorem ruleOf_1 (x : TT) (n : Nat) (hx : x.n = (n : Int)) (pa : Option Addr) (pm pc tb tz tm tc : Nat) (h : n < tm) (t : Tr) (w : World) (c0 : w.cell? ⟨tb, tz + n * 2, none⟩ = some (.int .i64 t.k)) (c1 : w.cell? ⟨tb, tz + n * 2 + 1, none⟩ = some (.slice t.a t.l.length t.c)) :
    Calls Tryz.prog 65 #[.agg #[.int .i64 1, .int .i64 (n : Int), .int .i64 x.t.k, .slice x.t.a x.t.l.length x.t.c, .int .i64 x.f.k, .slice x.f.a x.f.l.length x.f.c, .slice x.a x.l.length x.c], .slice pa pm pc, .slice (some ⟨tb, tz, none⟩) tm tc] w fun e w' => e = .returned (.tuple #[.agg #[.int .i64 t.k, .slice t.a t.l.length t.c, .slice none 0 0], .bool true]) ∧ Below w.heap.size w w' := by
  have lt : tb < w.heap.size := World.block_lt_of_cell? _ _ c0
  have i1 : (n : Int) < (tm : Int) := by omega
  have d0 := cell_later (wRule_below 1 x w) c0
  have d1 := cell_later (wRule_below 1 x w) c1
  unfold wRule at d0 d1
  rw [hx] at d0 d1
  go_enter Tryz.func65, Tryz.ntmps65
  go_wp2_with fail
  refine bodyPost_ret (v := .tuple #[.agg #[.int .i64 t.k, .slice t.a t.l.length t.c, .slice none 0 0], .bool true]) (by simp [results, Tryz.results65, go_sem]) rfl ⟨rfl, ?_⟩
  repeat (first | exact Below.refl _ _ | refine Below.drew ?_ | refine Below.setCell ?_ (by first | (simp; done) | (simp; omega) | omega) _ | refine Below.alloc ?_ (by first | (simp; done) | (simp; omega) | omega) _)
end Go.Proofs.YtnddkmccagiclaaGreatDoor

/-
  What the call of check's ruleOf answers at If, Fn and Call.
-/
namespace Go.Proofs.YtnddkmccagiclaaGreatDoor
open Go.RowKit
/-- The rule is written to its place: what it is still lies there. -/
theorem RuOut.store {Q : Nat → Prop} {k : Int} {x : TT} {w w1 : World} {I U : Tr} (hb : Below w.heap.size w w1) (hw : WR k x w.heap.size w1) (hI : I.In w1) (hU : U.In w1) (bI : I.Bl fun b => Q b ∧ b ≠ w.heap.size + 1) (bU : U.Bl fun b => Q b ∧ b ≠ w.heap.size + 1) :
    ∃ W, W = (((w1.setCell ⟨w.heap.size + 1, 0, none⟩ (.int .i64 I.k)).setCell ⟨w.heap.size + 1, 1, none⟩ (.slice I.a I.l.length I.c)).setCell ⟨w.heap.size + 1, 2, none⟩ (.slice U.a U.l.length U.c)) ∧ Below w.heap.size w W ∧ I.In W ∧ U.In W ∧ I.Bl Q ∧ U.Bl Q ∧
      W.cell? ⟨w.heap.size + 1, 0, none⟩ = some (.int .i64 I.k) ∧ W.cell? ⟨w.heap.size + 1, 1, none⟩ = some (.slice I.a I.l.length I.c) ∧ W.cell? ⟨w.heap.size + 1, 2, none⟩ = some (.slice U.a U.l.length U.c) := by
  have hc : ∀ b, (Q b ∧ b ≠ w.heap.size + 1) → ∀ o, (((w1.setCell ⟨w.heap.size + 1, 0, none⟩ (.int .i64 I.k)).setCell ⟨w.heap.size + 1, 1, none⟩ (.slice I.a I.l.length I.c)).setCell ⟨w.heap.size + 1, 2, none⟩ (.slice U.a U.l.length U.c)).cell? ⟨b, o, none⟩ = w1.cell? ⟨b, o, none⟩ := by
    intro b hb o
    have nb := hb.2
    rw [World.cell?_setCell_other _ _ _ _ (by simp), World.cell?_setCell_other _ _ _ _ (by simp), World.cell?_setCell_other _ _ _ _ (by simp)]
  refine ⟨_, rfl, ((hb.setCell (by simp) _).setCell (by simp) _).setCell (by simp) _, hI.congr hc bI, hU.congr hc bU, bI.mono fun b h => h.1, bU.mono fun b h => h.1, ?_, ?_, ?_⟩
  · simpa using set_get (j := 2) (v := .slice U.a U.l.length U.c) (set_get (j := 1) (v := .slice I.a I.l.length I.c) (set_get (j := 0) (v := .int .i64 I.k) hw.r0))
  · simpa using set_get (j := 2) (v := .slice U.a U.l.length U.c) (set_get (j := 1) (v := .slice I.a I.l.length I.c) (set_get (j := 0) (v := .int .i64 I.k) hw.r1))
  · simpa using set_get (j := 2) (v := .slice U.a U.l.length U.c) (set_get (j := 1) (v := .slice I.a I.l.length I.c) (set_get (j := 0) (v := .int .i64 I.k) hw.r2))
set_option maxRecDepth 20000 in
set_option maxHeartbeats 1000000 in
theorem ruleOf_8 (Q : Nat → Prop) (x : TT) (p : Tr) (pb po pm pc : Nat) (ta : Option Addr) (tm tc : Nat) (w : World) (hm : 0 < pm) (c0 : w.cell? ⟨pb, po, none⟩ = some (.int .i64 p.k)) (c1 : w.cell? ⟨pb, po + 1, none⟩ = some (.slice p.a p.l.length p.c)) (hp : p.In w) (rp : p.right) (hQ : ∀ b, w.heap.size ≤ b → Q b) (bp : p.Bl Q) :
    Calls Tryz.prog 65 #[.agg #[.int .i64 8, .int .i64 x.n, .int .i64 x.t.k, .slice x.t.a x.t.l.length x.t.c, .int .i64 x.f.k, .slice x.f.a x.f.l.length x.f.c, .slice x.a x.l.length x.c], .slice (some ⟨pb, po, none⟩) pm pc, .slice ta tm tc] w (RuOut Q w (callY p.ty)) := by
  have hb0 := wRule_below 8 x w
  have hw0 := wRule_ok 8 x w
  have hz := wRule_size 8 x w
  have HC : Hid (Calls Tryz.prog 104 #[.agg #[.int .i64 p.k, .slice p.a p.l.length p.c]] (wRule 8 x w) (RuOut (fun b => Q b ∧ b ≠ w.heap.size + 1) (wRule 8 x w) (callY p.ty))) :=
    ruleOfCall_any _ p (wRule 8 x w) (hp.below hb0) rp (fun b hb => ⟨hQ b (by omega), by omega⟩) (bp.and (hp.bl.mono fun b hb => by omega))
  have d0 := cell_later hb0 c0
  have d1 := cell_later hb0 c1
  have i1 : (0 : Int) < (pm : Int) := by omega
  obtain ⟨W0, hW0⟩ : ∃ W0, W0 = wRule 8 x w := ⟨_, rfl⟩
  rw [← hW0] at hb0 hw0 hz HC
  unfold wRule at d0 d1 hW0
  clear c0 c1 hp rp bp
  go_enter Tryz.func65, Tryz.ntmps65
  go_wp2_with fail
  rw [← hW0]
  clear hW0 d0 d1
  refine HC.out.mono ?_
  rintro e w1 ⟨h1, ⟨hr, rfl⟩ | ⟨I, U, hr, rfl, iI, iU, bI, bU⟩⟩
  · have hw1 := hw0.below h1
    obtain ⟨_, r0, r1, r2, rf, _, _, _, _⟩ := hw1
    have f0 := rf 0
    have f1 := rf 1
    have f2 := rf 2
    have HE : Hid (RuOut Q w (callY p.ty) (.returned (.tuple #[.agg #[.int .i64 0, .slice none 0 0, .slice none 0 0], .bool false])) (((w1.setCell ⟨w.heap.size + 1, 0, none⟩ (.int .i64 0)).setCell ⟨w.heap.size + 1, 1, none⟩ (.slice none 0 0)).setCell ⟨w.heap.size + 1, 2, none⟩ (.slice none 0 0))) :=
      ⟨(((hb0.trans (h1.mono (by omega))).setCell (by simp) _).setCell (by simp) _).setCell (by simp) _, .inl ⟨hr, rfl⟩⟩
    clear hb0 h1 hz hr HC hw0
    go_wp2_with fail
    refine bodyPost_ret (v := .tuple #[.agg #[.int .i64 0, .slice none 0 0, .slice none 0 0], .bool false]) ?_ rfl HE.out
    simp [results, Tryz.results65, go_sem, r0, r1, r2]
  · have hw1 := hw0.below h1
    have HS : Hid _ := RuOut.store (Q := Q) (hb0.trans (h1.mono (by omega))) hw1 iI iU bI bU
    obtain ⟨_, r0, r1, r2, rf, _, _, _, _⟩ := hw1
    have f0 := rf 0
    have f1 := rf 1
    have f2 := rf 2
    have HR : Hid (callY p.ty = some (I.ty, U.l.map Tr.ty)) := hr
    clear hb0 h1 hz hr HC hw0 iI iU bI bU
    go_wp2_with fail
    obtain ⟨W, hW, e1, e2, e3, e4, e5, e6, e7, e8⟩ := HS.out
    rw [← hW]
    clear hW
    refine bodyPost_ret (v := .tuple #[.agg #[.int .i64 I.k, .slice I.a I.l.length I.c, .slice U.a U.l.length U.c], .bool true]) ?_ rfl ⟨e1, .inr ⟨I, U, HR.out, rfl, e2, e3, e4, e5⟩⟩
    simp [results, Tryz.results65, go_sem, e6, e7, e8]
end Go.Proofs.YtnddkmccagiclaaGreatDoor

/-
  What the calls of kind.goodWithin and kind.Good answer, at whatever tree lies in memory.
-/
namespace Go.Proofs.YtnddkmccagiclaaGreatDoor
open Go.RowKit
set_option maxHeartbeats 400000 in
theorem within_zero (k : Int) (a : Option Addr) (c : Nat) (l : List Tr) (w : World) :
    Calls Tryz.prog 115 #[.agg #[.int .i64 k, .slice a l.length c], .int .i64 0] w fun e w' => e = .returned (.bool false) ∧ Below w.heap.size w w' := by
  go_enter Tryz.func115, Tryz.ntmps115
  go_wp2_with fail
  go_ret
  exact ⟨rfl, (Below.refl _ _).alloc (Nat.le_refl _) _⟩
set_option maxHeartbeats 400000 in
theorem within_leaf (n : Nat) (hn : n ≤ 1000) (k : Int) (hk : k = 0 ∨ k = 1 ∨ k = 2) (a : Option Addr) (c : Nat) (m : Nat) (w : World) :
    Calls Tryz.prog 115 #[.agg #[.int .i64 k, .slice a m c], .int .i64 ((n : Int) + 1)] w fun e w' => e = .returned (.bool ((m : Int) == 0)) ∧ Below w.heap.size w w' := by
  have h1 : (((n : Int) + 1) == 0) = false := by simp; omega
  rcases hk with rfl | rfl | rfl <;>
  · go_enter Tryz.func115, Tryz.ntmps115
    go_wp2_with fail
    go_ret
    exact ⟨rfl, (Below.refl _ _).alloc (Nat.le_refl _) _⟩
set_option maxHeartbeats 400000 in
theorem within_other (n : Nat) (hn : n ≤ 1000) (k : Int) (h0 : (k == 0) = false) (h1 : (k == 1) = false) (h2 : (k == 2) = false) (h3 : (k == 3) = false) (a : Option Addr) (c : Nat) (m : Nat) (w : World) :
    Calls Tryz.prog 115 #[.agg #[.int .i64 k, .slice a m c], .int .i64 ((n : Int) + 1)] w fun e w' => e = .returned (.bool false) ∧ Below w.heap.size w w' := by
  have hz : (((n : Int) + 1) == 0) = false := by simp; omega
  go_enter Tryz.func115, Tryz.ntmps115
  go_wp2_with fail
  go_ret
  exact ⟨rfl, (Below.refl _ _).alloc (Nat.le_refl _) _⟩
set_option maxHeartbeats 400000 in
theorem within_fun_no (n : Nat) (hn : n ≤ 1000) (a : Option Addr) (c : Nat) (m : Nat) (hm : ((m : Int) == 2) = false) (w : World) :
    Calls Tryz.prog 115 #[.agg #[.int .i64 3, .slice a m c], .int .i64 ((n : Int) + 1)] w fun e w' => e = .returned (.bool false) ∧ Below w.heap.size w w' := by
  have hz : (((n : Int) + 1) == 0) = false := by simp; omega
  go_enter Tryz.func115, Tryz.ntmps115
  go_wp2_with fail
  go_ret
  exact ⟨rfl, (Below.refl _ _).alloc (Nat.le_refl _) _⟩
set_option maxHeartbeats 400000 in
theorem within_fun (n : Nat) (hn : n ≤ 1000) (b o c : Nat) (kx ky : Int) (ax ay : Option Addr) (mx my cx cy : Nat) (gx gy : Bool) (w : World)
    (x0 : w.cell? ⟨b, o, none⟩ = some (.int .i64 kx)) (x1 : w.cell? ⟨b, o + 1, none⟩ = some (.slice ax mx cx))
    (y0 : w.cell? ⟨b, o + 2, none⟩ = some (.int .i64 ky)) (y1 : w.cell? ⟨b, o + 3, none⟩ = some (.slice ay my cy))
    (hx : Hid (∀ w', Below w.heap.size w w' → Calls Tryz.prog 115 #[.agg #[.int .i64 kx, .slice ax mx cx], .int .i64 (n : Int)] w' fun e w'' => e = .returned (.bool gx) ∧ Below w'.heap.size w' w''))
    (hy : Hid (∀ w', Below w.heap.size w w' → Calls Tryz.prog 115 #[.agg #[.int .i64 ky, .slice ay my cy], .int .i64 (n : Int)] w' fun e w'' => e = .returned (.bool gy) ∧ Below w'.heap.size w' w'')) :
    Calls Tryz.prog 115 #[.agg #[.int .i64 3, .slice (some ⟨b, o, none⟩) 2 c], .int .i64 ((n : Int) + 1)] w fun e w' => e = .returned (.bool (gx && gy)) ∧ Below w.heap.size w w' := by
  have hz : (((n : Int) + 1) == 0) = false := by simp; omega
  have lb : b < w.heap.size := World.block_lt_of_cell? _ _ x0
  cases gx
  · go_enter Tryz.func115, Tryz.ntmps115
    go_wp2_with fail
    refine (hx.out _ ((Below.refl _ _).alloc (Nat.le_refl _) _)).mono ?_
    rintro e w1 ⟨rfl, hb1⟩
    go_wp2_with fail
    go_ret
    exact ⟨rfl, ((Below.refl _ _).alloc (Nat.le_refl _) _).trans (hb1.mono (by simp))⟩
  · go_enter Tryz.func115, Tryz.ntmps115
    go_wp2_with fail
    refine (hx.out _ ((Below.refl _ _).alloc (Nat.le_refl _) _)).mono ?_
    rintro e w1 ⟨rfl, hb1⟩
    have hbw : Below w.heap.size w w1 := ((Below.refl _ _).alloc (Nat.le_refl _) _).trans (hb1.mono (by simp))
    have b1 : w1.cell? ⟨w.heap.size, 1, none⟩ = some (.slice (some ⟨b, o, none⟩) 2 c) := cell_later hb1 (by simp [go_sem])
    have y0' := cell_later hbw y0
    have y1' := cell_later hbw y1
    go_wp2_with fail
    refine (hy.out _ hbw).mono ?_
    rintro e w2 ⟨rfl, hb2⟩
    go_wp2_with fail
    go_ret
    exact ⟨by simp, hbw.trans (hb2.mono hbw.size)⟩
theorem within_zero' (t : Tr) (w : World) : Calls Tryz.prog 115 #[.agg #[.int .i64 t.k, .slice t.a t.l.length t.c], .int .i64 0] w fun e w' => e = .returned (.bool (goodT 0 t)) ∧ Below w.heap.size w w' := by
  refine (within_zero t.k t.a t.c t.l w).mono ?_
  rintro e w' ⟨rfl, hb⟩
  exact ⟨by simp [goodT], hb⟩
theorem within_any (n : Nat) : n ≤ 1000 → ∀ (t : Tr) (w : World), t.In w →
    Calls Tryz.prog 115 #[.agg #[.int .i64 t.k, .slice t.a t.l.length t.c], .int .i64 (n : Int)] w fun e w' => e = .returned (.bool (goodT n t)) ∧ Below w.heap.size w w' := by
  induction n with
  | zero =>
    intro _ t w _
    have e : ((0 : Nat) : Int) = 0 := rfl
    rw [e]
    exact within_zero' t w
  | succ n ih =>
    intro hn ⟨k, a, c, l⟩ w hin
    have e : ((n + 1 : Nat) : Int) = (n : Int) + 1 := by omega
    rw [e]
    dsimp only
    by_cases hk : k = 0 ∨ k = 1 ∨ k = 2
    · refine (within_leaf n (by omega) k hk a c l.length w).mono ?_
      rintro e w' ⟨rfl, hb⟩
      refine ⟨?_, hb⟩
      have e3 : (k == 3) = false := by simp; omega
      have eo : (k == 0 || k == 1 || k == 2) = true := by simpa [or_assoc] using hk
      match l with
      | [] => simp [goodT, eo]
      | [x] => simp [goodT]
      | [x, y] => simp [goodT, e3]
      | x :: y :: z :: r => simp [goodT]; omega
    · have h0 : (k == 0) = false := by simp; omega
      have h1 : (k == 1) = false := by simp; omega
      have h2 : (k == 2) = false := by simp; omega
      by_cases h3 : k = 3
      · subst h3
        match l, hin with
        | [], hin => exact within_fun_no n (by omega) a c 0 (by decide) w
        | [x], hin => exact within_fun_no n (by omega) a c 1 (by decide) w
        | x :: y :: z :: r, hin =>
          refine (within_fun_no n (by omega) a c (x :: y :: z :: r).length (by simp; omega) w).mono ?_
          rintro e w' ⟨rfl, hb⟩
          exact ⟨by simp [goodT], hb⟩
        | [x, y], hin =>
          obtain ⟨b, o, e0, x0, x1, hx⟩ := hin.at 0 (by simp)
          obtain ⟨b', o', e1, y0, y1, hy⟩ := hin.at 1 (by simp)
          rw [e0] at e1
          obtain ⟨rfl, rfl⟩ : b = b' ∧ o = o' := by simpa using e1
          subst e0
          refine (within_fun n (by omega) b o c x.k y.k x.a y.a x.l.length y.l.length x.c y.c (goodT n x) (goodT n y) w (by simpa using x0) (by simpa using x1) (by simpa using y0) (by simpa using y1)
            (fun w' hb => ih (by omega) x w' (hx.below hb)) (fun w' hb => ih (by omega) y w' (hy.below hb))).mono ?_
          rintro e w' ⟨rfl, hb⟩
          exact ⟨by simp [goodT], hb⟩
      · refine (within_other n (by omega) k h0 h1 h2 (by simpa using h3) a c l.length w).mono ?_
        rintro e w' ⟨rfl, hb⟩
        refine ⟨?_, hb⟩
        have e3 : (k == 3) = false := by simpa using h3
        match l with
        | [] => simp [goodT, h0, h1, h2]
        | [x] => simp [goodT]
        | [x, y] => simp [goodT, e3]
        | x :: y :: z :: r => simp [goodT]
set_option maxHeartbeats 400000 in
/-- kind.Good. -/
theorem good_any (t : Tr) (w : World) (hin : t.In w) :
    Calls Tryz.prog 76 #[.agg #[.int .i64 t.k, .slice t.a t.l.length t.c]] w fun e w' => e = .returned (.bool (goodT 4 t)) ∧ Below w.heap.size w w' := by
  have hw := within_any 4 (by omega) t
  have HW : Hid (∀ (w : World), t.In w → Calls Tryz.prog 115 #[.agg #[.int .i64 t.k, .slice t.a t.l.length t.c], .int .i64 4] w fun e w' => e = .returned (.bool (goodT 4 t)) ∧ Below w.heap.size w w') := hw
  clear hw
  go_enter Tryz.func76, Tryz.ntmps76
  go_wp2_with fail
  refine (HW.out _ (hin.below ((Below.refl _ _).alloc (Nat.le_refl _) _))).mono ?_
  rintro e w1 ⟨rfl, hb1⟩
  go_wp2_with fail
  go_ret
  exact ⟨rfl, ((Below.refl _ _).alloc (Nat.le_refl _) _).trans (hb1.mono (by simp))⟩
end Go.Proofs.YtnddkmccagiclaaGreatDoor

/-
  What the calls of truthOf, typeKindOf, tellsType and isSpace answer.
-/
namespace Go.Proofs.YtnddkmccagiclaaGreatDoor
open Go.RowKit
set_option maxHeartbeats 400000 in
theorem tells_any (k : Int) (w : World) : Calls Tryz.prog 37 #[.int .i64 k] w fun e w' => e = .returned (.bool (tells k)) ∧ w' = w := by
  cases h7 : (k == 7) with
  | true =>
    go_enter Tryz.func37, Tryz.ntmps37
    go_wp2_with fail
    go_ret
    exact ⟨by simp [tells, h7], rfl⟩
  | false =>
    go_enter Tryz.func37, Tryz.ntmps37
    go_wp2_with fail
    go_ret
    exact ⟨by simp [tells, h7], rfl⟩
/-- What such a call answers: the number and whether it was found. -/
def foundV (o : Option Nat) : Value := .tuple #[.int .i64 ((o.getD 0 : Nat) : Int), .bool o.isSome]
theorem ne_of_beq {x y : ByteArray} (h : (x.toList == y.toList) = false) : x ≠ y := (Lib.bytes_beq_false_iff _ _).1 h
theorem idx78_0 (u v : Value) (w : World) : (Instr.index 78 (.agg #[u, v]) (.int .i64 0)).run Tryz.prog w = .ok u w := by
  simp [Instr.index, run_underlying Tryz.underlying78, go_sem]
theorem idx78_1 (u v : Value) (w : World) : (Instr.index 78 (.agg #[u, v]) (.int .i64 1)).run Tryz.prog w = .ok v w := by
  simp [Instr.index, run_underlying Tryz.underlying78, go_sem]
set_option maxRecDepth 20000 in
set_option maxHeartbeats 1000000 in
theorem truthOf_any (x : ByteArray) (w : World) (hg : Gl w) : Calls Tryz.prog 54 #[.string x] w fun e w' => e = .returned (foundV (atWord x truthWs 0)) ∧ w' = w := by
  have c0 := hg.tw.cell 0
  have c1 := hg.tw.cell 1
  simp only [List.getElem?_toArray, List.getElem?_cons_zero, List.getElem?_cons_succ] at c0 c1
  clear hg
  obtain ⟨b0, h0⟩ : ∃ b, ((⟨#[110, 111]⟩ : ByteArray).toList == x.toList) = b := ⟨_, rfl⟩
  obtain ⟨b1, h1⟩ : ∃ b, ((⟨#[121, 101, 115]⟩ : ByteArray).toList == x.toList) = b := ⟨_, rfl⟩
  have H0 : Hid (((⟨#[110, 111]⟩ : ByteArray).toList == x.toList) = b0) := h0
  have H1 : Hid (((⟨#[121, 101, 115]⟩ : ByteArray).toList == x.toList) = b1) := h1
  have k0 : ([110, 111] == x.toList) = b0 := by rw [← h0, Lib.toList_data ⟨#[110, 111]⟩]
  have k1 : ([121, 101, 115] == x.toList) = b1 := by rw [← h1, Lib.toList_data ⟨#[121, 101, 115]⟩]
  clear h0 h1
  have x0 := idx78_0 (.string ⟨#[110, 111]⟩) (.string ⟨#[121, 101, 115]⟩)
  have x1 := idx78_1 (.string ⟨#[110, 111]⟩) (.string ⟨#[121, 101, 115]⟩)
  go_enter Tryz.func54, Tryz.ntmps54
  go_wp2_with fail
  go_loopg [7] 2 (fun k i wr => ∃ j : Nat, k + j = 2 ∧ i = .int .i64 (j : Int) ∧ wr = w ∧ Hid ((1 ≤ j → b0 = false) ∧ (2 ≤ j → b1 = false)))
  case atStart => exact ⟨0, rfl, rfl, rfl, fun h => absurd h (by omega), fun h => absurd h (by omega)⟩
  case round =>
    obtain ⟨j, hj, rfl, rfl, HJ⟩ := hrel
    obtain rfl | rfl | rfl : j = 0 ∨ j = 1 ∨ j = 2 := by omega
    · cases b0
      · go_wp2_with fail
        go_roundg 1
        case measure => omega
        case rel => exact ⟨1, rfl, rfl, rfl, fun _ => trivial, fun h => absurd h (by omega)⟩
      · go_wp2_with fail
        refine bodyPost_ret (v := .tuple #[.int .i64 0, .bool true]) (by simp [results, Tryz.results54, go_sem]) rfl ⟨?_, rfl⟩
        rw [← (Lib.bytes_beq_iff _ _).1 H0.out]
        rfl
    · obtain rfl := HJ.out.1 (by omega)
      cases b1
      · go_wp2_with fail
        go_roundg 0
        case measure => omega
        case rel => exact ⟨2, rfl, rfl, rfl, fun _ => trivial, fun _ => trivial⟩
      · go_wp2_with fail
        refine bodyPost_ret (v := .tuple #[.int .i64 1, .bool true]) (by simp [results, Tryz.results54, go_sem]) rfl ⟨?_, rfl⟩
        rw [← (Lib.bytes_beq_iff _ _).1 H1.out]
        rfl
    · obtain rfl := HJ.out.1 (by omega)
      obtain rfl := HJ.out.2 (by omega)
      go_wp2_with fail
      refine bodyPost_ret (v := .tuple #[.int .i64 0, .bool false]) (by simp [results, Tryz.results54, go_sem]) rfl ⟨?_, rfl⟩
      simp [foundV, atWord, truthWs, ne_of_beq H0.out, ne_of_beq H1.out]
theorem idx122_0 (u v t : Value) (w : World) : (Instr.index 122 (.agg #[u, v, t]) (.int .i64 0)).run Tryz.prog w = .ok u w := by
  simp [Instr.index, run_underlying Tryz.underlying122, go_sem]
theorem idx122_1 (u v t : Value) (w : World) : (Instr.index 122 (.agg #[u, v, t]) (.int .i64 1)).run Tryz.prog w = .ok v w := by
  simp [Instr.index, run_underlying Tryz.underlying122, go_sem]
theorem idx122_2 (u v t : Value) (w : World) : (Instr.index 122 (.agg #[u, v, t]) (.int .i64 2)).run Tryz.prog w = .ok t w := by
  simp [Instr.index, run_underlying Tryz.underlying122, go_sem]
set_option maxRecDepth 20000 in
set_option maxHeartbeats 1000000 in
theorem typeKindOf_any (x : ByteArray) (w : World) (hg : Gl w) : Calls Tryz.prog 121 #[.string x] w fun e w' => e = .returned (foundV (atWord x typeWs 0)) ∧ w' = w := by
  have c0 := hg.ty.cell 0
  have c1 := hg.ty.cell 1
  have c2 := hg.ty.cell 2
  simp only [List.getElem?_toArray, List.getElem?_cons_zero, List.getElem?_cons_succ] at c0 c1 c2
  clear hg
  obtain ⟨b0, h0⟩ : ∃ b, ((⟨#[97, 110, 121]⟩ : ByteArray).toList == x.toList) = b := ⟨_, rfl⟩
  obtain ⟨b1, h1⟩ : ∃ b, ((⟨#[110, 117, 109]⟩ : ByteArray).toList == x.toList) = b := ⟨_, rfl⟩
  obtain ⟨b2, h2⟩ : ∃ b, ((⟨#[116, 114, 117, 116, 104]⟩ : ByteArray).toList == x.toList) = b := ⟨_, rfl⟩
  have H0 : Hid (((⟨#[97, 110, 121]⟩ : ByteArray).toList == x.toList) = b0) := h0
  have H1 : Hid (((⟨#[110, 117, 109]⟩ : ByteArray).toList == x.toList) = b1) := h1
  have H2 : Hid (((⟨#[116, 114, 117, 116, 104]⟩ : ByteArray).toList == x.toList) = b2) := h2
  have k0 : ([97, 110, 121] == x.toList) = b0 := by rw [← h0, Lib.toList_data ⟨#[97, 110, 121]⟩]
  have k1 : ([110, 117, 109] == x.toList) = b1 := by rw [← h1, Lib.toList_data ⟨#[110, 117, 109]⟩]
  have k2 : ([116, 114, 117, 116, 104] == x.toList) = b2 := by rw [← h2, Lib.toList_data ⟨#[116, 114, 117, 116, 104]⟩]
  clear h0 h1 h2
  have x0 := idx122_0 (.string ⟨#[97, 110, 121]⟩) (.string ⟨#[110, 117, 109]⟩) (.string ⟨#[116, 114, 117, 116, 104]⟩)
  have x1 := idx122_1 (.string ⟨#[97, 110, 121]⟩) (.string ⟨#[110, 117, 109]⟩) (.string ⟨#[116, 114, 117, 116, 104]⟩)
  have x2 := idx122_2 (.string ⟨#[97, 110, 121]⟩) (.string ⟨#[110, 117, 109]⟩) (.string ⟨#[116, 114, 117, 116, 104]⟩)
  go_enter Tryz.func121, Tryz.ntmps121
  go_wp2_with fail
  go_loopg [7] 3 (fun k i wr => ∃ j : Nat, k + j = 3 ∧ i = .int .i64 (j : Int) ∧ wr = w ∧ Hid ((1 ≤ j → b0 = false) ∧ (2 ≤ j → b1 = false) ∧ (3 ≤ j → b2 = false)))
  case atStart => exact ⟨0, rfl, rfl, rfl, fun h => absurd h (by omega), fun h => absurd h (by omega), fun h => absurd h (by omega)⟩
  case round =>
    obtain ⟨j, hj, rfl, rfl, HJ⟩ := hrel
    obtain rfl | rfl | rfl | rfl : j = 0 ∨ j = 1 ∨ j = 2 ∨ j = 3 := by omega
    · cases b0
      · go_wp2_with fail
        go_roundg 2
        case measure => omega
        case rel => exact ⟨1, rfl, rfl, rfl, fun _ => trivial, fun h => absurd h (by omega), fun h => absurd h (by omega)⟩
      · go_wp2_with fail
        refine bodyPost_ret (v := .tuple #[.int .i64 0, .bool true]) (by simp [results, Tryz.results121, go_sem]) rfl ⟨?_, rfl⟩
        rw [← (Lib.bytes_beq_iff _ _).1 H0.out]
        rfl
    · obtain rfl := HJ.out.1 (by omega)
      cases b1
      · go_wp2_with fail
        go_roundg 1
        case measure => omega
        case rel => exact ⟨2, rfl, rfl, rfl, fun _ => trivial, fun _ => trivial, fun h => absurd h (by omega)⟩
      · go_wp2_with fail
        refine bodyPost_ret (v := .tuple #[.int .i64 1, .bool true]) (by simp [results, Tryz.results121, go_sem]) rfl ⟨?_, rfl⟩
        rw [← (Lib.bytes_beq_iff _ _).1 H1.out]
        rfl
    · obtain rfl := HJ.out.1 (by omega)
      obtain rfl := HJ.out.2.1 (by omega)
      cases b2
      · go_wp2_with fail
        go_roundg 0
        case measure => omega
        case rel => exact ⟨3, rfl, rfl, rfl, fun _ => trivial, fun _ => trivial, fun _ => trivial⟩
      · go_wp2_with fail
        refine bodyPost_ret (v := .tuple #[.int .i64 2, .bool true]) (by simp [results, Tryz.results121, go_sem]) rfl ⟨?_, rfl⟩
        rw [← (Lib.bytes_beq_iff _ _).1 H2.out]
        rfl
    · obtain rfl := HJ.out.1 (by omega)
      obtain rfl := HJ.out.2.1 (by omega)
      obtain rfl := HJ.out.2.2 (by omega)
      go_wp2_with fail
      refine bodyPost_ret (v := .tuple #[.int .i64 0, .bool false]) (by simp [results, Tryz.results121, go_sem]) rfl ⟨?_, rfl⟩
      simp [foundV, atWord, typeWs, ne_of_beq H0.out, ne_of_beq H1.out, ne_of_beq H2.out]
end Go.Proofs.YtnddkmccagiclaaGreatDoor

/-
  What the calls of term.isAny, term.goodTypes and (*walk).goodNumber answer, at whatever term lies in memory.
-/
namespace Go.Proofs.YtnddkmccagiclaaGreatDoor
open Go.RowKit
theorem below_dN {B : Nat} {a w : World} (h : Below B a w) (n : Nat) : Below B a (w.drewN n) := ⟨h.os, h.tape, h.output, h.size, h.block⟩
set_option maxHeartbeats 400000 in
theorem same_top (x y : Tr) (rp : Option Addr) (w : World) (ht : Hid ((x.k == y.k && (x.l.length : Int) == (y.l.length : Int)) = false)) :
    Calls Tryz.prog 80 #[.agg #[.int .i64 x.k, .slice x.a x.l.length x.c], .agg #[.int .i64 y.k, .slice y.a y.l.length y.c], .int .i64 1000, .pointer rp] w fun e w' => e = .returned (.bool false) ∧ Below w.heap.size w w' := by
  go_enter Tryz.func80, Tryz.ntmps80
  go_wp2_with fail
  refine (alike_any _ _ _ _ _ _ _ _ false ht.out _).mono ?_
  rintro e w1 ⟨rfl, hb1⟩
  go_wp2_with fail
  go_ret
  exact ⟨rfl, (((Below.refl _ _).alloc (Nat.le_refl _) _).alloc (by simp) _).trans (hb1.mono (by simp; omega))⟩
set_option maxHeartbeats 400000 in
theorem same_by (x y : Tr) (r : Bool) (w : World) (hx : x.In w) (hy : y.In w)
    (HC : Hid (∀ (rp : Option Addr) (w : World), x.In w → y.In w → Calls Tryz.prog 80 #[.agg #[.int .i64 x.k, .slice x.a x.l.length x.c], .agg #[.int .i64 y.k, .slice y.a y.l.length y.c], .int .i64 1000, .pointer rp] w fun e w' => e = .returned (.bool r) ∧ Below w.heap.size w w')) :
    Calls Tryz.prog 48 #[.agg #[.int .i64 x.k, .slice x.a x.l.length x.c], .agg #[.int .i64 y.k, .slice y.a y.l.length y.c]] w fun e w' => e = .returned (.bool r) ∧ Below w.heap.size w w' := by
  have HH : Hid (∀ (w : World), x.In w → y.In w → Calls Tryz.prog 79 #[.func (.func 80) #[] #[], .agg #[.int .i64 x.k, .slice x.a x.l.length x.c], .agg #[.int .i64 y.k, .slice y.a y.l.length y.c]] w fun e w' => e = .returned (.bool r) ∧ Below w.heap.size w w') := fun w h1 h2 => holds_31 x y r w h1 h2 HC
  clear HC
  go_enter Tryz.func48, Tryz.ntmps48
  go_wp2_with fail
  have hb0 : Below w.heap.size w ((w.alloc (Obj.cells #[.int .i64 x.k, .slice x.a x.l.length x.c] 24)).alloc (Obj.cells #[.int .i64 y.k, .slice y.a y.l.length y.c] 24)) := ((Below.refl _ _).alloc (Nat.le_refl _) _).alloc (by simp) _
  refine (HH.out _ (hx.below hb0) (hy.below hb0)).mono ?_
  rintro e w1 ⟨rfl, hb1⟩
  have hb2 := hb0.trans (hb1.mono (by simp; omega))
  clear hb0 hb1
  go_wp2_with fail
  go_ret
  exact ⟨rfl, hb2⟩
theorem ret_bool {a b : Bool} (h : a = b) : Ending.returned (.bool a) = .returned (.bool b) := by rw [h]
theorem leaf_ty (k : Int) : (leaf k).ty = ⟨k, []⟩ := by simp [leaf, Tr.ty_mk]
/-- kind.Same of any type and Any. -/
theorem same_any0 (x : Tr) (w : World) (hx : x.In w) :
    Calls Tryz.prog 48 #[.agg #[.int .i64 x.k, .slice x.a x.l.length x.c], .agg #[.int .i64 0, .slice none 0 0]] w fun e w' => e = .returned (.bool (isAnyY x.ty)) ∧ Below w.heap.size w w' := by
  have e0 : isAnyY x.ty = relY escSame x.ty (leaf 0).ty := by rw [leaf_ty]; rfl
  rw [e0]
  by_cases ht : (x.k == (leaf 0).k && (x.l.length : Int) == ((leaf 0).l.length : Int)) = false
  · have hr : relY escSame x.ty (leaf 0).ty = false := relY_top escSame x (leaf 0) rfl ht
    rw [hr]
    exact same_by x (leaf 0) false w hx (leaf_in 0 w) (fun rp w h1 h2 => same_top x (leaf 0) rp w ht)
  · have hl : x.l = [] := by
      simp [leaf] at ht
      exact ht.2
    have hh : x.hgt ≤ 1000 := by
      obtain ⟨k, a, c, l⟩ := x
      dsimp only at hl
      subst hl
      rw [Tr.hgt_mk]
      simp
    have hs : x.sm := by
      obtain ⟨k, a, c, l⟩ := x
      dsimp only at hl
      subst hl
      exact Tr.sm_mk.2 ⟨by simp, fun t h => by cases h⟩
    exact same_whole x (leaf 0) w hx (leaf_in 0 w) hh hs
set_option maxHeartbeats 400000 in
/-- term.isAny. -/
theorem isAny_any (x : Tr) (w : World) (hx : x.In w) :
    Calls Tryz.prog 75 #[.agg #[.int .i64 x.k, .slice x.a x.l.length x.c]] w fun e w' => e = .returned (.bool (isAnyY x.ty)) ∧ Below w.heap.size w w' := by
  have HC : Hid (∀ w, x.In w → Calls Tryz.prog 48 #[.agg #[.int .i64 x.k, .slice x.a x.l.length x.c], .agg #[.int .i64 0, .slice none 0 0]] w fun e w' => e = .returned (.bool (isAnyY x.ty)) ∧ Below w.heap.size w w') := same_any0 x
  go_enter Tryz.func75, Tryz.ntmps75
  go_wp2_with fail
  have hb0 : Below w.heap.size w (w.alloc (Obj.cells #[.int .i64 x.k, .slice x.a x.l.length x.c] 24)) := (Below.refl _ _).alloc (Nat.le_refl _) _
  refine (HC.out _ (hx.below hb0)).mono ?_
  rintro e w1 ⟨rfl, hb1⟩
  have hb2 := hb0.trans (hb1.mono (by simp))
  clear hb0 hb1
  go_wp2_with fail
  go_ret
  exact ⟨rfl, hb2⟩
set_option maxHeartbeats 1000000 in
/-- term.goodTypes. -/
theorem goodTypes_any (x : TT) (w : World) (ht : x.t.In w) (hf : x.f.In w) :
    Calls Tryz.prog 43 #[.agg #[.int .i64 x.k, .int .i64 x.n, .int .i64 x.t.k, .slice x.t.a x.t.l.length x.t.c, .int .i64 x.f.k, .slice x.f.a x.f.l.length x.f.c, .slice x.a x.l.length x.c]] w fun e w' => e = .returned (.bool (okTypes x.k x.t.ty x.f.ty)) ∧ Below w.heap.size w w' := by
  have HF : Hid (∀ w, x.f.In w → Calls Tryz.prog 75 #[.agg #[.int .i64 x.f.k, .slice x.f.a x.f.l.length x.f.c]] w fun e w' => e = .returned (.bool (isAnyY x.f.ty)) ∧ Below w.heap.size w w') := isAny_any x.f
  have HT : Hid (∀ w, x.t.In w → Calls Tryz.prog 75 #[.agg #[.int .i64 x.t.k, .slice x.t.a x.t.l.length x.t.c]] w fun e w' => e = .returned (.bool (isAnyY x.t.ty)) ∧ Below w.heap.size w w') := isAny_any x.t
  have HG : Hid (∀ w, x.t.In w → Calls Tryz.prog 76 #[.agg #[.int .i64 x.t.k, .slice x.t.a x.t.l.length x.t.c]] w fun e w' => e = .returned (.bool (goodY 4 x.t.ty)) ∧ Below w.heap.size w w') := by
    intro w h
    have := good_any x.t w h
    rw [goodT_eq] at this
    exact this
  have HK : Hid (∀ w, Calls Tryz.prog 37 #[.int .i64 x.k] w fun e w' => e = .returned (.bool (tells x.k)) ∧ w' = w) := tells_any x.k
  obtain ⟨bf, hbf⟩ : ∃ b, isAnyY x.f.ty = b := ⟨_, rfl⟩
  obtain ⟨bt, hbt⟩ : ∃ b, tells x.k = b := ⟨_, rfl⟩
  have HO : Hid (okTypes x.k x.t.ty x.f.ty = (bf && (if bt = true then goodY 4 x.t.ty else isAnyY x.t.ty))) := by show _ = _; rw [okTypes, hbf, hbt]
  rw [hbf] at HF
  rw [hbt] at HK
  clear hbf hbt
  have hb0 : Below w.heap.size w (w.alloc (Obj.cells #[.int .i64 x.k, .int .i64 x.n, .int .i64 x.t.k, .slice x.t.a x.t.l.length x.t.c, .int .i64 x.f.k, .slice x.f.a x.f.l.length x.f.c, .slice x.a x.l.length x.c] 27)) := (Below.refl _ _).alloc (Nat.le_refl _) _
  cases bf
  · go_enter Tryz.func43, Tryz.ntmps43
    go_wp2_with fail
    refine (HF.out _ (hf.below hb0)).mono ?_
    rintro e w1 ⟨rfl, hb1⟩
    have hb2 := hb0.trans (hb1.mono (by simp))
    clear hb0 hb1
    go_wp2_with fail
    go_ret
    exact ⟨by rw [HO.out]; rfl, hb2⟩
  · go_enter Tryz.func43, Tryz.ntmps43
    go_wp2_with fail
    refine (HF.out _ (hf.below hb0)).mono ?_
    rintro e w1 ⟨rfl, hb1⟩
    have hb2 := hb0.trans (hb1.mono (by simp))
    have q0 : w1.cell? ⟨w.heap.size, 0, none⟩ = some (.int .i64 x.k) := cell_later hb1 (by simp [go_sem])
    have q2 : w1.cell? ⟨w.heap.size, 2, none⟩ = some (.int .i64 x.t.k) := cell_later hb1 (by simp [go_sem])
    have q3 : w1.cell? ⟨w.heap.size, 3, none⟩ = some (.slice x.t.a x.t.l.length x.t.c) := cell_later hb1 (by simp [go_sem])
    clear hb0 hb1
    go_wp2_with fail
    refine (HK.out _).mono ?_
    rintro e w' ⟨rfl, rfl⟩
    cases bt
    · go_wp2_with fail
      refine (HT.out _ (ht.below hb2)).mono ?_
      rintro e w2 ⟨rfl, hb3⟩
      have hb4 := hb2.trans (hb3.mono hb2.size)
      clear hb3 hb2
      go_wp2_with fail
      go_ret
      exact ⟨by rw [HO.out]; rfl, hb4⟩
    · go_wp2_with fail
      refine (HG.out _ (ht.below hb2)).mono ?_
      rintro e w2 ⟨rfl, hb3⟩
      have hb4 := hb2.trans (hb3.mono hb2.size)
      clear hb3 hb2
      go_wp2_with fail
      go_ret
      exact ⟨by rw [HO.out]; rfl, hb4⟩
set_option maxHeartbeats 1000000 in
/-- (*walk).goodNumber. -/
theorem goodNumber_any (R : Nat) (ar : Int) (ins : Nat) (hi : ins ≤ 1000) (x : TT) (hn : x.n ≤ 9223372036854775807) (w : World) (hr : w.cell? ⟨R, 0, none⟩ = some (.int .i64 ar)) :
    Calls Tryz.prog 44 #[.pointer (some ⟨R, 0, none⟩), .agg #[.int .i64 x.k, .int .i64 x.n, .int .i64 x.t.k, .slice x.t.a x.t.l.length x.t.c, .int .i64 x.f.k, .slice x.f.a x.f.l.length x.f.c, .slice x.a x.l.length x.c], .int .i64 (ins : Int)] w fun e w' => e = .returned (.bool (okNum ar (ins : Int) x.k x.n)) ∧ Below w.heap.size w w' := by
  have hRl : R < w.heap.size := World.block_lt_of_cell? _ _ hr
  by_cases h1 : x.k = 1
  · have hk : (x.k == 1) = true := by simp [h1]
    by_cases h0 : 0 ≤ x.n
    · have hd : decide (0 ≤ x.n) = true := by simp [h0]
      have HO : Hid (okNum ar (ins : Int) x.k x.n = decide (x.n - (ins : Int) < ar)) := by show _ = _; rw [okNum, if_pos h1, hd, Bool.true_and]
      clear h1
      go_enter Tryz.func44, Tryz.ntmps44
      go_wp2_with fail
      go_quiet (fail)
      go_wp2_with fail
      go_ret
      exact ⟨ret_bool HO.out.symm, below_dN ((Below.refl _ _).alloc (Nat.le_refl _) _) _⟩
    · have hd : decide (0 ≤ x.n) = false := by simpa using h0
      have HO : Hid (okNum ar (ins : Int) x.k x.n = false) := by show _ = _; rw [okNum, if_pos h1, hd, Bool.false_and]
      clear h1
      go_enter Tryz.func44, Tryz.ntmps44
      go_wp2_with fail
      go_quiet (fail)
      go_wp2_with fail
      go_ret
      exact ⟨ret_bool HO.out.symm, below_dN ((Below.refl _ _).alloc (Nat.le_refl _) _) _⟩
  · have hk1 : (x.k == 1) = false := by simpa using h1
    by_cases h2 : x.k = 2
    · have hk2 : (x.k == 2) = true := by simp [h2]
      by_cases h0 : -1000000 ≤ x.n
      · have hd : decide (-1000000 ≤ x.n) = true := by simp [h0]
        have HO : Hid (okNum ar (ins : Int) x.k x.n = decide (x.n ≤ 1000000)) := by show _ = _; rw [okNum, if_neg h1, if_pos h2, hd, Bool.true_and]
        clear h1 h2
        go_enter Tryz.func44, Tryz.ntmps44
        go_wp2_with fail
        go_ret
        exact ⟨ret_bool HO.out.symm, (Below.refl _ _).alloc (Nat.le_refl _) _⟩
      · have hd : decide (-1000000 ≤ x.n) = false := by simpa using h0
        have HO : Hid (okNum ar (ins : Int) x.k x.n = false) := by show _ = _; rw [okNum, if_neg h1, if_pos h2, hd, Bool.false_and]
        clear h1 h2
        go_enter Tryz.func44, Tryz.ntmps44
        go_wp2_with fail
        go_ret
        exact ⟨ret_bool HO.out.symm, (Below.refl _ _).alloc (Nat.le_refl _) _⟩
    · have hk2 : (x.k == 2) = false := by simpa using h2
      by_cases h3 : x.k = 3
      · have hk3 : (x.k == 3) = true := by simp [h3]
        cases h0 : (x.n == 0) with
        | true =>
          have HO : Hid (okNum ar (ins : Int) x.k x.n = true) := by show _ = _; rw [okNum, if_neg h1, if_neg h2, if_pos h3, h0, Bool.true_or]
          clear h1 h2 h3
          go_enter Tryz.func44, Tryz.ntmps44
          go_wp2_with fail
          go_ret
          exact ⟨ret_bool HO.out.symm, (Below.refl _ _).alloc (Nat.le_refl _) _⟩
        | false =>
          have HO : Hid (okNum ar (ins : Int) x.k x.n = (x.n == 1)) := by show _ = _; rw [okNum, if_neg h1, if_neg h2, if_pos h3, h0, Bool.false_or]
          clear h1 h2 h3
          go_enter Tryz.func44, Tryz.ntmps44
          go_wp2_with fail
          go_ret
          exact ⟨ret_bool HO.out.symm, (Below.refl _ _).alloc (Nat.le_refl _) _⟩
      · have hk3 : (x.k == 3) = false := by simpa using h3
        have HO : Hid (okNum ar (ins : Int) x.k x.n = (x.n == 0)) := by show _ = _; rw [okNum, if_neg h1, if_neg h2, if_neg h3]
        clear h1 h2 h3
        go_enter Tryz.func44, Tryz.ntmps44
        go_wp2_with fail
        go_ret
        exact ⟨ret_bool HO.out.symm, (Below.refl _ _).alloc (Nat.le_refl _) _⟩
end Go.Proofs.YtnddkmccagiclaaGreatDoor

/-
  What the call of check's ruleOf answers at If and Fn: drawn regions.
-/
namespace Go.Proofs.YtnddkmccagiclaaGreatDoor
open Go.RowKit
/-- A rule, or none, in letters. -/
theorem RuOut.letters {Q : Nat → Prop} {w w' : World} {r : Option (Ty × List Ty)} {e : Ending} (h : RuOut Q w r e w') :
    ∃ (I U : Tr) (b : Bool), e = .returned (.tuple #[.agg #[.int .i64 I.k, .slice I.a I.l.length I.c, .slice U.a U.l.length U.c], .bool b]) ∧ Below w.heap.size w w' ∧ I.In w' ∧ U.In w' ∧ I.Bl Q ∧ U.Bl Q ∧ ((b = false ∧ r = none ∧ I = leaf 0 ∧ U = leaf 0) ∨ (b = true ∧ r = some (I.ty, U.l.map Tr.ty))) := by
  obtain ⟨hb, ⟨hr, rfl⟩ | ⟨I, U, hr, rfl, iI, iU, bI, bU⟩⟩ := h
  · exact ⟨leaf 0, leaf 0, false, rfl, hb, leaf_in _ _, leaf_in _ _, leaf_bl _ _, leaf_bl _ _, .inl ⟨rfl, hr, rfl, rfl⟩⟩
  · exact ⟨I, U, true, rfl, hb, iI, iU, bI, bU, .inr ⟨rfl, hr⟩⟩
theorem RuOut.of {Q : Nat → Prop} {w w' : World} {r : Option (Ty × List Ty)} {I U : Tr} {b : Bool} (hb : Below w.heap.size w w') (iI : I.In w') (iU : U.In w') (bI : I.Bl Q) (bU : U.Bl Q) (h : (b = false ∧ r = none ∧ I = leaf 0 ∧ U = leaf 0) ∨ (b = true ∧ r = some (I.ty, U.l.map Tr.ty))) :
    RuOut Q w r (.returned (.tuple #[.agg #[.int .i64 I.k, .slice I.a I.l.length I.c, .slice U.a U.l.length U.c], .bool b])) w' := by
  rcases h with ⟨rfl, rfl, rfl, rfl⟩ | ⟨rfl, hr⟩
  · exact ⟨hb, .inl ⟨rfl, rfl⟩⟩
  · exact ⟨hb, .inr ⟨I, U, hr, rfl, iI, iU, bI, bU⟩⟩
set_option maxRecDepth 20000 in
set_option maxHeartbeats 1000000 in
theorem ruleOf_6 (Q : Nat → Prop) (x : TT) (p q : Tr) (pb po pm pc : Nat) (ta : Option Addr) (tm tc : Nat) (w : World) (hm : 2 < pm) (c0 : w.cell? ⟨pb, po + 2, none⟩ = some (.int .i64 p.k)) (c1 : w.cell? ⟨pb, po + 3, none⟩ = some (.slice p.a p.l.length p.c)) (c2 : w.cell? ⟨pb, po + 4, none⟩ = some (.int .i64 q.k)) (c3 : w.cell? ⟨pb, po + 5, none⟩ = some (.slice q.a q.l.length q.c)) (hp : p.In w) (hq : q.In w) (rp : p.right) (rq : q.right) (hh : p.hgt ≤ 1000) (hs : p.sm) (hQ : ∀ b, w.heap.size ≤ b → Q b) :
    Calls Tryz.prog 65 #[.agg #[.int .i64 6, .int .i64 x.n, .int .i64 x.t.k, .slice x.t.a x.t.l.length x.t.c, .int .i64 x.f.k, .slice x.f.a x.f.l.length x.f.c, .slice x.a x.l.length x.c], .slice (some ⟨pb, po, none⟩) pm pc, .slice ta tm tc] w (RuOut Q w (ifY ⟨2, []⟩ p.ty q.ty)) := by
  have hb0 := (wRule_below 6 x w).drew
  have hw0 : WR 6 x w.heap.size (wRule 6 x w).drew := (wRule_ok 6 x w).below ((Below.refl _ _).drew)
  have hz : (wRule 6 x w).drew.heap.size = w.heap.size + 1 + 1 + 1 + 1 := wRule_size 6 x w
  have HC : Hid (Calls Tryz.prog 102 #[.agg #[.int .i64 2, .slice none 0 0], .agg #[.int .i64 p.k, .slice p.a p.l.length p.c], .agg #[.int .i64 q.k, .slice q.a q.l.length q.c]] (wRule 6 x w).drew (RuOut (fun b => Q b ∧ b ≠ w.heap.size + 1) (wRule 6 x w).drew (ifY ⟨2, []⟩ p.ty q.ty))) := by
    have := ruleOfIf_any (fun b => Q b ∧ b ≠ w.heap.size + 1) (leaf 2) p q (wRule 6 x w).drew (leaf_in _ _) (hp.below hb0) (hq.below hb0) rp rq hh hs (fun b hb => ⟨hQ b (by omega), by omega⟩) (leaf_bl _ _)
    rw [leaf_ty] at this
    exact this
  have d0 := cell_later hb0 c0
  have d1 := cell_later hb0 c1
  have d2 := cell_later hb0 c2
  have d3 := cell_later hb0 c3
  have i1 : (1 : Int) < (pm : Int) := by omega
  have i2 : (2 : Int) < (pm : Int) := by omega
  have j1 : 1 < pm := by omega
  obtain ⟨W0, hW0⟩ : ∃ W0, W0 = wRule 6 x w := ⟨_, rfl⟩
  rw [← hW0] at hb0 hw0 hz HC d0 d1 d2 d3
  unfold wRule at hW0
  clear c0 c1 c2 c3 hp hq rp rq hh hs
  obtain ⟨_, r0, r1, r2, rf, _, _, b0, b1⟩ := id hw0
  have f0 := rf 0
  have f1 := rf 1
  have f2 := rf 2
  have HB : Hid (Below w.heap.size w W0.drew ∧ WR 6 x w.heap.size W0.drew ∧ W0.drew.heap.size = w.heap.size + 1 + 1 + 1 + 1) := ⟨hb0, hw0, hz⟩
  clear hb0 hw0 hz
  go_enter Tryz.func65, Tryz.ntmps65
  go_wp2_with fail
  rw [← hW0]
  clear hW0
  go_region_law
    (first
      | (go_simp; go_at_call 102; refine HC.out.mono ?_; rintro e w1 hR; obtain ⟨I, U, b, rfl, h1, iI, iU, bI, bU, hr⟩ := hR.letters; have hw1 := HB.out.2.1.below h1; obtain ⟨_, r0, r1, r2, rf, _, _, _, _⟩ := id hw1; have f0 := rf 0; have f1 := rf 1; have f2 := rf 2; go_wp2_with fail))
  all_goals
    have HS : Hid _ := RuOut.store (Q := Q) (HB.out.1.trans (h1.mono (by have := HB.out.2.2; omega))) hw1 iI iU bI bU
    have HR : Hid _ := hr
    clear h1 HC HB hw1 iI iU bI bU hR hr
    go_wp2_with fail
    obtain ⟨W, hW, e1, e2, e3, e4, e5, e6, e7, e8⟩ := HS.out
    rw [← hW]
    clear hW
    refine bodyPost_ret (v := .tuple #[.agg #[.int .i64 I.k, .slice I.a I.l.length I.c, .slice U.a U.l.length U.c], .bool b]) ?_ rfl (RuOut.of e1 e2 e3 e4 e5 HR.out)
    simp [results, Tryz.results65, go_sem, e6, e7, e8]
set_option maxRecDepth 20000 in
set_option maxHeartbeats 1000000 in
theorem ruleOf_7 (Q : Nat → Prop) (x : TT) (p : Tr) (pb po pc : Nat) (ta : Option Addr) (tm tc : Nat) (w : World) (c0 : w.cell? ⟨pb, po, none⟩ = some (.int .i64 p.k)) (c1 : w.cell? ⟨pb, po + 1, none⟩ = some (.slice p.a p.l.length p.c)) (hp : p.In w) (ht : x.t.In w) (bp : p.Bl Q) (bt : x.t.Bl Q) (hpb : Q pb) (hQ : ∀ b, w.heap.size ≤ b → Q b) :
    Calls Tryz.prog 65 #[.agg #[.int .i64 7, .int .i64 x.n, .int .i64 x.t.k, .slice x.t.a x.t.l.length x.t.c, .int .i64 x.f.k, .slice x.f.a x.f.l.length x.f.c, .slice x.a x.l.length x.c], .slice (some ⟨pb, po, none⟩) 1 pc, .slice ta tm tc] w (RuOut Q w (some (⟨3, [x.t.ty, p.ty]⟩, [p.ty]))) := by
  have hb0 := (wRule_below 7 x w).drew
  have hw0 : WR 7 x w.heap.size (wRule 7 x w).drew := (wRule_ok 7 x w).below ((Below.refl _ _).drew)
  have hz : (wRule 7 x w).drew.heap.size = w.heap.size + 1 + 1 + 1 + 1 := wRule_size 7 x w
  have hU : (Tr.mk 0 (some ⟨pb, po, none⟩) pc [p]).In w := by
    refine Tr.In_mk.2 ⟨fun j h => ?_, fun t h => ?_⟩
    · have hj : j = 0 := by simpa using h
      subst hj
      exact ⟨pb, po, rfl, by simpa using c0, by simpa [Tr.sl] using c1⟩
    · have : t = p := by simpa using h
      subst this; exact hp
  have lpb : pb < w.heap.size := World.block_lt_of_cell? _ _ c0
  have hUb : (Tr.mk 0 (some ⟨pb, po, none⟩) pc [p]).Bl fun b => Q b ∧ b ≠ w.heap.size + 1 := by
    refine Tr.Bl_mk.2 ⟨fun _ y hy => ?_, fun t h => ?_⟩
    · cases hy; exact ⟨hpb, by show pb ≠ _; omega⟩
    · have : t = p := by simpa using h
      subst this; exact bp.and (hp.bl.mono fun b hb => by omega)
  have HC : Hid (Calls Tryz.prog 103 #[.agg #[.int .i64 x.t.k, .slice x.t.a x.t.l.length x.t.c], .agg #[.int .i64 p.k, .slice p.a p.l.length p.c]] (wRule 7 x w).drew fun e w' => ∃ I : Tr, e = .returned (.agg #[.int .i64 I.k, .slice I.a I.l.length I.c]) ∧ I.ty = ⟨3, [x.t.ty, p.ty]⟩ ∧ I.In w' ∧ (I.Bl fun b => Q b ∧ b ≠ w.heap.size + 1) ∧ Below (wRule 7 x w).drew.heap.size (wRule 7 x w).drew w') := by
    refine (to_any x.t p (wRule 7 x w).drew (ht.below hb0) (hp.below hb0)).mono ?_
    rintro e w' ⟨g, hg, rfl, hin, hb⟩
    refine ⟨⟨3, some ⟨g, 0, none⟩, 2, [x.t, p]⟩, rfl, by simp [Tr.ty_mk], hin, Tr.Bl_two ⟨hQ g (by omega), by omega⟩ (bt.and (ht.bl.mono fun b hb => by omega)) (bp.and (hp.bl.mono fun b hb => by omega)), hb⟩
  have HU : Hid ((Tr.mk 0 (some ⟨pb, po, none⟩) pc [p]).In (wRule 7 x w).drew ∧ (Tr.mk 0 (some ⟨pb, po, none⟩) pc [p]).Bl fun b => Q b ∧ b ≠ w.heap.size + 1) := ⟨hU.below hb0, hUb⟩
  have d0 := cell_later hb0 c0
  have d1 := cell_later hb0 c1
  obtain ⟨W0, hW0⟩ : ∃ W0, W0 = wRule 7 x w := ⟨_, rfl⟩
  rw [← hW0] at hb0 hw0 hz HC HU d0 d1
  unfold wRule at hW0
  clear c0 c1 hp ht bp bt hU hUb hQ
  obtain ⟨⟨_, _, t2, t3, _, _, _⟩, r0, r1, r2, rf, _, _, _, _⟩ := id hw0
  have f0 := rf 0
  have f1 := rf 1
  have f2 := rf 2
  have HB : Hid (Below w.heap.size w W0.drew ∧ WR 7 x w.heap.size W0.drew ∧ W0.drew.heap.size = w.heap.size + 1 + 1 + 1 + 1) := ⟨hb0, hw0, hz⟩
  clear hb0 hw0 hz
  go_enter Tryz.func65, Tryz.ntmps65
  go_wp2_with fail
  rw [← hW0]
  clear hW0
  go_region_law
    (first
      | (go_simp; go_at_call 103; refine HC.out.mono ?_; rintro e w1 ⟨I, rfl, hty, iI, bI, h1⟩; have hw1 := HB.out.2.1.below h1; obtain ⟨_, r0, r1, r2, rf, _, _, _, _⟩ := id hw1; have f0 := rf 0; have f1 := rf 1; have f2 := rf 2; go_wp2_with fail))
  all_goals
    have HS : Hid _ := RuOut.store (Q := Q) (HB.out.1.trans (h1.mono (by have := HB.out.2.2; omega))) hw1 iI (HU.out.1.below h1) bI HU.out.2
    have HR : Hid (some ((⟨3, [x.t.ty, p.ty]⟩ : Ty), [p.ty]) = some (I.ty, (Tr.mk 0 (some ⟨pb, po, none⟩) pc [p]).l.map Tr.ty)) := by rw [hty]; exact rfl
    clear h1 HC HB HU hw1 iI bI hty
    go_wp2_with fail
    obtain ⟨W, hW, e1, e2, e3, e4, e5, e6, e7, e8⟩ := HS.out
    have hW' : W = (((w1.setCell ⟨w.heap.size + 1, 0, none⟩ (.int .i64 I.k)).setCell ⟨w.heap.size + 1, 1, none⟩ (.slice I.a I.l.length I.c)).setCell ⟨w.heap.size + 1, 2, none⟩ (.slice (some ⟨pb, po, none⟩) 1 pc)) := hW
    rw [← hW']
    clear hW hW'
    refine bodyPost_ret (v := .tuple #[.agg #[.int .i64 I.k, .slice I.a I.l.length I.c, .slice (some ⟨pb, po, none⟩) 1 pc], .bool true]) ?_ rfl (RuOut.of (U := ⟨0, some ⟨pb, po, none⟩, pc, [p]⟩) e1 e2 e3 e4 e5 (.inr ⟨rfl, HR.out⟩))
    have e8' : W.cell? ⟨w.heap.size + 1, 2, none⟩ = some (.slice (some ⟨pb, po, none⟩) 1 pc) := e8
    simp [results, Tryz.results65, go_sem, e6, e7, e8']
end Go.Proofs.YtnddkmccagiclaaGreatDoor
