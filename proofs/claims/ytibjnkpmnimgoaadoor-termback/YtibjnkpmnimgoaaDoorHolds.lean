/-
  What the calls of kind.holds (of kind.same) and kind.Same answer at two trees of which the first has at most a thousand levels.
-/
import Derived.Test.YtibjnkpmnimgoaaDoorLater
import Derived.Test.YtibjnkpmnimgoaaDoorSame
import Derived.Deep.LoopGhost
namespace Go.Proofs.YtibjnkpmnimgoaaDoor
open Go.RowKit

/-- The list that is put off: the one pair, or none. -/
def Off (R : Nat) (x y : Tr) (r : Bool) (k : Nat) (wr : World) : Prop :=
  wr.frozen? ⟨R, 0, none⟩ = false ∧
  ((k = 1 ∧ ∃ g cap, wr.cell? ⟨R, 0, none⟩ = some (.slice (some ⟨g, 0, none⟩) 1 cap) ∧ wr.ownsRow (R + 1) 118 5 (.slice (some ⟨g, 0, none⟩) 1 cap) 1 [.int .i64 x.k, .slice x.a x.l.length x.c, .int .i64 y.k, .slice y.a y.l.length y.c, .pointer none])
    ∨ (k = 0 ∧ r = true ∧ ∃ a cap, wr.cell? ⟨R, 0, none⟩ = some (.slice a 0 cap)))

set_option maxHeartbeats 1000000 in
theorem holds_31 (x y : Tr) (r : Bool) (w : World) (hx : x.In w) (hy : y.In w)
    (HC : Hid (∀ (rp : Option Addr) (w : World), x.In w → y.In w → Calls Tryd.prog 48 #[.agg #[.int .i64 x.k, .slice x.a x.l.length x.c], .agg #[.int .i64 y.k, .slice y.a y.l.length y.c], .int .i64 1000, .pointer rp] w fun e w' => e = .returned (.bool r) ∧ Below w.heap.size w w')) :
    Calls Tryd.prog 46 #[.func (.func 48) #[] #[], .agg #[.int .i64 x.k, .slice x.a x.l.length x.c], .agg #[.int .i64 y.k, .slice y.a y.l.length y.c]] w fun e w' => e = .returned (.bool r) ∧ Below w.heap.size w w' := by
  go_enter Tryd.func46, Tryd.ntmps46
  go_wp2_with fail
  refine (put_any (w.heap.size + 1 + 1) (.slice none 0 0) 0 [] x.k y.k x.a y.a x.l.length y.l.length x.c y.c none _ (by simp [go_sem]) (by simp [go_sem]) (World.ownsRow_nil _ _ _ _) (by omega)).mono ?_
  rintro e w1 ⟨rfl, g, cap, hc1, hf1, ho1, _, hk1⟩
  have hbw : Below w.heap.size w w1 := ((((Below.refl _ _).alloc (Nat.le_refl _) _).alloc (by simp) _).alloc (by simp; omega) _).trans ((hk1.below (by simp [Value.ownBlock]) (by simp)).mono (by omega))
  have hsz : w.heap.size + 1 + 1 < w1.heap.size := World.block_lt_of_cell? _ _ hc1
  have HO : Hid (Off (w.heap.size + 1 + 1) x y r 1 w1) := ⟨hf1, .inl ⟨rfl, g, cap, by simpa using hc1, by simpa using ho1⟩⟩
  clear hc1 hf1 ho1 hk1
  go_wp2_with fail
  go_loopg [] 1 (fun k wr => Hid (Off (w.heap.size + 1 + 1) x y r k wr) ∧ Below w.heap.size w wr)
  case atStart => exact ⟨HO, hbw⟩
  case round =>
    obtain ⟨HR, hbr⟩ := hrel
    obtain ⟨hfr, ⟨rfl, g, cap, hc, ho⟩ | ⟨rfl, rfl, a, cap, hc⟩⟩ := HR.out
    · have c0 := ho.cellAt 0 (by omega)
      have c1 := ho.cellAt 1 (by omega)
      have c2 := ho.cellAt 2 (by omega)
      have c3 := ho.cellAt 3 (by omega)
      have c4 := ho.cellAt 4 (by omega)
      simp only [List.getElem?_cons_zero, List.getElem?_cons_succ] at c0 c1 c2 c3 c4
      have hcap : 1 ≤ cap := by
        rcases ho.2 with ⟨h, _⟩ | ⟨g', cap', cur, h, _, _, h1, _⟩
        · cases h
        · cases h; exact h1
      have hgr : w.heap.size + 1 + 1 < g := by
        rcases ho.2 with ⟨h, _⟩ | ⟨g', cap', cur, h, h1, _⟩
        · cases h
        · cases h; exact h1
      have hlr : w.heap.size + 1 + 1 < wr.heap.size := World.block_lt_of_cell? _ _ hc
      clear ho HR HO
      go_wp2_with fail
      refine (empty_any (w.heap.size + 1 + 1) (some ⟨g, 0, none⟩) 1 cap _ hc).mono ?_
      rintro e w' ⟨rfl, rfl⟩
      go_wp2_with fail
      refine (take_any (w.heap.size + 1 + 1) g 0 cap x.k y.k x.a y.a x.l.length y.l.length x.c y.c none _ (by simpa using hc) hfr (by omega) (by omega) (by simpa using c0) (by simpa using c1) (by simpa using c2) (by simpa using c3) (by simpa using c4)).mono ?_
      rintro e w' ⟨rfl, rfl⟩
      go_wp2_with fail
      have hb3 : Below w.heap.size w (((w'.setCell ⟨w.heap.size + 1 + 1, 0, none⟩ (.slice (some ⟨g, 0, none⟩) 0 cap)).alloc (.cells #[.int .i64 x.k, .slice x.a x.l.length x.c, .int .i64 y.k, .slice y.a y.l.length y.c, .pointer none] 118)).alloc (.cells #[.int .i64 x.k, .slice x.a x.l.length x.c, .int .i64 y.k, .slice y.a y.l.length y.c, .pointer none] 118)) :=
        ((hbr.setCell (by simp; omega) _).alloc (by simp [World.setCell]; omega) _).alloc (by simp [World.setCell]; omega) _
      have hb4 := hb3.alloc (by simp [World.setCell]; omega) (.cells #[.int .i64 x.k, .slice x.a x.l.length x.c, .int .i64 y.k, .slice y.a y.l.length y.c, .pointer none] 118)
      refine (HC.out _ _ (hx.below hb4) (hy.below hb4)).mono ?_
      rintro e w5 ⟨rfl, hb5⟩
      have hb6 : Below w.heap.size w w5 := hb4.trans (hb5.mono (by simp [World.setCell]; omega))
      have hcR : w5.cell? ⟨w.heap.size + 1 + 1, 0, none⟩ = some (.slice (some ⟨g, 0, none⟩) 0 cap) := by
        refine cell_later hb5 (cell_later ((((Below.refl _ (w'.setCell ⟨w.heap.size + 1 + 1, 0, none⟩ (.slice (some ⟨g, 0, none⟩) 0 cap))).alloc (Nat.le_refl _) _).alloc (by simp) _).alloc (by simp; omega) _) ?_)
        exact World.cell?_setCell_same _ _ _ hc
      have hfR : w5.frozen? ⟨w.heap.size + 1 + 1, 0, none⟩ = false := by
        rw [hb5.frozen (p := ⟨w.heap.size + 1 + 1, 0, none⟩) (by simp [World.setCell]; omega)]
        simp [frozen?_alloc_cells, hfr]
      clear hb5 hb4 hb3 hc hfr c0 c1 c2 c3 c4
      cases r
      · go_wp2_with fail
        go_ret
        exact ⟨rfl, hb6⟩
      · go_wp2_with fail
        go_roundg 0
        case measure => omega
        case rel => exact ⟨⟨hfR, .inr ⟨rfl, rfl, _, _, hcR⟩⟩, hb6⟩
    · go_wp2_with fail
      refine (empty_any (w.heap.size + 1 + 1) a 0 cap _ hc).mono ?_
      rintro e w' ⟨rfl, rfl⟩
      go_wp2_with fail
      go_ret
      exact ⟨rfl, hbr⟩
set_option maxHeartbeats 400000 in
/-- kind.Same. -/
theorem same_whole (x y : Tr) (w : World) (hx : x.In w) (hy : y.In w) (hh : x.hgt ≤ 1000) (hs : x.sm) :
    Calls Tryd.prog 27 #[.agg #[.int .i64 x.k, .slice x.a x.l.length x.c], .agg #[.int .i64 y.k, .slice y.a y.l.length y.c]] w fun e w' => e = .returned (.bool (relY escSame x.ty y.ty)) ∧ Below w.heap.size w w' := by
  obtain ⟨r, hr⟩ : ∃ r, relY escSame x.ty y.ty = r := ⟨_, rfl⟩
  have HC : Hid (∀ (rp : Option Addr) (w : World), x.In w → y.In w → Calls Tryd.prog 48 #[.agg #[.int .i64 x.k, .slice x.a x.l.length x.c], .agg #[.int .i64 y.k, .slice y.a y.l.length y.c], .int .i64 1000, .pointer rp] w fun e w' => e = .returned (.bool r) ∧ Below w.heap.size w w') := by
    intro rp w h1 h2
    have h := same_any 1000 (Nat.le_refl _) x y rp w h1 h2 hh hs
    rw [hr] at h
    exact h
  rw [hr]
  clear hr
  have HH : Hid (∀ (w : World), x.In w → y.In w → Calls Tryd.prog 46 #[.func (.func 48) #[] #[], .agg #[.int .i64 x.k, .slice x.a x.l.length x.c], .agg #[.int .i64 y.k, .slice y.a y.l.length y.c]] w fun e w' => e = .returned (.bool r) ∧ Below w.heap.size w w') := fun w h1 h2 => holds_31 x y r w h1 h2 HC
  clear HC
  go_enter Tryd.func27, Tryd.ntmps27
  go_wp2_with fail
  have hb0 : Below w.heap.size w ((w.alloc (Obj.cells #[.int .i64 x.k, .slice x.a x.l.length x.c] 24)).alloc (Obj.cells #[.int .i64 y.k, .slice y.a y.l.length y.c] 24)) := ((Below.refl _ _).alloc (Nat.le_refl _) _).alloc (by simp) _
  refine (HH.out _ (hx.below hb0) (hy.below hb0)).mono ?_
  rintro e w1 ⟨rfl, hb1⟩
  have hb2 := hb0.trans (hb1.mono (by simp; omega))
  clear hb0 hb1
  go_wp2_with fail
  go_ret
  exact ⟨rfl, hb2⟩

end Go.Proofs.YtibjnkpmnimgoaaDoor
