/-
  What the call of chaperoneref.CopyTerm answers at a term that lies in memory: one alike, of new blocks alone.
-/
import Derived.Test.YtnddkmccagiclaaGreatDoorLot95f67e03a6
import Derived.Test.YtnddkmccagiclaaGreatDoorLotdfd9329f6e
import Derived.Test.YtnddkmccagiclaaGreatDoorLotce5b4f1487
namespace Go.Proofs.YtnddkmccagiclaaGreatDoor
open Go.RowKit

theorem TT.eta (x : TT) : TT.mk x.k x.n x.t x.f x.a x.c x.l = x := by cases x; rfl

/-- What a call that makes a term leaves. -/
def MadeT (T : Tm) (w : World) (e : Ending) (w' : World) : Prop :=
  ∃ y : TT, e = .returned (.agg #[.int .i64 y.k, .int .i64 y.n, .int .i64 y.t.k, .slice y.t.a y.t.l.length y.t.c, .int .i64 y.f.k, .slice y.f.a y.f.l.length y.f.c, .slice y.a y.l.length y.c]) ∧ y.tm = T ∧ y.In w' ∧ y.Bl (w.heap.size ≤ ·) ∧ Below w.heap.size w w'

set_option maxRecDepth 20000 in
set_option maxHeartbeats 4000000 in
theorem copyTm_step (x : TT) (A : Option Addr) (HA : Hid (A = x.a)) (w : World) (hx : x.In w) (hlw : x.lw) (hcs : x.csz)
    (ih : Hid (∀ (j : Nat) (hj : j < x.l.length) (w : World), x.l[j].In w → Calls Tryz.prog 6 #[.agg #[.int .i64 x.l[j].k, .int .i64 x.l[j].n, .int .i64 x.l[j].t.k, .slice x.l[j].t.a x.l[j].t.l.length x.l[j].t.c, .int .i64 x.l[j].f.k, .slice x.l[j].f.a x.l[j].f.l.length x.l[j].f.c, .slice x.l[j].a x.l[j].l.length x.l[j].c]] w (MadeT x.l[j].tm w))) :
    Calls Tryz.prog 6 #[.agg #[.int .i64 x.k, .int .i64 x.n, .int .i64 x.t.k, .slice x.t.a x.t.l.length x.t.c, .int .i64 x.f.k, .slice x.f.a x.f.l.length x.f.c, .slice A x.l.length x.c]] w (MadeT x.tm w) := by
  have hlen := hlw.len
  obtain ⟨i0, hi0, hz0, hz1, hz2⟩ := info_parts Tryz.info27c
  have HT : Hid (∀ W, x.t.In W → Calls Tryz.prog 21 #[.agg #[.int .i64 x.t.k, .slice x.t.a x.t.l.length x.t.c]] W (Made x.t.ty W)) := fun W h => copy_any _ x.t W h (Nat.le_refl _) hcs.t
  have HF : Hid (∀ W, x.f.In W → Calls Tryz.prog 21 #[.agg #[.int .i64 x.f.k, .slice x.f.a x.f.l.length x.f.c]] W (Made x.f.ty W)) := fun W h => copy_any _ x.f W h (Nat.le_refl _) hcs.f
  obtain ⟨W0, hW0⟩ : ∃ W0, W0 = (w.alloc (.cells #[.int .i64 x.k, .int .i64 x.n, .int .i64 x.t.k, .slice x.t.a x.t.l.length x.t.c, .int .i64 x.f.k, .slice x.f.a x.f.l.length x.f.c, .slice A x.l.length x.c] 27)).alloc (.cells #[.int .i64 0, .int .i64 0, .int .i64 0, .slice none 0 0, .int .i64 0, .slice none 0 0, .slice none 0 0] 27) := ⟨_, rfl⟩
  have hs0 : W0.heap.size = w.heap.size + 1 + 1 := by rw [hW0]; simp
  have hb0 : Below w.heap.size w W0 := by rw [hW0]; exact ((Below.refl _ _).alloc (Nat.le_refl _) _).alloc (by simp) _
  have hbx0 : Box7 W0 w.heap.size ⟨x.k, x.n, x.t, x.f, A, x.c, x.l⟩ := by
    rw [hW0]
    refine ⟨⟨?_, ?_, ?_, ?_, ?_, ?_, ?_⟩, fun i hi => ?_⟩
    all_goals simp [go_sem]
  have hz0' : ZB7 W0 (w.heap.size + 1) := by
    have := ZB7.new (w.alloc (.cells #[.int .i64 x.k, .int .i64 x.n, .int .i64 x.t.k, .slice x.t.a x.t.l.length x.t.c, .int .i64 x.f.k, .slice x.f.a x.f.l.length x.f.c, .slice A x.l.length x.c] 27))
    rw [hW0]
    simpa using this
  have r2 : W0.drew.cell? ⟨w.heap.size, 2, none⟩ = some (.int .i64 x.t.k) := hbx0.at7.c2
  have r3 : W0.drew.cell? ⟨w.heap.size, 3, none⟩ = some (.slice x.t.a x.t.l.length x.t.c) := hbx0.at7.c3
  have r4 : W0.drew.cell? ⟨w.heap.size, 4, none⟩ = some (.int .i64 x.f.k) := hbx0.at7.c4
  have r5 : W0.drew.cell? ⟨w.heap.size, 5, none⟩ = some (.slice x.f.a x.f.l.length x.f.c) := hbx0.at7.c5
  have r6 : W0.drew.cell? ⟨w.heap.size, 6, none⟩ = some (.slice A x.l.length x.c) := hbx0.at7.c6
  have f2 : W0.drew.frozen? ⟨w.heap.size, 2, none⟩ = false := hbx0.fz 2 (by omega)
  have f3 : W0.drew.frozen? ⟨w.heap.size, 3, none⟩ = false := hbx0.fz 3 (by omega)
  have f4 : W0.drew.frozen? ⟨w.heap.size, 4, none⟩ = false := hbx0.fz 4 (by omega)
  have f5 : W0.drew.frozen? ⟨w.heap.size, 5, none⟩ = false := hbx0.fz 5 (by omega)
  have f6 : W0.drew.frozen? ⟨w.heap.size, 6, none⟩ = false := hbx0.fz 6 (by omega)
  have us : w.heap.size < W0.drew.heap.size := hbx0.lt
  have hb1 : Below W0.heap.size W0 W0.drew := (Below.refl _ _).drew
  have HK : Hid (∀ w' : World, Below W0.heap.size W0 w' → w'.cell? ⟨w.heap.size, 2, none⟩ = some (.int .i64 x.t.k) ∧ w'.cell? ⟨w.heap.size, 3, none⟩ = some (.slice x.t.a x.t.l.length x.t.c) ∧ w'.cell? ⟨w.heap.size, 4, none⟩ = some (.int .i64 x.f.k) ∧ w'.cell? ⟨w.heap.size, 5, none⟩ = some (.slice x.f.a x.f.l.length x.f.c)) := fun w' h => ⟨cell_later h r2, cell_later h r3, cell_later h r4, cell_later h r5⟩
  have HW : Hid (W0.heap.size = w.heap.size + 1 + 1 ∧ Below w.heap.size w W0 ∧ Box7 W0 w.heap.size ⟨x.k, x.n, x.t, x.f, A, x.c, x.l⟩ ∧ ZB7 W0 (w.heap.size + 1) ∧ x.In w) := ⟨hs0, hb0, hbx0, hz0', hx⟩
  clear hs0 hb0 hbx0 hz0' hcs hlw
  go_enter Tryz.func6, Tryz.ntmps6
  go_upto_region 1 with fail
  rw [← hW0]
  clear hW0
  go_cut [] (fun wx => Hid (∃ (t f : Tr) (w3 : World), wx = (((w3.setCell ⟨w.heap.size, 2, none⟩ (.int .i64 t.k)).setCell ⟨w.heap.size, 3, none⟩ (.slice t.a t.l.length t.c)).setCell ⟨w.heap.size, 4, none⟩ (.int .i64 f.k)).setCell ⟨w.heap.size, 5, none⟩ (.slice f.a f.l.length f.c) ∧ t.ty = x.t.ty ∧ f.ty = x.f.ty ∧ Below W0.heap.size W0 w3 ∧ t.In w3 ∧ f.In w3 ∧ t.Bl (W0.heap.size ≤ ·) ∧ f.Bl (W0.heap.size ≤ ·)))
  case first =>
    go_region_law
        (first
          | (go_simp; go_at_call 21; refine (HT.out _ ((HW.out.2.2.2.2.below HW.out.2.1).below hb1).t).mono ?_; rintro e w2 ⟨t, rfl, ht, hin, hbl, hb2⟩; have hb12 := hb1.trans (hb2.mono hb1.size); replace r2 := cell_later hb2 r2; replace r3 := cell_later hb2 r3; replace r4 := cell_later hb2 r4; replace r5 := cell_later hb2 r5; replace r6 := cell_later hb2 r6; replace f2 := (hb2.frozen (p := ⟨w.heap.size, 2, none⟩) us).trans f2; replace f3 := (hb2.frozen (p := ⟨w.heap.size, 3, none⟩) us).trans f3; replace f4 := (hb2.frozen (p := ⟨w.heap.size, 4, none⟩) us).trans f4; replace f5 := (hb2.frozen (p := ⟨w.heap.size, 5, none⟩) us).trans f5; replace f6 := (hb2.frozen (p := ⟨w.heap.size, 6, none⟩) us).trans f6; replace us : w.heap.size < w2.heap.size := World.block_lt_of_cell? _ _ r2; clear HT; go_wp2_with fail)
          | (go_simp; go_at_call 21; refine (HF.out _ ((HW.out.2.2.2.2.below HW.out.2.1).below hb12).f).mono ?_; rintro e w3 ⟨f, rfl, hft, hfin, hfbl, hb3⟩; have hb13 := hb12.trans (hb3.mono hb12.size); replace r2 := cell_later hb3 r2; replace r3 := cell_later hb3 r3; replace r4 := cell_later hb3 r4; replace r5 := cell_later hb3 r5; replace r6 := cell_later hb3 r6; replace f2 := (hb3.frozen (p := ⟨w.heap.size, 2, none⟩) us).trans f2; replace f3 := (hb3.frozen (p := ⟨w.heap.size, 3, none⟩) us).trans f3; replace f4 := (hb3.frozen (p := ⟨w.heap.size, 4, none⟩) us).trans f4; replace f5 := (hb3.frozen (p := ⟨w.heap.size, 5, none⟩) us).trans f5; replace f6 := (hb3.frozen (p := ⟨w.heap.size, 6, none⟩) us).trans f6; replace us : w.heap.size < w3.heap.size := World.block_lt_of_cell? _ _ r2; clear HF; go_wp2_with fail))
    all_goals
      go_wp2_with fail
      go_meet
      case rel => exact ⟨t, f, w3, rfl, ht, hft, hb13, hin.below hb3, hfin, hbl.mono fun b h => Nat.le_trans hb1.size h, hfbl.mono fun b h => Nat.le_trans hb12.size h⟩
  case rest =>
  obtain ⟨t, f, w3, hwx, htt, hft, hb3, hti, hfi, hbt, hbf⟩ := hcut.out
  have HX0 : Hid (TT.mk x.k x.n x.t x.f A x.c x.l = x) := by
    have h := HA.out
    show _ = _
    rw [h]
    exact TT.eta x
  have hbx3 : Box7 w3 w.heap.size x := by
    have := HW.out.2.2.1
    rw [HX0.out] at this
    exact this.below hb3
  have HL : Hid (CT w.heap.size x t f 0 (.slice none 0 0) [] w (((((w3.setCell ⟨w.heap.size, 2, none⟩ (.int .i64 t.k)).setCell ⟨w.heap.size, 3, none⟩ (.slice t.a t.l.length t.c)).setCell ⟨w.heap.size, 4, none⟩ (.int .i64 f.k)).setCell ⟨w.heap.size, 5, none⟩ (.slice f.a f.l.length f.c)).setCell ⟨w.heap.size, 6, none⟩ (.slice none 0 0))) :=
    CT.start (HW.out.2.1.trans (hb3.mono HW.out.2.1.size)) hbx3 (HW.out.2.2.2.1.later hb3) hti hfi (hbt.mono fun b h => by have := HW.out.1; omega) (hbf.mono fun b h => by have := HW.out.1; omega)
  have HTY : Hid (t.ty = x.t.ty ∧ f.ty = x.f.ty) := ⟨htt, hft⟩
  have hA6 : w3.cell? ⟨w.heap.size, 6, none⟩ = some (.slice A x.l.length x.c) := by rw [HA.out]; exact hbx3.at7.c6
  have hF6 : w3.frozen? ⟨w.heap.size, 6, none⟩ = false := hbx3.fz 6 (by omega)
  have g6 : ((((w3.setCell ⟨w.heap.size, 2, none⟩ (.int .i64 t.k)).setCell ⟨w.heap.size, 3, none⟩ (.slice t.a t.l.length t.c)).setCell ⟨w.heap.size, 4, none⟩ (.int .i64 f.k)).setCell ⟨w.heap.size, 5, none⟩ (.slice f.a f.l.length f.c)).cell? ⟨w.heap.size, 6, none⟩ = some (.slice A x.l.length x.c) := by
    rw [World.cell?_setCell_other _ _ _ _ (by simp), World.cell?_setCell_other _ _ _ _ (by simp), World.cell?_setCell_other _ _ _ _ (by simp), World.cell?_setCell_other _ _ _ _ (by simp)]
    exact hA6
  have gf6 : ((((w3.setCell ⟨w.heap.size, 2, none⟩ (.int .i64 t.k)).setCell ⟨w.heap.size, 3, none⟩ (.slice t.a t.l.length t.c)).setCell ⟨w.heap.size, 4, none⟩ (.int .i64 f.k)).setCell ⟨w.heap.size, 5, none⟩ (.slice f.a f.l.length f.c)).frozen? ⟨w.heap.size, 6, none⟩ = false := by
    simp only [World.frozen?_setCell]
    exact hF6
  rw [← hwx] at g6 gf6 HL
  clear hcut hwx htt hft hb3 hti hfi hbt hbf hbx3 hA6 hF6 HX0 HK HT HF r2 r3 r4 r5 r6 f2 f3 f4 f5 f6 us hb1
  go_wp2_with fail
  go_loopg [19] x.l.length (fun g i wr => ∃ (j : Nat) (v : Value) (cs : List TT), j ≤ x.l.length ∧ g = x.l.length - j ∧ i = .int .i64 (j : Int) ∧ Hid (CT w.heap.size x t f j v cs w wr))
  case atStart => exact ⟨0, _, _, Nat.zero_le _, rfl, rfl, HL⟩
  case round =>
    obtain ⟨j, v, cs, hj, hg, rfl, HC⟩ := hrel
    have HG : Hid (gk = x.l.length - j) := hg
    clear hg HL g6 gf6
    have hsw : w.heap.size + 1 < wr.heap.size := HC.out.z.lt
    by_cases hlt : j < x.l.length
    · obtain ⟨b, o, ea, ⟨x0, x1, x2, x3, x4, x5, x6⟩, hxj⟩ := hx.part j hlt
      have eA : A = some ⟨b, o, none⟩ := HA.out.trans ea
      subst eA
      clear ea HA
      have hbwr := HC.out.low
      replace x0 := cell_later hbwr x0
      replace x1 := cell_later hbwr x1
      replace x2 := cell_later hbwr x2
      replace x3 := cell_later hbwr x3
      replace x4 := cell_later hbwr x4
      replace x5 := cell_later hbwr x5
      replace x6 := cell_later hbwr x6
      have i1 : (j : Int) < (x.l.length : Int) := by omega
      have i2 : (0 : Int) ≤ (j : Int) := by omega
      have lb : b < wr.heap.size := World.block_lt_of_cell? _ _ x0
      have hcb : cs.length ≤ 1353245080299 := by have := HC.out.len hj; omega
      have hb1 : Below wr.heap.size wr (wr.alloc (.cells #[.int .i64 x.l[j].k, .int .i64 x.l[j].n, .int .i64 x.l[j].t.k, .slice x.l[j].t.a x.l[j].t.l.length x.l[j].t.c, .int .i64 x.l[j].f.k, .slice x.l[j].f.a x.l[j].f.l.length x.l[j].f.c, .slice x.l[j].a x.l[j].l.length x.l[j].c] 27)).drew := ((Below.refl _ _).alloc (Nat.le_refl _) _).drew
      have HI : Hid (Calls Tryz.prog 6 #[.agg #[.int .i64 x.l[j].k, .int .i64 x.l[j].n, .int .i64 x.l[j].t.k, .slice x.l[j].t.a x.l[j].t.l.length x.l[j].t.c, .int .i64 x.l[j].f.k, .slice x.l[j].f.a x.l[j].f.l.length x.l[j].f.c, .slice x.l[j].a x.l[j].l.length x.l[j].c]] (wr.alloc (.cells #[.int .i64 x.l[j].k, .int .i64 x.l[j].n, .int .i64 x.l[j].t.k, .slice x.l[j].t.a x.l[j].t.l.length x.l[j].t.c, .int .i64 x.l[j].f.k, .slice x.l[j].f.a x.l[j].f.l.length x.l[j].f.c, .slice x.l[j].a x.l[j].l.length x.l[j].c] 27)).drew (MadeT x.l[j].tm (wr.alloc (.cells #[.int .i64 x.l[j].k, .int .i64 x.l[j].n, .int .i64 x.l[j].t.k, .slice x.l[j].t.a x.l[j].t.l.length x.l[j].t.c, .int .i64 x.l[j].f.k, .slice x.l[j].f.a x.l[j].f.l.length x.l[j].f.c, .slice x.l[j].a x.l[j].l.length x.l[j].c] 27)).drew)) := ih.out j hlt _ ((hxj.below hbwr).below hb1)
      obtain ⟨a0, c0, hv0, hbx⟩ := HC.out.box
      have q1 : wr.cell? ⟨w.heap.size, 6, none⟩ = some v := by rw [hv0]; exact hbx.at7.c6
      have qf : wr.frozen? ⟨w.heap.size, 6, none⟩ = false := hbx.fz 6 (by omega)
      have hnv : v.ownBlock ≠ some w.heap.size := fun e => by have := (HC.out.row.lt _ e).1; omega
      have hown := HC.out.row.own
      clear ih hx hbx hv0 HW
      go_wp2_with fail
      have u1 : (wr.alloc (.cells #[.int .i64 x.l[j].k, .int .i64 x.l[j].n, .int .i64 x.l[j].t.k, .slice x.l[j].t.a x.l[j].t.l.length x.l[j].t.c, .int .i64 x.l[j].f.k, .slice x.l[j].f.a x.l[j].f.l.length x.l[j].f.c, .slice x.l[j].a x.l[j].l.length x.l[j].c] 27)).drew.cell? ⟨w.heap.size, 6, none⟩ = some v := cell_later hb1 q1
      have uf : (wr.alloc (.cells #[.int .i64 x.l[j].k, .int .i64 x.l[j].n, .int .i64 x.l[j].t.k, .slice x.l[j].t.a x.l[j].t.l.length x.l[j].t.c, .int .i64 x.l[j].f.k, .slice x.l[j].f.a x.l[j].f.l.length x.l[j].f.c, .slice x.l[j].a x.l[j].l.length x.l[j].c] 27)).drew.frozen? ⟨w.heap.size, 6, none⟩ = false := (hb1.frozen (p := ⟨w.heap.size, 6, none⟩) (show w.heap.size < wr.heap.size by omega)).trans qf
      have uo : (wr.alloc (.cells #[.int .i64 x.l[j].k, .int .i64 x.l[j].n, .int .i64 x.l[j].t.k, .slice x.l[j].t.a x.l[j].t.l.length x.l[j].t.c, .int .i64 x.l[j].f.k, .slice x.l[j].f.a x.l[j].f.l.length x.l[j].f.c, .slice x.l[j].a x.l[j].l.length x.l[j].c] 27)).drew.ownsRow (w.heap.size + 1 + 1) 27 7 v cs.length (cells7 cs) := ownsRow_below hown hb1
      have us : w.heap.size < (wr.alloc (.cells #[.int .i64 x.l[j].k, .int .i64 x.l[j].n, .int .i64 x.l[j].t.k, .slice x.l[j].t.a x.l[j].t.l.length x.l[j].t.c, .int .i64 x.l[j].f.k, .slice x.l[j].f.a x.l[j].f.l.length x.l[j].f.c, .slice x.l[j].a x.l[j].l.length x.l[j].c] 27)).drew.heap.size := World.block_lt_of_cell? _ _ u1
      clear q1 qf hown
      go_region_law
        (first
          | (go_simp; go_at_call 6; refine HI.out.mono ?_; rintro e w2 ⟨y, rfl, hyt, hin, hbl, hb2⟩; replace u1 := cell_later hb2 u1; replace uf := (hb2.frozen (p := ⟨w.heap.size, 6, none⟩) us).trans uf; replace uo := ownsRow_below uo hb2; replace us : w.heap.size < w2.heap.size := World.block_lt_of_cell? _ _ u1; have hnew := heap_alloc_new w2 (.cells #[.int .i64 y.k, .int .i64 y.n, .int .i64 y.t.k, .slice y.t.a y.t.l.length y.t.c, .int .i64 y.f.k, .slice y.f.a y.f.l.length y.f.c, .slice y.a y.l.length y.c] 27); have un : w.heap.size ≠ w2.heap.size := Nat.ne_of_lt us; go_wp2_with fail)
          | (refine step_append_lies _ (by rfl) _ _ _ (by rfl) (w.heap.size + 1 + 1) 27 i0 _ 7 104 Tryz.underlying25 hi0 hz0 hz1 hz2 rfl (by omega) v cs.length (cells7 cs) (by rfl) (uo.alloc _)
                ⟨w2.heap.size, 0, none⟩ 1 1 [.int .i64 y.k, .int .i64 y.n, .int .i64 y.t.k, .slice y.t.a y.t.l.length y.t.c, .int .i64 y.f.k, .slice y.f.a y.f.l.length y.f.c, .slice y.a y.l.length y.c] (by rfl) (by rfl) (World.news_of_block (cs := #[.int .i64 y.k, .int .i64 y.n, .int .i64 y.t.k, .slice y.t.a y.t.l.length y.t.c, .int .i64 y.f.k, .slice y.f.a y.f.l.length y.f.c, .slice y.a y.l.length y.c]) (t := 27) (fr := (0, 0)) hnew) (by simp [Value.oneCell'])
                (by omega) (by unfold maxLen; omega) (by omega) (by have := hb2.size; simp at this ⊢; omega) (w2.heap.size + 1) (by simp) ?_; intro gg cap1 w3' hown1 hgrow hat hlt3; have hcr : w3'.cell? ⟨w.heap.size, 6, none⟩ = some v := (by rw [hgrow.cell_far _ (by simp; omega) (Ne.symm hnv)]; exact cell_later ((Below.refl _ _).alloc (Nat.le_refl _) _) u1); have hfr : w3'.frozen? ⟨w.heap.size, 6, none⟩ = false := (by rw [hgrow.frozen_far _ (by simp; omega) (Ne.symm hnv)]; exact (((Below.refl _ _).alloc (Nat.le_refl _) _).frozen (p := ⟨w.heap.size, 6, none⟩) us).trans uf)))
      all_goals
        have HN : Hid (CT w.heap.size x t f (j + 1) (.slice (some ⟨gg, 0, none⟩) (cs.length + 1) cap1) (cs ++ [y]) w (w3'.setCell ⟨w.heap.size, 6, none⟩ (.slice (some ⟨gg, 0, none⟩) (cs.length + 1) cap1))) := HC.out.step hlt hb1 hyt hin hbl hb2 hown1 hgrow hat
        clear hown1 hgrow hat hcr hfr hyt hin hbl hb2 uo uf u1 HI HC
        go_wp2_with fail
        go_roundg (x.l.length - (j + 1))
        case measure => rw [HG.out]; omega
        case rel => exact ⟨j + 1, _, _, by omega, rfl, by go_num, HN⟩
    · have hjl : j = x.l.length := by omega
      obtain ⟨a, c, hv, hbx⟩ := HC.out.box
      obtain ⟨a', c', hv', htree⟩ := HC.out.row.tree
      rw [hv] at hv'
      obtain ⟨rfl, rfl⟩ : a = a' ∧ c = c' := by cases hv'; exact ⟨rfl, rfl⟩
      have hti := htree x.k x.n t f HC.out.tin.1 HC.out.fin.1
      have hbl := hti.2 (fun b => w.heap.size + 1 + 1 ≤ b) (fun b hb => hb) (HC.out.tin.2.mono fun b hb => hb.1) (HC.out.fin.2.mono fun b hb => hb.1)
      have htm : (TT.mk x.k x.n t f a c cs).tm = x.tm := by
        have h := HC.out.tm
        rw [hjl, List.take_length] at h
        have h2 := HTY.out
        obtain ⟨xk, xn, xt, xf, xa, xc, xl⟩ := x
        dsimp only at h h2 ⊢
        rw [TT.tm_mk, TT.tm_mk, h, h2.1, h2.2]
      have hzr := HC.out.z
      have HN : Hid (MadeT x.tm w (.returned (.agg #[.int .i64 x.k, .int .i64 x.n, .int .i64 t.k, .slice t.a t.l.length t.c, .int .i64 f.k, .slice f.a f.l.length f.c, .slice a cs.length c])) (put7 wr (w.heap.size + 1) (TT.mk x.k x.n t f a c cs))) := by
        have hk := put7_kept (w := wr) (J := w.heap.size + 1) (x := TT.mk x.k x.n t f a c cs)
        refine ⟨TT.mk x.k x.n t f a c cs, rfl, htm, hti.1.keptR hk (hbl.mono fun b hb => by omega), hbl.mono fun b hb => by omega, ?_⟩
        exact HC.out.low.trans ((hk.below (by simp) (Nat.le_of_lt hzr.lt)).mono (by omega))
      obtain ⟨e0, e1, e2, e3, e4, e5, e6⟩ := (put7_box (x := TT.mk x.k x.n t f a c cs) hzr.box).at7
      simp only [Nat.zero_add] at e0 e1 e2 e3 e4 e5 e6
      obtain ⟨q0, q1, q2, q3, q4, q5, q6⟩ := hbx.at7
      simp only [Nat.zero_add] at q0 q1 q2 q3 q4 q5 q6
      obtain ⟨⟨y0, y1, y2, y3, y4, y5, y6⟩, f0, f1, f2, f3, f4, f5, f6⟩ := hzr
      clear HC hbx hti hbl htm htree hv' hv ih HW HTY HG
      go_wp2_with fail
      refine bodyPost_ret (v := .agg #[.int .i64 x.k, .int .i64 x.n, .int .i64 t.k, .slice t.a t.l.length t.c, .int .i64 f.k, .slice f.a f.l.length f.c, .slice a cs.length c]) ?_ rfl HN.out
      unfold put7 at e0 e1 e2 e3 e4 e5 e6
      simp [results, Tryz.results6, go_sem, e0, e1, e2, e3, e4, e5, e6]

/-- chaperoneref.CopyTerm. -/
theorem copyTm_any : ∀ (x : TT) (w : World), x.In w → x.lw → x.csz → Calls Tryz.prog 6 #[.agg #[.int .i64 x.k, .int .i64 x.n, .int .i64 x.t.k, .slice x.t.a x.t.l.length x.t.c, .int .i64 x.f.k, .slice x.f.a x.f.l.length x.f.c, .slice x.a x.l.length x.c]] w (MadeT x.tm w) := by
  intro x
  induction x using TT.ind with
  | h k n t f a c l ih =>
    intro w hx hl hc
    exact copyTm_step ⟨k, n, t, f, a, c, l⟩ a rfl w hx hl hc (fun j hj w h1 => ih _ (List.getElem_mem hj) w h1 (hl.mem (List.getElem_mem hj)) (hc.mem (List.getElem_mem hj)))
end Go.Proofs.YtnddkmccagiclaaGreatDoor

/-
  What the call of chaperoneref.SameTerm answers at any two terms that lie in memory.
-/
namespace Go.Proofs.YtnddkmccagiclaaGreatDoor
open Go.RowKit

theorem relY_eq : ∀ t u : Ty, relY escSame t u = true → t = u := by
  intro t
  induction t using Ty.ind with
  | h k l ih =>
    intro u h
    obtain ⟨k', l'⟩ := u
    rw [relY_mk] at h
    simp only [escSame, Bool.false_or, Bool.and_eq_true, beq_iff_eq] at h
    obtain ⟨rfl, h⟩ := h
    have hl := relL_len escSame l l' h
    have : l = l' := by
      refine List.ext_getElem hl fun j h1 h2 => ih _ (List.getElem_mem h1) _ ?_
      by_cases hr : relY escSame l[j] l'[j] = true
      · exact hr
      · have := relL_not escSame l l' j h1 h2 (by simpa using hr)
        rw [this] at h; cases h
    rw [this]

theorem tm_of_parts {x y : TT} (hk : x.k = y.k) (hn : x.n = y.n) (ht : x.t.ty = y.t.ty) (hf : x.f.ty = y.f.ty) (hl : x.l.length = y.l.length) (hp : ∀ j (h : j < x.l.length) (h' : j < y.l.length), x.l[j].tm = y.l[j].tm) : x.tm = y.tm := by
  obtain ⟨k, n, t, f, a, c, l⟩ := x
  obtain ⟨k', n', t', f', a', c', l'⟩ := y
  simp only at hk hn ht hf hl hp
  rw [TT.tm_mk, TT.tm_mk, hk, hn, ht, hf]
  congr 1
  exact List.ext_getElem (by simpa using hl) fun j h1 h2 => by
    rw [List.getElem_map, List.getElem_map]
    exact hp j (by simpa using h1) (by simpa using h2)

def AlikeTo (x y : TT) (j : Nat) (bb : Bool) : Prop := (bb = true → ∀ q (h : q < x.l.length) (h' : q < y.l.length), q < j → x.l[q].tm = y.l[q].tm) ∧ (bb = false → ¬ x.tm = y.tm)

set_option maxHeartbeats 4000000 in
theorem sameTerm_stepA (x y : TT) (w : World) (hx : x.In w) (hy : y.In w) (hlw : x.lw) (hts : x.tsm)
    (ih : Hid (∀ (j : Nat) (hj : j < x.l.length) (z : TT) (w : World), x.l[j].In w → z.In w → Calls Tryz.prog 14 #[.agg #[.int .i64 x.l[j].k, .int .i64 x.l[j].n, .int .i64 x.l[j].t.k, .slice x.l[j].t.a x.l[j].t.l.length x.l[j].t.c, .int .i64 x.l[j].f.k, .slice x.l[j].f.a x.l[j].f.l.length x.l[j].f.c, .slice x.l[j].a x.l[j].l.length x.l[j].c], .agg #[.int .i64 z.k, .int .i64 z.n, .int .i64 z.t.k, .slice z.t.a z.t.l.length z.t.c, .int .i64 z.f.k, .slice z.f.a z.f.l.length z.f.c, .slice z.a z.l.length z.c]] w (fun e w' => ∃ b : Bool, e = .returned (.bool b) ∧ (b = true ↔ x.l[j].tm = z.tm) ∧ Below w.heap.size w w'))) :
    Calls Tryz.prog 14 #[.agg #[.int .i64 x.k, .int .i64 x.n, .int .i64 x.t.k, .slice x.t.a x.t.l.length x.t.c, .int .i64 x.f.k, .slice x.f.a x.f.l.length x.f.c, .slice x.a x.l.length x.c], .agg #[.int .i64 y.k, .int .i64 y.n, .int .i64 y.t.k, .slice y.t.a y.t.l.length y.t.c, .int .i64 y.f.k, .slice y.f.a y.f.l.length y.f.c, .slice y.a y.l.length y.c]] w (fun e w' => ∃ b : Bool, e = .returned (.bool b) ∧ (b = true ↔ x.tm = y.tm) ∧ Below w.heap.size w w') := by
  have hlen := hlw.len
  obtain ⟨bt, hbt⟩ : ∃ bt, relY escSame x.t.ty y.t.ty = bt := ⟨_, rfl⟩
  obtain ⟨bf, hbf⟩ : ∃ bf, relY escSame x.f.ty y.f.ty = bf := ⟨_, rfl⟩
  have HT : Hid (∀ W, x.t.In W → y.t.In W → Calls Tryz.prog 27 #[.agg #[.int .i64 x.t.k, .slice x.t.a x.t.l.length x.t.c], .agg #[.int .i64 y.t.k, .slice y.t.a y.t.l.length y.t.c]] W fun e w' => e = .returned (.bool bt) ∧ Below W.heap.size W w') := by
    intro W h1 h2
    have := sameType_any _ x.t y.t W h1 h2 (Nat.le_refl _) hts.t
    rw [hbt] at this
    exact this
  have HF : Hid (∀ W, x.f.In W → y.f.In W → Calls Tryz.prog 27 #[.agg #[.int .i64 x.f.k, .slice x.f.a x.f.l.length x.f.c], .agg #[.int .i64 y.f.k, .slice y.f.a y.f.l.length y.f.c]] W fun e w' => e = .returned (.bool bf) ∧ Below W.heap.size W w') := by
    intro W h1 h2
    have := sameType_any _ x.f y.f W h1 h2 (Nat.le_refl _) hts.f
    rw [hbf] at this
    exact this
  have HB : Hid (∀ o o', Below w.heap.size w ((w.alloc o).alloc o')) := fun o o' => ((Below.refl _ _).alloc (Nat.le_refl _) _).alloc (by simp) _
  have HX : Hid (x.In w ∧ y.In w) := ⟨hx, hy⟩
  have HTY : Hid (relY escSame x.t.ty y.t.ty = bt ∧ relY escSame x.f.ty y.f.ty = bf) := ⟨hbt, hbf⟩
  clear hbt hbf hts hlw
  by_cases hk : x.k = y.k
  · have e1 : (x.k == y.k) = true := by simp [hk]
    have HK : Hid (x.k = y.k) := hk
    clear hk
    by_cases hn : x.n = y.n
    · have e2 : (x.n == y.n) = true := by simp [hn]
      have HNN : Hid (x.n = y.n) := hn
      clear hn
      go_enter Tryz.func14, Tryz.ntmps14
      go_wp2_with fail
      refine (HT.out _ (HX.out.1.below (HB.out _ _)).t (HX.out.2.below (HB.out _ _)).t).mono ?_
      rintro e w1 ⟨rfl, hb1⟩
      have hbw : Below w.heap.size w w1 := (HB.out _ _).trans (hb1.mono (by simp; omega))
      have q4 : w1.cell? ⟨w.heap.size, 4, none⟩ = some (.int .i64 x.f.k) := cell_later hb1 (by simp [go_sem])
      have q5 : w1.cell? ⟨w.heap.size, 5, none⟩ = some (.slice x.f.a x.f.l.length x.f.c) := cell_later hb1 (by simp [go_sem])
      have q6 : w1.cell? ⟨w.heap.size, 6, none⟩ = some (.slice x.a x.l.length x.c) := cell_later hb1 (by simp [go_sem])
      have p4 : w1.cell? ⟨w.heap.size + 1, 4, none⟩ = some (.int .i64 y.f.k) := cell_later hb1 (by simp [go_sem])
      have p5 : w1.cell? ⟨w.heap.size + 1, 5, none⟩ = some (.slice y.f.a y.f.l.length y.f.c) := cell_later hb1 (by simp [go_sem])
      have p6 : w1.cell? ⟨w.heap.size + 1, 6, none⟩ = some (.slice y.a y.l.length y.c) := cell_later hb1 (by simp [go_sem])
      clear hb1
      cases bt
      · have HNO : Hid (¬ x.tm = y.tm) := fun h => by
          have := HTY.out.1
          rw [(tm_parts h).2.2.2.1, relY_refl] at this
          cases this
        clear q4 q5 q6 p4 p5 p6 HT HF HX HTY
        go_wp2_with fail
        go_loopg [5, 6] 0 (fun g b i wr => g = 0 ∧ b = .bool false ∧ i = .int .i64 0 ∧ Below w.heap.size w wr)
        case atStart => exact ⟨rfl, rfl, rfl, hbw⟩
        case round =>
          obtain ⟨hg, rfl, rfl, hbwr⟩ := hrel
          clear hg
          go_wp2_with fail
          go_ret
          exact ⟨false, rfl, ⟨fun h => (by cases h), fun h => absurd h HNO.out⟩, hbwr⟩
      · go_wp2_with fail
        refine (HF.out _ (HX.out.1.below hbw).f (HX.out.2.below hbw).f).mono ?_
        rintro e w2 ⟨rfl, hb2⟩
        have hbz := hbw.trans (hb2.mono hbw.size)
        replace q6 := cell_later hb2 q6
        replace p6 := cell_later hb2 p6
        clear hb2 hbw q4 q5 p4 p5 HT HF
        cases bf
        · have HNO : Hid (¬ x.tm = y.tm) := fun h => by
            have := HTY.out.2
            rw [(tm_parts h).2.2.2.2.1, relY_refl] at this
            cases this
          clear q6 p6 HX HTY
          go_wp2_with fail
          go_loopg [5, 6] 0 (fun g b i wr => g = 0 ∧ b = .bool false ∧ i = .int .i64 0 ∧ Below w.heap.size w wr)
          case atStart => exact ⟨rfl, rfl, rfl, hbz⟩
          case round =>
            obtain ⟨hg, rfl, rfl, hbwr⟩ := hrel
            clear hg
            go_wp2_with fail
            go_ret
            exact ⟨false, rfl, ⟨fun h => (by cases h), fun h => absurd h HNO.out⟩, hbwr⟩
        · have HTF : Hid (x.t.ty = y.t.ty ∧ x.f.ty = y.f.ty) := ⟨relY_eq _ _ HTY.out.1, relY_eq _ _ HTY.out.2⟩
          clear HTY
          by_cases hl : x.l.length = y.l.length
          · have e3 : ((x.l.length : Int) == (y.l.length : Int)) = true := by simp [hl]
            have HP : Hid (x.l.length = y.l.length) := hl
            clear hl
            go_wp2_with fail
            go_loopg [5, 6] (x.l.length) (fun g b i wr => ∃ (j : Nat) (bb : Bool), Hid (AlikeTo x y j bb) ∧ Hid (x.l.length - j = g) ∧ j ≤ x.l.length ∧ b = .bool bb ∧ i = .int .i64 (j : Int) ∧ Below w.heap.size w wr ∧ wr.cell? ⟨w.heap.size, 6, none⟩ = some (.slice x.a x.l.length x.c) ∧ wr.cell? ⟨w.heap.size + 1, 6, none⟩ = some (.slice y.a y.l.length y.c))
            case atStart => exact ⟨0, true, ⟨fun _ q _ _ h => absurd h (by omega), fun h => (by cases h)⟩, rfl, Nat.zero_le _, rfl, rfl, hbz, q6, p6⟩
            case round =>
              obtain ⟨j, bb, HG, HGK, hj, rfl, rfl, hbwr, p1, p3⟩ := hrel
              cases bb
              · go_wp2_with fail
                refine bodyPost_ret (v := .bool false) ?_ rfl ⟨false, rfl, ⟨fun h => (by cases h), fun h => absurd h (HG.out.2 rfl)⟩, hbwr⟩
                simp [results, Tryz.results14, go_sem]
              · by_cases hlt : j < x.l.length
                · have hlt' : j < y.l.length := HP.out ▸ hlt
                  obtain ⟨b, o, ea, ⟨x0, x1, x2, x3, x4, x5, x6⟩, hxj⟩ := hx.part j hlt
                  obtain ⟨b', o', eb, ⟨y0, y1, y2, y3, y4, y5, y6⟩, hyj⟩ := hy.part j hlt'
                  have q1 : wr.cell? ⟨w.heap.size, 6, none⟩ = some (.slice (some ⟨b, o, none⟩) x.l.length x.c) := by rw [← ea]; exact p1
                  have q3 : wr.cell? ⟨w.heap.size + 1, 6, none⟩ = some (.slice (some ⟨b', o', none⟩) y.l.length y.c) := by rw [← eb]; exact p3
                  have HPP : Hid (wr.cell? ⟨w.heap.size, 6, none⟩ = some (.slice x.a x.l.length x.c) ∧ wr.cell? ⟨w.heap.size + 1, 6, none⟩ = some (.slice y.a y.l.length y.c)) := ⟨p1, p3⟩
                  replace x0 := cell_later hbwr x0
                  replace x1 := cell_later hbwr x1
                  replace x2 := cell_later hbwr x2
                  replace x3 := cell_later hbwr x3
                  replace x4 := cell_later hbwr x4
                  replace x5 := cell_later hbwr x5
                  replace x6 := cell_later hbwr x6
                  replace y0 := cell_later hbwr y0
                  replace y1 := cell_later hbwr y1
                  replace y2 := cell_later hbwr y2
                  replace y3 := cell_later hbwr y3
                  replace y4 := cell_later hbwr y4
                  replace y5 := cell_later hbwr y5
                  replace y6 := cell_later hbwr y6
                  have i1 : (j : Int) < (x.l.length : Int) := by omega
                  have i2 : (j : Int) < (y.l.length : Int) := by omega
                  have i0 : (0 : Int) ≤ (j : Int) := by omega
                  have HC : Hid (∀ (w : World), x.l[j].In w → y.l[j].In w → Calls Tryz.prog 14 #[.agg #[.int .i64 x.l[j].k, .int .i64 x.l[j].n, .int .i64 x.l[j].t.k, .slice x.l[j].t.a x.l[j].t.l.length x.l[j].t.c, .int .i64 x.l[j].f.k, .slice x.l[j].f.a x.l[j].f.l.length x.l[j].f.c, .slice x.l[j].a x.l[j].l.length x.l[j].c], .agg #[.int .i64 y.l[j].k, .int .i64 y.l[j].n, .int .i64 y.l[j].t.k, .slice y.l[j].t.a y.l[j].t.l.length y.l[j].t.c, .int .i64 y.l[j].f.k, .slice y.l[j].f.a y.l[j].f.l.length y.l[j].f.c, .slice y.l[j].a y.l[j].l.length y.l[j].c]] w (fun e w' => ∃ b : Bool, e = .returned (.bool b) ∧ (b = true ↔ x.l[j].tm = y.l[j].tm) ∧ Below w.heap.size w w')) := fun w h1 h2 => ih.out j hlt y.l[j] w h1 h2
                  clear p1 p3 ea eb hx hy HX HB
                  go_wp2_with fail
                  go_region_held3 (fun w' => w'.cell? ⟨w.heap.size, 6, none⟩ = some (.slice (some ⟨b, o, none⟩) x.l.length x.c) ∧ w'.cell? ⟨w.heap.size + 1, 6, none⟩ = some (.slice (some ⟨b', o', none⟩) y.l.length y.c) ∧ w'.cell? ⟨b, o + j * 7, none⟩ = some (.int .i64 x.l[j].k) ∧ w'.cell? ⟨b, o + j * 7 + 1, none⟩ = some (.int .i64 x.l[j].n) ∧ w'.cell? ⟨b, o + j * 7 + 2, none⟩ = some (.int .i64 x.l[j].t.k) ∧ w'.cell? ⟨b, o + j * 7 + 3, none⟩ = some (.slice x.l[j].t.a x.l[j].t.l.length x.l[j].t.c) ∧ w'.cell? ⟨b, o + j * 7 + 4, none⟩ = some (.int .i64 x.l[j].f.k) ∧ w'.cell? ⟨b, o + j * 7 + 5, none⟩ = some (.slice x.l[j].f.a x.l[j].f.l.length x.l[j].f.c) ∧ w'.cell? ⟨b, o + j * 7 + 6, none⟩ = some (.slice x.l[j].a x.l[j].l.length x.l[j].c) ∧ w'.cell? ⟨b', o' + j * 7, none⟩ = some (.int .i64 y.l[j].k) ∧ w'.cell? ⟨b', o' + j * 7 + 1, none⟩ = some (.int .i64 y.l[j].n) ∧ w'.cell? ⟨b', o' + j * 7 + 2, none⟩ = some (.int .i64 y.l[j].t.k) ∧ w'.cell? ⟨b', o' + j * 7 + 3, none⟩ = some (.slice y.l[j].t.a y.l[j].t.l.length y.l[j].t.c) ∧ w'.cell? ⟨b', o' + j * 7 + 4, none⟩ = some (.int .i64 y.l[j].f.k) ∧ w'.cell? ⟨b', o' + j * 7 + 5, none⟩ = some (.slice y.l[j].f.a y.l[j].f.l.length y.l[j].f.c) ∧ w'.cell? ⟨b', o' + j * 7 + 6, none⟩ = some (.slice y.l[j].a y.l[j].l.length y.l[j].c))
                    (first | exact ⟨cell_later hb2 q1, cell_later hb2 q3, cell_later hb2 x0, cell_later hb2 x1, cell_later hb2 x2, cell_later hb2 x3, cell_later hb2 x4, cell_later hb2 x5, cell_later hb2 x6, cell_later hb2 y0, cell_later hb2 y1, cell_later hb2 y2, cell_later hb2 y3, cell_later hb2 y4, cell_later hb2 y5, cell_later hb2 y6⟩ | go_keep)
                    (first | (go_at_call 14; refine (HC.out _ (hxj.below hbwr.drew) (hyj.below hbwr.drew)).mono ?_; rintro e w2 ⟨br, rfl, hbr, hb2⟩))
                  have HR : Hid (AlikeTo x y (j + 1) br) := by
                    refine ⟨fun h q h1 h2 h3 => ?_, fun h he => ?_⟩
                    · by_cases hq : q < j
                      · exact HG.out.1 rfl q h1 h2 hq
                      · obtain rfl : q = j := by omega
                        exact hbr.1 h
                    · have h2 := (tm_parts he).2.2.2.2.2
                      have h3 := congrArg (fun l => l[j]?) h2
                      simp only [List.getElem?_map, List.getElem?_eq_getElem hlt, List.getElem?_eq_getElem hlt', Option.map_some, Option.some.injEq] at h3
                      rw [hbr.2 h3] at h
                      cases h
                  clear hbr
                  have hbr2 : Below w.heap.size w w2 := hbwr.drew.trans (hb2.mono hbwr.size)
                  have s1 := cell_later hb2 HPP.out.1
                  have s3 := cell_later hb2 HPP.out.2
                  clear hb2 q1 q3 x0 x1 x2 x3 x4 x5 x6 y0 y1 y2 y3 y4 y5 y6 HC HPP
                  go_wp2_with fail
                  go_roundg (x.l.length - (j + 1))
                  case measure => have := HGK.out; omega
                  case rel => exact ⟨j + 1, br, HR, rfl, by omega, rfl, by go_num, hbr2, s1, s3⟩
                · go_wp2_with fail
                  refine bodyPost_ret (v := .bool true) ?_ rfl ⟨true, rfl, ⟨fun _ => tm_of_parts HK.out HNN.out HTF.out.1 HTF.out.2 HP.out fun q h h' => HG.out.1 rfl q h h' (by omega), fun _ => rfl⟩, hbwr⟩
                  simp [results, Tryz.results14, go_sem]
          · have e3 : ((x.l.length : Int) == (y.l.length : Int)) = false := by
              have : ¬ (x.l.length : Int) = (y.l.length : Int) := by omega
              simpa using this
            have HNO : Hid (¬ x.tm = y.tm) := fun h => hl (tm_parts h).2.2.1
            clear hl HX
            go_wp2_with fail
            go_loopg [5, 6] 0 (fun g b i wr => g = 0 ∧ b = .bool false ∧ i = .int .i64 0 ∧ Below w.heap.size w wr)
            case atStart => exact ⟨rfl, rfl, rfl, hbz⟩
            case round =>
              obtain ⟨hg, rfl, rfl, hbwr⟩ := hrel
              clear hg
              go_wp2_with fail
              go_ret
              exact ⟨false, rfl, ⟨fun h => (by cases h), fun h => absurd h HNO.out⟩, hbwr⟩
    · have e2 : (x.n == y.n) = false := by simpa using hn
      have HNO : Hid (¬ x.tm = y.tm) := fun h => hn (tm_parts h).2.1
      have hbw := HB.out
      clear hn HT HF HX HTY HK hx hy
      go_enter Tryz.func14, Tryz.ntmps14
      go_wp2_with fail
      go_loopg [5, 6] 0 (fun g b i wr => g = 0 ∧ b = .bool false ∧ i = .int .i64 0 ∧ Below w.heap.size w wr)
      case atStart => exact ⟨rfl, rfl, rfl, hbw _ _⟩
      case round =>
        obtain ⟨hg, rfl, rfl, hbwr⟩ := hrel
        clear hg
        go_wp2_with fail
        go_ret
        exact ⟨false, rfl, ⟨fun h => (by cases h), fun h => absurd h HNO.out⟩, hbwr⟩
  · have e1 : (x.k == y.k) = false := by simpa using hk
    have HNO : Hid (¬ x.tm = y.tm) := fun h => hk (tm_parts h).1
    have hbw := HB.out
    clear hk HT HF HX HTY hx hy
    go_enter Tryz.func14, Tryz.ntmps14
    go_wp2_with fail
    go_loopg [5, 6] 0 (fun g b i wr => g = 0 ∧ b = .bool false ∧ i = .int .i64 0 ∧ Below w.heap.size w wr)
    case atStart => exact ⟨rfl, rfl, rfl, hbw _ _⟩
    case round =>
      obtain ⟨hg, rfl, rfl, hbwr⟩ := hrel
      clear hg
      go_wp2_with fail
      go_ret
      exact ⟨false, rfl, ⟨fun h => (by cases h), fun h => absurd h HNO.out⟩, hbwr⟩


/-- chaperoneref.SameTerm. -/
theorem sameTerm_any : ∀ (x y : TT) (w : World), x.In w → y.In w → x.lw → x.tsm → Calls Tryz.prog 14 #[.agg #[.int .i64 x.k, .int .i64 x.n, .int .i64 x.t.k, .slice x.t.a x.t.l.length x.t.c, .int .i64 x.f.k, .slice x.f.a x.f.l.length x.f.c, .slice x.a x.l.length x.c], .agg #[.int .i64 y.k, .int .i64 y.n, .int .i64 y.t.k, .slice y.t.a y.t.l.length y.t.c, .int .i64 y.f.k, .slice y.f.a y.f.l.length y.f.c, .slice y.a y.l.length y.c]] w (fun e w' => ∃ b : Bool, e = .returned (.bool b) ∧ (b = true ↔ x.tm = y.tm) ∧ Below w.heap.size w w') := by
  intro x
  induction x using TT.ind with
  | h k n t f a c l ih =>
    intro y w hx hy hl ht
    exact sameTerm_stepA ⟨k, n, t, f, a, c, l⟩ y w hx hy hl ht (fun j hj z w h1 h2 => ih _ (List.getElem_mem hj) z w h1 h2 (hl.mem (List.getElem_mem hj)) (ht.mem (List.getElem_mem hj)))
end Go.Proofs.YtnddkmccagiclaaGreatDoor

/-
  A list of pairs of trees behind a pointer, and how it grows while calls go on; no program in it but the call of (*later).put.
-/
namespace Go.Proofs.YtnddkmccagiclaaGreatDoor
open Go.RowKit

/-- It lies in the world, in blocks below B. -/
def Tr.At (B : Nat) (w : World) (t : Tr) : Prop := t.In w ∧ t.Bl (· < B)

theorem Tr.At.below {B : Nat} {w w' : World} {t : Tr} (h : t.At B w) (hb : Below B w w') : t.At B w' :=
  ⟨h.1.congr (P := (· < B)) (fun b hl o => hb.cell (p := ⟨b, o, none⟩) hl) h.2, h.2⟩

theorem Tr.Bl.part {P : Nat → Prop} {t : Tr} (h : t.Bl P) (j : Nat) (hj : j < t.l.length) : t.l[j].Bl P := by
  obtain ⟨k, a, c, l⟩ := t
  exact (Tr.Bl_mk.1 h).2 _ (List.getElem_mem hj)

theorem Tr.Bl.head {P : Nat → Prop} {t : Tr} (h : t.Bl P) (j : Nat) (hj : j < t.l.length) {b o : Nat} (ha : t.a = some ⟨b, o, none⟩) : P b := by
  obtain ⟨k, a, c, l⟩ := t
  exact (Tr.Bl_mk.1 h).1 (fun e => by dsimp only at hj; rw [e] at hj; simp at hj) _ ha

/-- Part j, its cells, and its block. -/
theorem Tr.At.part {B : Nat} {w : World} {t : Tr} (h : t.At B w) (j : Nat) (hj : j < t.l.length) : ∃ b o, b < B ∧ t.a = some ⟨b, o, none⟩ ∧ w.cell? ⟨b, o + j * 2, none⟩ = some (.int .i64 t.l[j].k) ∧ w.cell? ⟨b, o + j * 2 + 1, none⟩ = some (.slice t.l[j].a t.l[j].l.length t.l[j].c) ∧ t.l[j].At B w := by
  obtain ⟨b, o, ea, c0, c1, hi⟩ := h.1.part j hj
  exact ⟨b, o, h.2.head j hj ea, ea, c0, c1, hi, h.2.part j hj⟩

/-- Two trees that are gone through side by side, and where what comes of them belongs. -/
structure GPr where
  x : Tr
  y : Tr
  p : Option Addr

def GPr.cells (q : GPr) : List Value := [.int .i64 q.x.k, .slice q.x.a q.x.l.length q.x.c, .int .i64 q.y.k, .slice q.y.a q.y.l.length q.y.c, .pointer q.p]

def prCells : List GPr → List Value
  | [] => []
  | q :: r => q.cells ++ prCells r

theorem prCells_append : ∀ l r : List GPr, prCells (l ++ r) = prCells l ++ prCells r
  | [], r => rfl
  | t :: l, r => by simp only [List.cons_append, prCells, prCells_append l r, List.append_assoc]

theorem prCells_length : ∀ l : List GPr, (prCells l).length = l.length * 5
  | [] => rfl
  | t :: r => by simp only [prCells, GPr.cells, List.length_append, List.length_cons, List.length_nil, prCells_length r]; omega

/-- How many nodes the first trees have. -/
def szs (qs : List GPr) : Nat := (qs.map fun q => q.x.sz).sum

theorem szs_append (l r : List GPr) : szs (l ++ r) = szs l + szs r := by simp [szs]
theorem szs_nil : szs [] = 0 := rfl
theorem szs_one (q : GPr) : szs [q] = q.x.sz := by simp [szs]
theorem szs_len : ∀ l : List GPr, l.length ≤ szs l
  | [] => Nat.zero_le _
  | q :: r => by
    have h1 := szs_len r
    have h2 := q.x.sz_pos
    simp only [szs, List.map_cons, List.sum_cons, List.length_cons] at h1 ⊢
    omega

/-- The list lies behind block R, its row in block o. -/
structure GLst (R : Nat) (qs : List GPr) (o : Option Nat) (w : World) : Prop where
  ex : ∃ v, w.cell? ⟨R, 0, none⟩ = some v ∧ w.ownsRow (R + 1) 168 5 v qs.length (prCells qs) ∧ v.ownBlock = o
  fz : w.frozen? ⟨R, 0, none⟩ = false

/-- The row's block is the one that it was, or a new one. -/
def GGrew (o o' : Option Nat) (w : World) : Prop := o' = o ∨ ∃ g, o' = some g ∧ w.heap.size ≤ g

theorem GLst.lt {R : Nat} {qs : List GPr} {o : Option Nat} {w : World} (h : GLst R qs o w) : R < w.heap.size := by
  obtain ⟨⟨v, hc, _⟩, _⟩ := h
  exact World.block_lt_of_cell? _ _ hc

theorem GLst.own {R : Nat} {qs : List GPr} {o : Option Nat} {w : World} (h : GLst R qs o w) : ∀ g, o = some g → R < g ∧ g < w.heap.size := by
  obtain ⟨⟨v, hc, ho, rfl⟩, _⟩ := h
  intro g hg
  have := ho.lt g hg
  omega

theorem g_ownsRow_below {w w' : World} {base : Nat} {e : TypeId} {size : Nat} {v : Value} {n : Nat} {xs : List Value} (h : w.ownsRow base e size v n xs) (hb : Below w.heap.size w w') : w'.ownsRow base e size v n xs := by
  refine ⟨h.1, ?_⟩
  rcases h.2 with hn | ⟨g, cap, cur, rfl, h1, hgg, rest⟩
  · exact .inl hn
  · exact .inr ⟨g, cap, cur, rfl, h1, by rw [hb.block g (Array.getElem?_eq_some_iff.1 hgg).1]; exact hgg, rest⟩

theorem GLst.below {R : Nat} {qs : List GPr} {o : Option Nat} {w w' : World} (h : GLst R qs o w) (hb : Below w.heap.size w w') : GLst R qs o w' := by
  have hl := h.lt
  obtain ⟨⟨v, hc, ho, e⟩, hf⟩ := h
  exact ⟨⟨v, cell_later hb hc, g_ownsRow_below ho hb, e⟩, (hb.frozen (p := ⟨R, 0, none⟩) hl).trans hf⟩

theorem Kept.gof_below {R : Nat} {o : Option Nat} {w w' : World} (h : Below w.heap.size w w') : Kept R o w w' :=
  ⟨h.os, h.tape, h.output, h.size, fun k hk _ _ => h.block k hk⟩

theorem Kept.gtrans {R : Nat} {o o' : Option Nat} {w w1 w2 : World} (h : Kept R o w w1) (g : GGrew o o' w) (h' : Kept R o' w1 w2) : Kept R o w w2 := by
  have hs := h.size
  refine ⟨h'.os.trans h.os, h'.tape.trans h.tape, h'.output.trans h.output, Nat.le_trans h.size h'.size, fun k hk h1 h2 => (h'.block k (by omega) h1 ?_).trans (h.block k hk h1 h2)⟩
  rcases g with rfl | ⟨g, rfl, hg⟩
  · exact h2
  · simp only [ne_eq, Option.some.injEq]; omega

theorem GGrew.trans {o o' o'' : Option Nat} {w w1 : World} (h : GGrew o o' w) (h' : GGrew o' o'' w1) (hs : w.heap.size ≤ w1.heap.size) : GGrew o o'' w := by
  rcases h' with rfl | ⟨g, rfl, hg⟩
  · exact h
  · exact .inr ⟨g, rfl, by omega⟩

theorem GGrew.later {o o' : Option Nat} {w w1 : World} (h : GGrew o o' w1) (hs : w.heap.size ≤ w1.heap.size) : GGrew o o' w := by
  rcases h with rfl | ⟨g, rfl, hg⟩
  · exact .inl rfl
  · exact .inr ⟨g, rfl, by omega⟩

theorem Kept.gcell {R : Nat} {o : Option Nat} {w w' : World} (h : Kept R o w w') {b i : Nat} {v : Value} (hc : w.cell? ⟨b, i, none⟩ = some v) (h1 : b ≠ R) (h2 : some b ≠ o) : w'.cell? ⟨b, i, none⟩ = some v :=
  (World.cell?_of_block (a := ⟨b, i, none⟩) (h.block b (World.block_lt_of_cell? _ _ hc) h1 h2)).trans hc

/-- What lies below R is as it was. -/
theorem Kept.low {R B : Nat} {qs : List GPr} {o : Option Nat} {w w' : World} (h : Kept R o w w') (hl : GLst R qs o w) (hB : B ≤ R) : Below B w w' :=
  (h.below (fun g e => Nat.le_of_lt (hl.own g e).1) (Nat.le_of_lt hl.lt)).mono hB

/-- A block that was there ahead of the list's row is none of it. -/
theorem GGrew.ne {o o' : Option Nat} {w : World} {b : Nat} (h : GGrew o o' w) (hb : b < w.heap.size) (hn : some b ≠ o) : some b ≠ o' := by
  rcases h with rfl | ⟨g, rfl, hg⟩
  · exact hn
  · simp only [ne_eq, Option.some.injEq]; omega

/-- (*later).put. -/
theorem put_lst (R : Nat) (qs : List GPr) (o : Option Nat) (q : GPr) (w : World) (hl : GLst R qs o w) (hn : qs.length + 1 ≤ 1000000000) :
    Calls Tryz.prog 107 #[.pointer (some ⟨R, 0, none⟩), .agg #[.int .i64 q.x.k, .slice q.x.a q.x.l.length q.x.c, .int .i64 q.y.k, .slice q.y.a q.y.l.length q.y.c, .pointer q.p]] w fun e w' => e = .returned (.tuple #[]) ∧ ∃ o', GLst R (qs ++ [q]) o' w' ∧ GGrew o o' w ∧ Kept R o w w' := by
  obtain ⟨⟨v, hc, ho, rfl⟩, hf⟩ := hl
  refine (put_any R v qs.length (prCells qs) q.x.k q.y.k q.x.a q.y.a q.x.l.length q.y.l.length q.x.c q.y.c q.p w hc hf ho hn).mono ?_
  rintro e w' ⟨rfl, g, cap, h1, h2, h3, h4, h5⟩
  refine ⟨rfl, some g, ⟨⟨_, h1, ?_, rfl⟩, h2⟩, ?_, h5⟩
  · rw [prCells_append, List.length_append, List.length_singleton]
    exact h3
  · rcases h4 with h4 | h4
    · exact .inl h4.symm
    · exact .inr ⟨g, rfl, h4⟩

/-- The last pair of a list: its cells. -/
theorem GLst.last {R : Nat} {qs : List GPr} {q : GPr} {o : Option Nat} {w : World} (h : GLst R (qs ++ [q]) o w) :
    ∃ g cap, o = some g ∧ w.cell? ⟨R, 0, none⟩ = some (.slice (some ⟨g, 0, none⟩) (qs.length + 1) cap) ∧ qs.length + 1 ≤ cap ∧ w.ownsRow (R + 1) 168 5 (.slice (some ⟨g, 0, none⟩) qs.length cap) qs.length (prCells qs) ∧
      w.cell? ⟨g, qs.length * 5, none⟩ = some (.int .i64 q.x.k) ∧ w.cell? ⟨g, qs.length * 5 + 1, none⟩ = some (.slice q.x.a q.x.l.length q.x.c) ∧ w.cell? ⟨g, qs.length * 5 + 2, none⟩ = some (.int .i64 q.y.k) ∧ w.cell? ⟨g, qs.length * 5 + 3, none⟩ = some (.slice q.y.a q.y.l.length q.y.c) ∧ w.cell? ⟨g, qs.length * 5 + 4, none⟩ = some (.pointer q.p) := by
  obtain ⟨⟨v, hc, ho, rfl⟩, hf⟩ := h
  rw [List.length_append, List.length_singleton, prCells_append] at ho
  rcases ho.2 with ⟨_, h0⟩ | ⟨g, cap, cur, rfl, hg, _, hcap, _⟩
  · omega
  · have hlen := prCells_length qs
    have hj : ∀ j, j < 5 → w.cell? ⟨g, qs.length * 5 + j, none⟩ = q.cells[j]? := by
      intro j hj
      rw [ho.cellAt (qs.length * 5 + j) (by omega), List.getElem?_append_right (by omega), hlen, Nat.add_sub_cancel_left]
      simp only [prCells, List.append_nil]
    refine ⟨g, cap, rfl, hc, hcap, ownsRow_pop (by omega) ho, ?_, ?_, ?_, ?_, ?_⟩
    · exact hj 0 (by omega)
    · exact hj 1 (by omega)
    · exact hj 2 (by omega)
    · exact hj 3 (by omega)
    · exact hj 4 (by omega)
end Go.Proofs.YtnddkmccagiclaaGreatDoor

/-
  What a call that holds two trees against each other, and puts pairs off, leaves: the plain laws of it.
-/
namespace Go.Proofs.YtnddkmccagiclaaGreatDoor
open Go.RowKit

theorem Tr.At.back {B : Nat} {w w' : World} {t : Tr} (h : t.At B w') (hb : Below B w w') : t.At B w :=
  ⟨h.1.congr (P := (· < B)) (fun b hl o => (hb.cell (p := ⟨b, o, none⟩) hl).symm) h.2, h.2⟩

theorem Tr.gsz_eq (t : Tr) : t.sz = (t.l.map Tr.sz).sum + 1 := by cases t; rw [Tr.sz_mk]

theorem gsz_take (l : List Tr) (j : Nat) (h : j < l.length) : ((l.take (j + 1)).map Tr.sz).sum = ((l.take j).map Tr.sz).sum + l[j].sz := by
  rw [List.take_succ_eq_append_getElem h, List.map_append, List.sum_append]
  simp only [List.map_cons, List.map_nil, List.sum_cons, List.sum_nil, Nat.add_zero]

theorem gsz_take_le : ∀ (l : List Tr) (j : Nat), ((l.take j).map Tr.sz).sum ≤ (l.map Tr.sz).sum
  | [], j => by simp
  | t :: r, 0 => by simp
  | t :: r, j + 1 => by
    have := gsz_take_le r j
    simp only [List.take_succ_cons, List.map_cons, List.sum_cons]; omega

theorem glen_sz : ∀ (l : List Tr), l.length ≤ (l.map Tr.sz).sum
  | [] => Nat.zero_le _
  | t :: r => by
    have h1 := glen_sz r
    have h2 := t.sz_pos
    simp only [List.map_cons, List.sum_cons, List.length_cons]; omega

/-- What the call has left: its answer, and the pairs that it has put off. -/
structure GRelS (esc : Int → Int → Bool) (R B n : Nat) (x y : Tr) (ps : List GPr) (o : Option Nat) (w : World) (r : Bool) (qs : List GPr) (o' : Option Nat) (w' : World) : Prop where
  l : GLst R (ps ++ qs) o' w'
  g : GGrew o o' w
  k : Kept R o w w'
  q : ∀ q, q ∈ qs → q.p = none ∧ q.x.At B w ∧ q.y.At B w
  s : szs qs + min n 1 ≤ x.sz
  i : relY esc x.ty y.ty = true ↔ r = true ∧ ∀ q, q ∈ qs → relY esc q.x.ty q.y.ty = true

def GRel (esc : Int → Int → Bool) (R B n : Nat) (x y : Tr) (ps : List GPr) (o : Option Nat) (w : World) (e : Ending) (w' : World) : Prop :=
  ∃ (r : Bool) (qs : List GPr) (o' : Option Nat), e = .returned (.bool r) ∧ GRelS esc R B n x y ps o w r qs o' w'

/-- While the parts are gone through. -/
structure GProg (esc : Int → Int → Bool) (R B : Nat) (x y : Tr) (j : Nat) (ps qs : List GPr) (o o' : Option Nat) (w wr : World) : Prop where
  l : GLst R (ps ++ qs) o' wr
  g : GGrew o o' w
  k : Kept R o w wr
  q : ∀ q, q ∈ qs → q.p = none ∧ q.x.At B w ∧ q.y.At B w
  s : szs qs ≤ ((x.l.take j).map Tr.sz).sum
  i : (∀ q, q ∈ qs → relY esc q.x.ty q.y.ty = true) ↔ ∀ i (h : i < x.l.length) (h' : i < y.l.length), i < j → relY esc x.l[i].ty y.l[i].ty = true

theorem GProg.start {esc : Int → Int → Bool} {R B : Nat} {x y : Tr} {ps : List GPr} {o : Option Nat} {w : World} (hl : GLst R ps o w) : GProg esc R B x y 0 ps [] o o w w :=
  ⟨by simpa using hl, .inl rfl, Kept.gof_below (Below.refl _ _), fun q h => (by cases h), by simp [szs], ⟨fun _ i _ _ h => absurd h (by omega), fun _ q h => by cases h⟩⟩

theorem GProg.more {esc : Int → Int → Bool} {R B n : Nat} {x y : Tr} {j : Nat} {ps qs qs2 : List GPr} {o o' o2 : Option Nat} {w wr w2 : World} (h : GProg esc R B x y j ps qs o o' w wr) (hB : B ≤ R) (hL : GLst R ps o w) (hj : j < x.l.length) {r : Bool} (hr : GRelS esc R B n x.l[j] (y.l[j]?.getD x) (ps ++ qs) o' wr.drew r qs2 o2 w2) :
    GLst R (ps ++ (qs ++ qs2)) o2 w2 ∧ GGrew o o2 w ∧ Kept R o w w2 ∧ (∀ q, q ∈ qs ++ qs2 → q.p = none ∧ q.x.At B w ∧ q.y.At B w) ∧ szs (qs ++ qs2) ≤ ((x.l.take (j + 1)).map Tr.sz).sum := by
  have hb : Below B w wr.drew := (h.k.low hL hB).drew
  refine ⟨by rw [← List.append_assoc]; exact hr.l, h.g.trans hr.g h.k.size, h.k.gtrans h.g ⟨hr.k.os, hr.k.tape, hr.k.output, hr.k.size, hr.k.block⟩, fun q hq => ?_, ?_⟩
  · rcases List.mem_append.1 hq with hq | hq
    · exact h.q q hq
    · obtain ⟨h1, h2, h3⟩ := hr.q q hq
      exact ⟨h1, h2.back hb, h3.back hb⟩
  · rw [szs_append, gsz_take _ _ hj]
    have h1 := h.s
    have h2 := hr.s
    omega

theorem GProg.step {esc : Int → Int → Bool} {R B n : Nat} {x y : Tr} {j : Nat} {ps qs qs2 : List GPr} {o o' o2 : Option Nat} {w wr w2 : World} (h : GProg esc R B x y j ps qs o o' w wr) (hB : B ≤ R) (hL : GLst R ps o w) (hj : j < x.l.length) (hj' : j < y.l.length) (hr : GRelS esc R B n x.l[j] y.l[j] (ps ++ qs) o' wr.drew true qs2 o2 w2) :
    GProg esc R B x y (j + 1) ps (qs ++ qs2) o o2 w w2 := by
  have hm := h.more hB hL hj (r := true) (n := n) (qs2 := qs2) (o2 := o2) (w2 := w2) (by simpa [List.getElem?_eq_getElem hj'] using hr)
  refine ⟨hm.1, hm.2.1, hm.2.2.1, hm.2.2.2.1, hm.2.2.2.2, fun hq i h1 h2 hi => ?_, fun hi q hq => ?_⟩
  · by_cases e : i = j
    · subst e
      exact hr.i.2 ⟨rfl, fun q h => hq q (List.mem_append_right _ h)⟩
    · exact h.i.1 (fun q h => hq q (List.mem_append_left _ h)) i h1 h2 (by omega)
  · rcases List.mem_append.1 hq with hq | hq
    · exact h.i.2 (fun i h1 h2 h3 => hi i h1 h2 (by omega)) q hq
    · exact (hr.i.1 (hi j hj hj' (by omega))).2 q hq

theorem GProg.no {esc : Int → Int → Bool} {R B n : Nat} {x y : Tr} {j : Nat} {ps qs qs2 : List GPr} {o o' o2 : Option Nat} {w0 w wr w2 : World} (h : GProg esc R B x y j ps qs o o' w wr) (hB : B ≤ R) (hL0 : GLst R ps o w0) (hb : Below w0.heap.size w0 w) (he : esc x.k y.k = false) (hj : j < x.l.length) (hj' : j < y.l.length) (hr : GRelS esc R B n x.l[j] y.l[j] (ps ++ qs) o' wr.drew false qs2 o2 w2) :
    GRelS esc R B (n + 1) x y ps o w0 false (qs ++ qs2) o2 w2 := by
  have hL := hL0.below hb
  have hm := h.more hB hL hj (r := false) (n := n) (qs2 := qs2) (o2 := o2) (w2 := w2) (by simpa [List.getElem?_eq_getElem hj'] using hr)
  have hbB : Below B w0 w := hb.mono (by have := hL0.lt; omega)
  refine ⟨hm.1, hm.2.1.later hb.size, (Kept.gof_below hb).gtrans (.inl rfl) hm.2.2.1, fun q hq => ?_, ?_, ?_⟩
  · obtain ⟨h1, h2, h3⟩ := hm.2.2.2.1 q hq
    exact ⟨h1, h2.back hbB, h3.back hbB⟩
  · have h1 := gsz_take_le x.l (j + 1)
    have h2 := x.gsz_eq
    have h3 := hm.2.2.2.2
    omega
  · have hf : relY esc x.l[j].ty y.l[j].ty = false := by
      cases hh : relY esc x.l[j].ty y.l[j].ty with
      | false => rfl
      | true => exact absurd (hr.i.1 hh).1 (by simp)
    rw [relY_part_not esc x y he j hj hj' hf]
    simp

theorem GProg.yes {esc : Int → Int → Bool} {R B n : Nat} {x y : Tr} {j : Nat} {ps qs : List GPr} {o o' : Option Nat} {w0 w wr : World} (h : GProg esc R B x y j ps qs o o' w wr) (hB : B ≤ R) (hL0 : GLst R ps o w0) (hb : Below w0.heap.size w0 w) (he : esc x.k y.k = false) (hk : x.k = y.k) (hl : x.l.length = y.l.length) (hj : x.l.length ≤ j) :
    GRelS esc R B (n + 1) x y ps o w0 true qs o' wr := by
  have hbB : Below B w0 w := hb.mono (by have := hL0.lt; omega)
  refine ⟨h.l, h.g.later hb.size, (Kept.gof_below hb).gtrans (.inl rfl) h.k, fun q hq => ?_, ?_, ?_⟩
  · obtain ⟨h1, h2, h3⟩ := h.q q hq
    exact ⟨h1, h2.back hbB, h3.back hbB⟩
  · have h1 := gsz_take_le x.l j
    have h2 := x.gsz_eq
    have h3 := h.s
    omega
  · refine ⟨fun hr => ⟨rfl, h.i.2 fun i h1 h2 _ => ?_⟩, fun hq => relY_parts esc x y hk hl fun q h1 h2 => h.i.1 hq.2 q h1 h2 (by omega)⟩
    cases hh : relY esc x.l[i].ty y.l[i].ty with
    | true => rfl
    | false =>
      have := relY_part_not esc x y he i h1 h2 hh
      rw [hr] at this
      cases this

theorem GRelS.empty {esc : Int → Int → Bool} {R B n : Nat} {x y : Tr} {ps : List GPr} {o : Option Nat} {w w' : World} {r : Bool} (hL : GLst R ps o w) (hb : Below w.heap.size w w') (hr : relY esc x.ty y.ty = r) : GRelS esc R B n x y ps o w r [] o w' := by
  refine ⟨by simpa using hL.below hb, .inl rfl, Kept.gof_below hb, fun q h => (by cases h), ?_, ?_⟩
  · have := x.sz_pos
    simp only [szs_nil]; omega
  · rw [hr]
    exact ⟨fun h => ⟨h, fun q h => (by cases h)⟩, fun h => h.1⟩

theorem GRelS.off {esc : Int → Int → Bool} {R B : Nat} {x y : Tr} {ps : List GPr} {o o' : Option Nat} {w w0 w' : World} (hb : Below w.heap.size w w0) (hl : GLst R (ps ++ [⟨x, y, none⟩]) o' w') (hg : GGrew o o' w0) (hk : Kept R o w0 w') (hx : x.At B w) (hy : y.At B w) : GRelS esc R B 0 x y ps o w true [⟨x, y, none⟩] o' w' := by
  refine ⟨hl, hg.later hb.size, (Kept.gof_below hb).gtrans (.inl rfl) hk, fun q h => ?_, by simp [szs_one], ⟨fun h => ⟨rfl, fun q hq => ?_⟩, fun h => ?_⟩⟩
  · rcases List.mem_singleton.1 h with rfl
    exact ⟨rfl, hx, hy⟩
  · rcases List.mem_singleton.1 hq with rfl
    exact h
  · exact h.2 _ (List.mem_singleton.2 rfl)
end Go.Proofs.YtnddkmccagiclaaGreatDoor

/-
  The calls of (*later).empty and (*later).take at a list of pairs of trees.
-/
namespace Go.Proofs.YtnddkmccagiclaaGreatDoor
open Go.RowKit

theorem empty_yes (R : Nat) (o : Option Nat) (w : World) (hl : GLst R [] o w) : Calls Tryz.prog 108 #[.pointer (some ⟨R, 0, none⟩)] w fun e w' => e = .returned (.bool true) ∧ w' = w := by
  obtain ⟨⟨v, hc, ho, _⟩, _⟩ := hl
  rcases ho.2 with ⟨rfl, _⟩ | ⟨g, cap, cur, rfl, _⟩
  · exact empty_any R none 0 0 w hc
  · exact empty_any R _ 0 cap w hc

theorem empty_no (R : Nat) (qs : List GPr) (q : GPr) (o : Option Nat) (w : World) (hl : GLst R (qs ++ [q]) o w) : Calls Tryz.prog 108 #[.pointer (some ⟨R, 0, none⟩)] w fun e w' => e = .returned (.bool false) ∧ w' = w := by
  obtain ⟨g, cap, _, hc, _⟩ := hl.last
  have e : (((qs.length + 1 : Nat) : Int) == 0) = false := by simp; omega
  have h := empty_any R _ (qs.length + 1) cap w hc
  rw [e] at h
  exact h

/-- (*later).take. -/
theorem take_lst (R : Nat) (qs : List GPr) (q : GPr) (o : Option Nat) (w : World) (hl : GLst R (qs ++ [q]) o w) (hn : qs.length ≤ 1000000000) :
    Calls Tryz.prog 110 #[.pointer (some ⟨R, 0, none⟩)] w fun e w' => e = .returned (.agg #[.int .i64 q.x.k, .slice q.x.a q.x.l.length q.x.c, .int .i64 q.y.k, .slice q.y.a q.y.l.length q.y.c, .pointer q.p]) ∧ GLst R qs o w' ∧ Kept R none w w' := by
  obtain ⟨g, cap, rfl, hc, hcap, ho, c0, c1, c2, c3, c4⟩ := hl.last
  refine (take_any R g qs.length cap q.x.k q.y.k q.x.a q.y.a q.x.l.length q.y.l.length q.x.c q.y.c q.p w hc hl.fz hcap (by omega) c0 c1 c2 c3 c4).mono ?_
  rintro e w' ⟨rfl, rfl⟩
  have hb : Below (w.setCell ⟨R, 0, none⟩ (.slice (some ⟨g, 0, none⟩) qs.length cap)).heap.size (w.setCell ⟨R, 0, none⟩ (.slice (some ⟨g, 0, none⟩) qs.length cap)) (((w.setCell ⟨R, 0, none⟩ (.slice (some ⟨g, 0, none⟩) qs.length cap)).alloc (.cells #[.int .i64 q.x.k, .slice q.x.a q.x.l.length q.x.c, .int .i64 q.y.k, .slice q.y.a q.y.l.length q.y.c, .pointer q.p] 168)).alloc (.cells #[.int .i64 q.x.k, .slice q.x.a q.x.l.length q.x.c, .int .i64 q.y.k, .slice q.y.a q.y.l.length q.y.c, .pointer q.p] 168)) := ((Below.refl _ _).alloc (Nat.le_refl _) _).alloc (by simp) _
  have h1 : GLst R qs (some g) (w.setCell ⟨R, 0, none⟩ (.slice (some ⟨g, 0, none⟩) qs.length cap)) :=
    ⟨⟨_, World.cell?_setCell_same _ _ _ hc, ownsRow_setCell_below ho (by simp) _, rfl⟩, by rw [World.frozen?_setCell]; exact hl.fz⟩
  have h2 : Kept R none w (w.setCell ⟨R, 0, none⟩ (.slice (some ⟨g, 0, none⟩) qs.length cap)) :=
    ⟨rfl, rfl, rfl, by simp [World.setCell], fun k _ h1 _ => Below.heap_setCell _ _ _ _ h1⟩
  exact ⟨rfl, h1.below hb, h2.gtrans (.inl rfl) (Kept.gof_below hb)⟩

/-- What is still to be looked at, while the pairs are taken one by one. -/
structure GTodo (esc : Int → Int → Bool) (R : Nat) (x y : Tr) (w : World) (k : Nat) (qs : List GPr) (o : Option Nat) (wr : World) : Prop where
  l : GLst R qs o wr
  s : szs qs = k
  z : k ≤ 1000000000
  q : ∀ q, q ∈ qs → q.p = none ∧ q.x.At w.heap.size w ∧ q.y.At w.heap.size w
  i : relY esc x.ty y.ty = true ↔ ∀ q, q ∈ qs → relY esc q.x.ty q.y.ty = true
  b : Below w.heap.size w wr

theorem GTodo.step {esc : Int → Int → Bool} {R n : Nat} {x y : Tr} {w : World} {k : Nat} {us : List GPr} {q : GPr} {o o2 : Option Nat} {wr w2 w3 w4 : World} {qs : List GPr} (h : GTodo esc R x y w k (us ++ [q]) o wr) (hR : w.heap.size ≤ R) (hk : Kept R none wr w2) (hb : Below w2.heap.size w2 w3) (hl3 : GLst R us o w3) (hr : GRelS esc R w.heap.size (n + 1) q.x q.y us o w3 true qs o2 w4) :
    GTodo esc R x y w (szs (us ++ qs)) (us ++ qs) o2 w4 ∧ szs (us ++ qs) < k := by
  have hs1 := h.s
  rw [szs_append, szs_one] at hs1
  have hs2 := hr.s
  have hz := h.z
  have hs3 : szs (us ++ qs) < k := by rw [szs_append]; omega
  have hlt := h.l.lt
  have hlt3 := hl3.lt
  have hss := hk.size
  have hb1 : Below w.heap.size wr w2 := (hk.below (fun g e => by cases e) (by omega)).mono hR
  have hbb : Below w.heap.size w w3 := h.b.trans (hb1.trans (hb.mono (by have := h.b.size; omega)))
  refine ⟨⟨hr.l, rfl, by omega, fun p hp => ?_, ?_, hbb.trans (hr.k.low hl3 hR)⟩, hs3⟩
  · rcases List.mem_append.1 hp with hp | hp
    · exact h.q p (List.mem_append_left _ hp)
    · obtain ⟨h1, h2, h3⟩ := hr.q p hp
      exact ⟨h1, h2.back hbb, h3.back hbb⟩
  · refine h.i.trans ⟨fun ha p hp => ?_, fun ha p hp => ?_⟩
    · rcases List.mem_append.1 hp with hp | hp
      · exact ha p (List.mem_append_left _ hp)
      · exact (hr.i.1 (ha q (by simp))).2 p hp
    · rcases List.mem_append.1 hp with hp | hp
      · exact ha p (List.mem_append_left _ hp)
      · rcases List.mem_singleton.1 hp with rfl
        exact hr.i.2 ⟨rfl, fun q hq => ha q (List.mem_append_right _ hq)⟩

theorem GTodo.no {esc : Int → Int → Bool} {R n : Nat} {x y : Tr} {w : World} {k : Nat} {us : List GPr} {q : GPr} {o o2 : Option Nat} {wr w2 w3 w4 : World} {qs : List GPr} (h : GTodo esc R x y w k (us ++ [q]) o wr) (hR : w.heap.size ≤ R) (hk : Kept R none wr w2) (hb : Below w2.heap.size w2 w3) (hl3 : GLst R us o w3) (hr : GRelS esc R w.heap.size (n + 1) q.x q.y us o w3 false qs o2 w4) :
    relY esc x.ty y.ty = false ∧ Below w.heap.size w w4 := by
  have hlt := h.l.lt
  have hss := hk.size
  have hb1 : Below w.heap.size wr w2 := (hk.below (fun g e => by cases e) (by omega)).mono hR
  have hbb : Below w.heap.size w w3 := h.b.trans (hb1.trans (hb.mono (by have := h.b.size; omega)))
  refine ⟨?_, hbb.trans (hr.k.low hl3 hR)⟩
  cases hh : relY esc x.ty y.ty with
  | false => rfl
  | true =>
    have := (hr.i.1 (h.i.1 hh q (by simp))).1
    cases this
end Go.Proofs.YtnddkmccagiclaaGreatDoor
