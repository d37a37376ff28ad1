/-
  What the call of chaperoneref.CopyTerm answers at a term that lies in memory: one alike, of new blocks alone.
-/
import Derived.Test.YtnddkmccagiclaaDoorLot38d13d156e
import Derived.Test.YtnddkmccagiclaaDoorLot61ee193e54
import Derived.Test.YtnddkmccagiclaaDoorLot85abe7a429
import Derived.Test.YtnddkmccagiclaaDoorLotdee32ab9f6
import Derived.Test.YtnddkmccagiclaaDoorLot03e384e275
import Derived.Test.YtnddkmccagiclaaDoorLot332df9f803
namespace Go.Proofs.YtnddkmccagiclaaDoor
open Go.RowKit
theorem TT.eta (x : TT) : TT.mk x.k x.n x.t x.f x.a x.c x.l = x := by cases x; rfl
/-- What a call that makes a term leaves. -/
def MadeT (T : Tm) (w : World) (e : Ending) (w' : World) : Prop :=
  ∃ y : TT, e = .returned (.agg #[.int .i64 y.k, .int .i64 y.n, .int .i64 y.t.k, .slice y.t.a y.t.l.length y.t.c, .int .i64 y.f.k, .slice y.f.a y.f.l.length y.f.c, .slice y.a y.l.length y.c]) ∧ y.tm = T ∧ y.In w' ∧ y.Bl (w.heap.size ≤ ·) ∧ Below w.heap.size w w'
set_option maxRecDepth 20000 in
set_option maxHeartbeats 4000000 in
theorem copyTm_step (x : TT) (A : Option Addr) (HA : Hid (A = x.a)) (w : World) (hx : x.In w) (hlw : x.lw) (hcs : x.csz)
    (ih : Hid (∀ (j : Nat) (hj : j < x.l.length) (w : World), x.l[j].In w → Calls Tryd.prog 12 #[.agg #[.int .i64 x.l[j].k, .int .i64 x.l[j].n, .int .i64 x.l[j].t.k, .slice x.l[j].t.a x.l[j].t.l.length x.l[j].t.c, .int .i64 x.l[j].f.k, .slice x.l[j].f.a x.l[j].f.l.length x.l[j].f.c, .slice x.l[j].a x.l[j].l.length x.l[j].c]] w (MadeT x.l[j].tm w))) :
    Calls Tryd.prog 12 #[.agg #[.int .i64 x.k, .int .i64 x.n, .int .i64 x.t.k, .slice x.t.a x.t.l.length x.t.c, .int .i64 x.f.k, .slice x.f.a x.f.l.length x.f.c, .slice A x.l.length x.c]] w (MadeT x.tm w) := by
  have hlen := hlw.len
  obtain ⟨i0, hi0, hz0, hz1, hz2⟩ := info_parts Tryd.info27c
  have HT : Hid (∀ W, x.t.In W → Calls Tryd.prog 37 #[.agg #[.int .i64 x.t.k, .slice x.t.a x.t.l.length x.t.c]] W (Made x.t.ty W)) := fun W h => copy_any _ x.t W h (Nat.le_refl _) hcs.t
  have HF : Hid (∀ W, x.f.In W → Calls Tryd.prog 37 #[.agg #[.int .i64 x.f.k, .slice x.f.a x.f.l.length x.f.c]] W (Made x.f.ty W)) := fun W h => copy_any _ x.f W h (Nat.le_refl _) hcs.f
  obtain ⟨W0, hW0⟩ : ∃ W0, W0 = (w.alloc (.cells #[.int .i64 x.k, .int .i64 x.n, .int .i64 x.t.k, .slice x.t.a x.t.l.length x.t.c, .int .i64 x.f.k, .slice x.f.a x.f.l.length x.f.c, .slice A x.l.length x.c] 27)).alloc (.cells #[.int .i64 0, .int .i64 0, .int .i64 0, .slice none 0 0, .int .i64 0, .slice none 0 0, .slice none 0 0] 27) := ⟨_, rfl⟩
  have hs0 : W0.heap.size = w.heap.size + 1 + 1 := by rw [hW0]; simp
  have hb0 : Below w.heap.size w W0 := by rw [hW0]; exact ((Below.refl _ _).alloc (Nat.le_refl _) _).alloc (by simp) _
  have hbx0 : Box7 W0 w.heap.size ⟨x.k, x.n, x.t, x.f, A, x.c, x.l⟩ := by
    rw [hW0]
    refine ⟨⟨?_, ?_, ?_, ?_, ?_, ?_, ?_⟩, fun i hi => ?_⟩
    all_goals simp [go_sem]
  have hz0' : ZB7 W0 (w.heap.size + 1) := by
    have := ZB7.new (w.alloc (.cells #[.int .i64 x.k, .int .i64 x.n, .int .i64 x.t.k, .slice x.t.a x.t.l.length x.t.c, .int .i64 x.f.k, .slice x.f.a x.f.l.length x.f.c, .slice A x.l.length x.c] 27))
    rw [hW0]
    simpa using this
  have r2 : W0.drew.cell? ⟨w.heap.size, 2, none⟩ = some (.int .i64 x.t.k) := hbx0.at7.c2
  have r3 : W0.drew.cell? ⟨w.heap.size, 3, none⟩ = some (.slice x.t.a x.t.l.length x.t.c) := hbx0.at7.c3
  have r4 : W0.drew.cell? ⟨w.heap.size, 4, none⟩ = some (.int .i64 x.f.k) := hbx0.at7.c4
  have r5 : W0.drew.cell? ⟨w.heap.size, 5, none⟩ = some (.slice x.f.a x.f.l.length x.f.c) := hbx0.at7.c5
  have r6 : W0.drew.cell? ⟨w.heap.size, 6, none⟩ = some (.slice A x.l.length x.c) := hbx0.at7.c6
  have f2 : W0.drew.frozen? ⟨w.heap.size, 2, none⟩ = false := hbx0.fz 2 (by omega)
  have f3 : W0.drew.frozen? ⟨w.heap.size, 3, none⟩ = false := hbx0.fz 3 (by omega)
  have f4 : W0.drew.frozen? ⟨w.heap.size, 4, none⟩ = false := hbx0.fz 4 (by omega)
  have f5 : W0.drew.frozen? ⟨w.heap.size, 5, none⟩ = false := hbx0.fz 5 (by omega)
  have f6 : W0.drew.frozen? ⟨w.heap.size, 6, none⟩ = false := hbx0.fz 6 (by omega)
  have us : w.heap.size < W0.drew.heap.size := hbx0.lt
  have hb1 : Below W0.heap.size W0 W0.drew := (Below.refl _ _).drew
  have HK : Hid (∀ w' : World, Below W0.heap.size W0 w' → w'.cell? ⟨w.heap.size, 2, none⟩ = some (.int .i64 x.t.k) ∧ w'.cell? ⟨w.heap.size, 3, none⟩ = some (.slice x.t.a x.t.l.length x.t.c) ∧ w'.cell? ⟨w.heap.size, 4, none⟩ = some (.int .i64 x.f.k) ∧ w'.cell? ⟨w.heap.size, 5, none⟩ = some (.slice x.f.a x.f.l.length x.f.c)) := fun w' h => ⟨cell_later h r2, cell_later h r3, cell_later h r4, cell_later h r5⟩
  have HW : Hid (W0.heap.size = w.heap.size + 1 + 1 ∧ Below w.heap.size w W0 ∧ Box7 W0 w.heap.size ⟨x.k, x.n, x.t, x.f, A, x.c, x.l⟩ ∧ ZB7 W0 (w.heap.size + 1) ∧ x.In w) := ⟨hs0, hb0, hbx0, hz0', hx⟩
  clear hs0 hb0 hbx0 hz0' hcs hlw
  go_enter Tryd.func12, Tryd.ntmps12
  go_upto_region 1 with fail
  rw [← hW0]
  clear hW0
  go_cut [] (fun wx => Hid (∃ (t f : Tr) (w3 : World), wx = (((w3.setCell ⟨w.heap.size, 2, none⟩ (.int .i64 t.k)).setCell ⟨w.heap.size, 3, none⟩ (.slice t.a t.l.length t.c)).setCell ⟨w.heap.size, 4, none⟩ (.int .i64 f.k)).setCell ⟨w.heap.size, 5, none⟩ (.slice f.a f.l.length f.c) ∧ t.ty = x.t.ty ∧ f.ty = x.f.ty ∧ Below W0.heap.size W0 w3 ∧ t.In w3 ∧ f.In w3 ∧ t.Bl (W0.heap.size ≤ ·) ∧ f.Bl (W0.heap.size ≤ ·)))
  case first =>
    go_region_law
        (first
          | (go_simp; go_at_call 37; refine (HT.out _ ((HW.out.2.2.2.2.below HW.out.2.1).below hb1).t).mono ?_; rintro e w2 ⟨t, rfl, ht, hin, hbl, hb2⟩; have hb12 := hb1.trans (hb2.mono hb1.size); replace r2 := cell_later hb2 r2; replace r3 := cell_later hb2 r3; replace r4 := cell_later hb2 r4; replace r5 := cell_later hb2 r5; replace r6 := cell_later hb2 r6; replace f2 := (hb2.frozen (p := ⟨w.heap.size, 2, none⟩) us).trans f2; replace f3 := (hb2.frozen (p := ⟨w.heap.size, 3, none⟩) us).trans f3; replace f4 := (hb2.frozen (p := ⟨w.heap.size, 4, none⟩) us).trans f4; replace f5 := (hb2.frozen (p := ⟨w.heap.size, 5, none⟩) us).trans f5; replace f6 := (hb2.frozen (p := ⟨w.heap.size, 6, none⟩) us).trans f6; replace us : w.heap.size < w2.heap.size := World.block_lt_of_cell? _ _ r2; clear HT; go_wp2_with fail)
          | (go_simp; go_at_call 37; refine (HF.out _ ((HW.out.2.2.2.2.below HW.out.2.1).below hb12).f).mono ?_; rintro e w3 ⟨f, rfl, hft, hfin, hfbl, hb3⟩; have hb13 := hb12.trans (hb3.mono hb12.size); replace r2 := cell_later hb3 r2; replace r3 := cell_later hb3 r3; replace r4 := cell_later hb3 r4; replace r5 := cell_later hb3 r5; replace r6 := cell_later hb3 r6; replace f2 := (hb3.frozen (p := ⟨w.heap.size, 2, none⟩) us).trans f2; replace f3 := (hb3.frozen (p := ⟨w.heap.size, 3, none⟩) us).trans f3; replace f4 := (hb3.frozen (p := ⟨w.heap.size, 4, none⟩) us).trans f4; replace f5 := (hb3.frozen (p := ⟨w.heap.size, 5, none⟩) us).trans f5; replace f6 := (hb3.frozen (p := ⟨w.heap.size, 6, none⟩) us).trans f6; replace us : w.heap.size < w3.heap.size := World.block_lt_of_cell? _ _ r2; clear HF; go_wp2_with fail))
    all_goals
      go_wp2_with fail
      go_meet
      case rel => exact ⟨t, f, w3, rfl, ht, hft, hb13, hin.below hb3, hfin, hbl.mono fun b h => Nat.le_trans hb1.size h, hfbl.mono fun b h => Nat.le_trans hb12.size h⟩
  case rest =>
  obtain ⟨t, f, w3, hwx, htt, hft, hb3, hti, hfi, hbt, hbf⟩ := hcut.out
  have HX0 : Hid (TT.mk x.k x.n x.t x.f A x.c x.l = x) := by
    have h := HA.out
    show _ = _
    rw [h]
    exact TT.eta x
  have hbx3 : Box7 w3 w.heap.size x := by
    have := HW.out.2.2.1
    rw [HX0.out] at this
    exact this.below hb3
  have HL : Hid (CT w.heap.size x t f 0 (.slice none 0 0) [] w (((((w3.setCell ⟨w.heap.size, 2, none⟩ (.int .i64 t.k)).setCell ⟨w.heap.size, 3, none⟩ (.slice t.a t.l.length t.c)).setCell ⟨w.heap.size, 4, none⟩ (.int .i64 f.k)).setCell ⟨w.heap.size, 5, none⟩ (.slice f.a f.l.length f.c)).setCell ⟨w.heap.size, 6, none⟩ (.slice none 0 0))) :=
    CT.start (HW.out.2.1.trans (hb3.mono HW.out.2.1.size)) hbx3 (HW.out.2.2.2.1.later hb3) hti hfi (hbt.mono fun b h => by have := HW.out.1; omega) (hbf.mono fun b h => by have := HW.out.1; omega)
  have HTY : Hid (t.ty = x.t.ty ∧ f.ty = x.f.ty) := ⟨htt, hft⟩
  have hA6 : w3.cell? ⟨w.heap.size, 6, none⟩ = some (.slice A x.l.length x.c) := by rw [HA.out]; exact hbx3.at7.c6
  have hF6 : w3.frozen? ⟨w.heap.size, 6, none⟩ = false := hbx3.fz 6 (by omega)
  have g6 : ((((w3.setCell ⟨w.heap.size, 2, none⟩ (.int .i64 t.k)).setCell ⟨w.heap.size, 3, none⟩ (.slice t.a t.l.length t.c)).setCell ⟨w.heap.size, 4, none⟩ (.int .i64 f.k)).setCell ⟨w.heap.size, 5, none⟩ (.slice f.a f.l.length f.c)).cell? ⟨w.heap.size, 6, none⟩ = some (.slice A x.l.length x.c) := by
    rw [World.cell?_setCell_other _ _ _ _ (by simp), World.cell?_setCell_other _ _ _ _ (by simp), World.cell?_setCell_other _ _ _ _ (by simp), World.cell?_setCell_other _ _ _ _ (by simp)]
    exact hA6
  have gf6 : ((((w3.setCell ⟨w.heap.size, 2, none⟩ (.int .i64 t.k)).setCell ⟨w.heap.size, 3, none⟩ (.slice t.a t.l.length t.c)).setCell ⟨w.heap.size, 4, none⟩ (.int .i64 f.k)).setCell ⟨w.heap.size, 5, none⟩ (.slice f.a f.l.length f.c)).frozen? ⟨w.heap.size, 6, none⟩ = false := by
    simp only [World.frozen?_setCell]
    exact hF6
  rw [← hwx] at g6 gf6 HL
  clear hcut hwx htt hft hb3 hti hfi hbt hbf hbx3 hA6 hF6 HX0 HK HT HF r2 r3 r4 r5 r6 f2 f3 f4 f5 f6 us hb1
  go_wp2_with fail
  go_loopg [19] x.l.length (fun g i wr => ∃ (j : Nat) (v : Value) (cs : List TT), j ≤ x.l.length ∧ g = x.l.length - j ∧ i = .int .i64 (j : Int) ∧ Hid (CT w.heap.size x t f j v cs w wr))
  case atStart => exact ⟨0, _, _, Nat.zero_le _, rfl, rfl, HL⟩
  case round =>
    obtain ⟨j, v, cs, hj, hg, rfl, HC⟩ := hrel
    have HG : Hid (gk = x.l.length - j) := hg
    clear hg HL g6 gf6
    have hsw : w.heap.size + 1 < wr.heap.size := HC.out.z.lt
    by_cases hlt : j < x.l.length
    · obtain ⟨b, o, ea, ⟨x0, x1, x2, x3, x4, x5, x6⟩, hxj⟩ := hx.part j hlt
      have eA : A = some ⟨b, o, none⟩ := HA.out.trans ea
      subst eA
      clear ea HA
      have hbwr := HC.out.low
      replace x0 := cell_later hbwr x0
      replace x1 := cell_later hbwr x1
      replace x2 := cell_later hbwr x2
      replace x3 := cell_later hbwr x3
      replace x4 := cell_later hbwr x4
      replace x5 := cell_later hbwr x5
      replace x6 := cell_later hbwr x6
      have i1 : (j : Int) < (x.l.length : Int) := by omega
      have i2 : (0 : Int) ≤ (j : Int) := by omega
      have lb : b < wr.heap.size := World.block_lt_of_cell? _ _ x0
      have hcb : cs.length ≤ 1353245080299 := by have := HC.out.len hj; omega
      have hb1 : Below wr.heap.size wr (wr.alloc (.cells #[.int .i64 x.l[j].k, .int .i64 x.l[j].n, .int .i64 x.l[j].t.k, .slice x.l[j].t.a x.l[j].t.l.length x.l[j].t.c, .int .i64 x.l[j].f.k, .slice x.l[j].f.a x.l[j].f.l.length x.l[j].f.c, .slice x.l[j].a x.l[j].l.length x.l[j].c] 27)).drew := ((Below.refl _ _).alloc (Nat.le_refl _) _).drew
      have HI : Hid (Calls Tryd.prog 12 #[.agg #[.int .i64 x.l[j].k, .int .i64 x.l[j].n, .int .i64 x.l[j].t.k, .slice x.l[j].t.a x.l[j].t.l.length x.l[j].t.c, .int .i64 x.l[j].f.k, .slice x.l[j].f.a x.l[j].f.l.length x.l[j].f.c, .slice x.l[j].a x.l[j].l.length x.l[j].c]] (wr.alloc (.cells #[.int .i64 x.l[j].k, .int .i64 x.l[j].n, .int .i64 x.l[j].t.k, .slice x.l[j].t.a x.l[j].t.l.length x.l[j].t.c, .int .i64 x.l[j].f.k, .slice x.l[j].f.a x.l[j].f.l.length x.l[j].f.c, .slice x.l[j].a x.l[j].l.length x.l[j].c] 27)).drew (MadeT x.l[j].tm (wr.alloc (.cells #[.int .i64 x.l[j].k, .int .i64 x.l[j].n, .int .i64 x.l[j].t.k, .slice x.l[j].t.a x.l[j].t.l.length x.l[j].t.c, .int .i64 x.l[j].f.k, .slice x.l[j].f.a x.l[j].f.l.length x.l[j].f.c, .slice x.l[j].a x.l[j].l.length x.l[j].c] 27)).drew)) := ih.out j hlt _ ((hxj.below hbwr).below hb1)
      obtain ⟨a0, c0, hv0, hbx⟩ := HC.out.box
      have q1 : wr.cell? ⟨w.heap.size, 6, none⟩ = some v := by rw [hv0]; exact hbx.at7.c6
      have qf : wr.frozen? ⟨w.heap.size, 6, none⟩ = false := hbx.fz 6 (by omega)
      have hnv : v.ownBlock ≠ some w.heap.size := fun e => by have := (HC.out.row.lt _ e).1; omega
      have hown := HC.out.row.own
      clear ih hx hbx hv0 HW
      go_wp2_with fail
      have u1 : (wr.alloc (.cells #[.int .i64 x.l[j].k, .int .i64 x.l[j].n, .int .i64 x.l[j].t.k, .slice x.l[j].t.a x.l[j].t.l.length x.l[j].t.c, .int .i64 x.l[j].f.k, .slice x.l[j].f.a x.l[j].f.l.length x.l[j].f.c, .slice x.l[j].a x.l[j].l.length x.l[j].c] 27)).drew.cell? ⟨w.heap.size, 6, none⟩ = some v := cell_later hb1 q1
      have uf : (wr.alloc (.cells #[.int .i64 x.l[j].k, .int .i64 x.l[j].n, .int .i64 x.l[j].t.k, .slice x.l[j].t.a x.l[j].t.l.length x.l[j].t.c, .int .i64 x.l[j].f.k, .slice x.l[j].f.a x.l[j].f.l.length x.l[j].f.c, .slice x.l[j].a x.l[j].l.length x.l[j].c] 27)).drew.frozen? ⟨w.heap.size, 6, none⟩ = false := (hb1.frozen (p := ⟨w.heap.size, 6, none⟩) (show w.heap.size < wr.heap.size by omega)).trans qf
      have uo : (wr.alloc (.cells #[.int .i64 x.l[j].k, .int .i64 x.l[j].n, .int .i64 x.l[j].t.k, .slice x.l[j].t.a x.l[j].t.l.length x.l[j].t.c, .int .i64 x.l[j].f.k, .slice x.l[j].f.a x.l[j].f.l.length x.l[j].f.c, .slice x.l[j].a x.l[j].l.length x.l[j].c] 27)).drew.ownsRow (w.heap.size + 1 + 1) 27 7 v cs.length (cells7 cs) := ownsRow_below hown hb1
      have us : w.heap.size < (wr.alloc (.cells #[.int .i64 x.l[j].k, .int .i64 x.l[j].n, .int .i64 x.l[j].t.k, .slice x.l[j].t.a x.l[j].t.l.length x.l[j].t.c, .int .i64 x.l[j].f.k, .slice x.l[j].f.a x.l[j].f.l.length x.l[j].f.c, .slice x.l[j].a x.l[j].l.length x.l[j].c] 27)).drew.heap.size := World.block_lt_of_cell? _ _ u1
      clear q1 qf hown
      go_region_law
        (first
          | (go_simp; go_at_call 12; refine HI.out.mono ?_; rintro e w2 ⟨y, rfl, hyt, hin, hbl, hb2⟩; replace u1 := cell_later hb2 u1; replace uf := (hb2.frozen (p := ⟨w.heap.size, 6, none⟩) us).trans uf; replace uo := ownsRow_below uo hb2; replace us : w.heap.size < w2.heap.size := World.block_lt_of_cell? _ _ u1; have hnew := heap_alloc_new w2 (.cells #[.int .i64 y.k, .int .i64 y.n, .int .i64 y.t.k, .slice y.t.a y.t.l.length y.t.c, .int .i64 y.f.k, .slice y.f.a y.f.l.length y.f.c, .slice y.a y.l.length y.c] 27); have un : w.heap.size ≠ w2.heap.size := Nat.ne_of_lt us; go_wp2_with fail)
          | (refine step_append_lies _ (by rfl) _ _ _ (by rfl) (w.heap.size + 1 + 1) 27 i0 _ 7 104 Tryd.underlying25 hi0 hz0 hz1 hz2 rfl (by omega) v cs.length (cells7 cs) (by rfl) (uo.alloc _)
                ⟨w2.heap.size, 0, none⟩ 1 1 [.int .i64 y.k, .int .i64 y.n, .int .i64 y.t.k, .slice y.t.a y.t.l.length y.t.c, .int .i64 y.f.k, .slice y.f.a y.f.l.length y.f.c, .slice y.a y.l.length y.c] (by rfl) (by rfl) (World.news_of_block (cs := #[.int .i64 y.k, .int .i64 y.n, .int .i64 y.t.k, .slice y.t.a y.t.l.length y.t.c, .int .i64 y.f.k, .slice y.f.a y.f.l.length y.f.c, .slice y.a y.l.length y.c]) (t := 27) (fr := (0, 0)) hnew) (by simp [Value.oneCell'])
                (by omega) (by unfold maxLen; omega) (by omega) (by have := hb2.size; simp at this ⊢; omega) (w2.heap.size + 1) (by simp) ?_; intro gg cap1 w3' hown1 hgrow hat hlt3; have hcr : w3'.cell? ⟨w.heap.size, 6, none⟩ = some v := (by rw [hgrow.cell_far _ (by simp; omega) (Ne.symm hnv)]; exact cell_later ((Below.refl _ _).alloc (Nat.le_refl _) _) u1); have hfr : w3'.frozen? ⟨w.heap.size, 6, none⟩ = false := (by rw [hgrow.frozen_far _ (by simp; omega) (Ne.symm hnv)]; exact (((Below.refl _ _).alloc (Nat.le_refl _) _).frozen (p := ⟨w.heap.size, 6, none⟩) us).trans uf)))
      all_goals
        have HN : Hid (CT w.heap.size x t f (j + 1) (.slice (some ⟨gg, 0, none⟩) (cs.length + 1) cap1) (cs ++ [y]) w (w3'.setCell ⟨w.heap.size, 6, none⟩ (.slice (some ⟨gg, 0, none⟩) (cs.length + 1) cap1))) := HC.out.step hlt hb1 hyt hin hbl hb2 hown1 hgrow hat
        clear hown1 hgrow hat hcr hfr hyt hin hbl hb2 uo uf u1 HI HC
        go_wp2_with fail
        go_roundg (x.l.length - (j + 1))
        case measure => rw [HG.out]; omega
        case rel => exact ⟨j + 1, _, _, by omega, rfl, by go_num, HN⟩
    · have hjl : j = x.l.length := by omega
      obtain ⟨a, c, hv, hbx⟩ := HC.out.box
      obtain ⟨a', c', hv', htree⟩ := HC.out.row.tree
      rw [hv] at hv'
      obtain ⟨rfl, rfl⟩ : a = a' ∧ c = c' := by cases hv'; exact ⟨rfl, rfl⟩
      have hti := htree x.k x.n t f HC.out.tin.1 HC.out.fin.1
      have hbl := hti.2 (fun b => w.heap.size + 1 + 1 ≤ b) (fun b hb => hb) (HC.out.tin.2.mono fun b hb => hb.1) (HC.out.fin.2.mono fun b hb => hb.1)
      have htm : (TT.mk x.k x.n t f a c cs).tm = x.tm := by
        have h := HC.out.tm
        rw [hjl, List.take_length] at h
        have h2 := HTY.out
        obtain ⟨xk, xn, xt, xf, xa, xc, xl⟩ := x
        dsimp only at h h2 ⊢
        rw [TT.tm_mk, TT.tm_mk, h, h2.1, h2.2]
      have hzr := HC.out.z
      have HN : Hid (MadeT x.tm w (.returned (.agg #[.int .i64 x.k, .int .i64 x.n, .int .i64 t.k, .slice t.a t.l.length t.c, .int .i64 f.k, .slice f.a f.l.length f.c, .slice a cs.length c])) (put7 wr (w.heap.size + 1) (TT.mk x.k x.n t f a c cs))) := by
        have hk := put7_kept (w := wr) (J := w.heap.size + 1) (x := TT.mk x.k x.n t f a c cs)
        refine ⟨TT.mk x.k x.n t f a c cs, rfl, htm, hti.1.keptR hk (hbl.mono fun b hb => by omega), hbl.mono fun b hb => by omega, ?_⟩
        exact HC.out.low.trans ((hk.below (by simp) (Nat.le_of_lt hzr.lt)).mono (by omega))
      obtain ⟨e0, e1, e2, e3, e4, e5, e6⟩ := (put7_box (x := TT.mk x.k x.n t f a c cs) hzr.box).at7
      simp only [Nat.zero_add] at e0 e1 e2 e3 e4 e5 e6
      obtain ⟨q0, q1, q2, q3, q4, q5, q6⟩ := hbx.at7
      simp only [Nat.zero_add] at q0 q1 q2 q3 q4 q5 q6
      obtain ⟨⟨y0, y1, y2, y3, y4, y5, y6⟩, f0, f1, f2, f3, f4, f5, f6⟩ := hzr
      clear HC hbx hti hbl htm htree hv' hv ih HW HTY HG
      go_wp2_with fail
      refine bodyPost_ret (v := .agg #[.int .i64 x.k, .int .i64 x.n, .int .i64 t.k, .slice t.a t.l.length t.c, .int .i64 f.k, .slice f.a f.l.length f.c, .slice a cs.length c]) ?_ rfl HN.out
      unfold put7 at e0 e1 e2 e3 e4 e5 e6
      simp [results, Tryd.results12, go_sem, e0, e1, e2, e3, e4, e5, e6]
/-- chaperoneref.CopyTerm. -/
theorem copyTm_any : ∀ (x : TT) (w : World), x.In w → x.lw → x.csz → Calls Tryd.prog 12 #[.agg #[.int .i64 x.k, .int .i64 x.n, .int .i64 x.t.k, .slice x.t.a x.t.l.length x.t.c, .int .i64 x.f.k, .slice x.f.a x.f.l.length x.f.c, .slice x.a x.l.length x.c]] w (MadeT x.tm w) := by
  intro x
  induction x using TT.ind with
  | h k n t f a c l ih =>
    intro w hx hl hc
    exact copyTm_step ⟨k, n, t, f, a, c, l⟩ a rfl w hx hl hc (fun j hj w h1 => ih _ (List.getElem_mem hj) w h1 (hl.mem (List.getElem_mem hj)) (hc.mem (List.getElem_mem hj)))
end Go.Proofs.YtnddkmccagiclaaDoor

/-
  What the call of ref's EraseTerm answers.
-/
namespace Go.Proofs.YtnddkmccagiclaaDoor
open Go.RowKit
theorem erase_tm (x : TT) : eraseM x.tm = eraseT x.k x.n ((x.l.map TT.tm).map eraseM) := by
  obtain ⟨k, n, t, f, a, c, l⟩ := x
  rw [TT.tm_mk, eraseM_mk]
theorem erase_one (x y : TT) (hl : x.l = [y]) (hk : x.k = 9 ∨ x.k = 10) : eraseM x.tm = eraseM y.tm := by
  rw [erase_tm, hl]
  exact if_pos hk
theorem erase_else (x : TT) (h : ¬ ((x.k = 9 ∨ x.k = 10) ∧ x.l.length = 1)) : eraseM x.tm = ⟨x.k, x.n, anyY, anyY, (x.l.map TT.tm).map eraseM⟩ := by
  rw [erase_tm]
  have hlen : ((x.l.map TT.tm).map eraseM).length = x.l.length := by simp
  generalize (x.l.map TT.tm).map eraseM = m at hlen
  match m, hlen with
  | [], _ => rfl
  | [y], hl => exact if_neg fun hk => h ⟨hk, by simpa using hl.symm⟩
  | y :: z :: r, _ => rfl
set_option maxRecDepth 20000 in
set_option maxHeartbeats 4000000 in
theorem eraseTm_step (x : TT) (w : World) (hx : x.In w) (hsz : x.sz ≤ 1000)
    (ih : Hid (∀ y : TT, y.sz < x.sz → ∀ W : World, y.In W → Calls Tryd.prog 21 #[.agg #[.int .i64 y.k, .int .i64 y.n, .int .i64 y.t.k, .slice y.t.a y.t.l.length y.t.c, .int .i64 y.f.k, .slice y.f.a y.f.l.length y.f.c, .slice y.a y.l.length y.c]] W (MadeT (eraseM y.tm) W))) :
    Calls Tryd.prog 21 #[.agg #[.int .i64 x.k, .int .i64 x.n, .int .i64 x.t.k, .slice x.t.a x.t.l.length x.t.c, .int .i64 x.f.k, .slice x.f.a x.f.l.length x.f.c, .slice x.a x.l.length x.c]] w (MadeT (eraseM x.tm) w) := by
  obtain ⟨W1, hW1⟩ : ∃ W, W = (w.alloc (.cells #[.int .i64 x.k, .int .i64 x.n, .int .i64 x.t.k, .slice x.t.a x.t.l.length x.t.c, .int .i64 x.f.k, .slice x.f.a x.f.l.length x.f.c, .slice x.a x.l.length x.c] 27)).alloc (.cells #[.int .i64 0, .int .i64 0, .int .i64 0, .slice none 0 0, .int .i64 0, .slice none 0 0, .slice none 0 0] 27) := ⟨_, rfl⟩
  have hb1 : Below w.heap.size w W1 := by rw [hW1]; exact ((Below.refl _ _).alloc (Nat.le_refl _) _).alloc (by simp) _
  have hs1 : W1.heap.size = w.heap.size + 1 + 1 := by rw [hW1]; simp
  have hbx1 : Box7 W1 w.heap.size x := by
    rw [hW1]
    refine ⟨⟨?_, ?_, ?_, ?_, ?_, ?_, ?_⟩, fun i hi => ?_⟩ <;> simp [go_sem]
  have hz1 : ZB7 W1 (w.heap.size + 1) := by
    rw [hW1]
    refine ⟨⟨?_, ?_, ?_, ?_, ?_, ?_, ?_⟩, ?_, ?_, ?_, ?_, ?_, ?_, ?_⟩ <;> simp [go_sem]
  have HW : Hid (Below w.heap.size w W1 ∧ W1.heap.size = w.heap.size + 1 + 1 ∧ ZB7 W1 (w.heap.size + 1)) := ⟨hb1, hs1, hz1⟩
  have HX : Hid (Box7 W1 w.heap.size x ∧ x.In W1 ∧ x.Bl (· < w.heap.size)) := ⟨hbx1, hx.below hb1, hx.bl⟩
  clear hx hb1 hs1 hbx1 hz1
  go_enter Tryd.func21, Tryd.ntmps21
  refine wp_seq_k fun K0 hK0 => ?_
  go_cut [1, 2] (fun s1 s2 wx => s1 = .pointer (some ⟨w.heap.size, 0, none⟩) ∧ s2 = .pointer (some ⟨w.heap.size + 1, 0, none⟩) ∧ wx = W1)
  case first =>
    go_wp2_with fail
    go_meet
    case rel => exact ⟨rfl, rfl, hW1.symm⟩
  obtain ⟨h1, h2, h3⟩ := hcut
  subst h1 h2
  rw [h3]
  clear h3 hW1
  apply_assumption
  refine wp_seq_k fun K1 hK1 => ?_
  go_cut [] (fun wx => Hid (∃ p : TT, ¬ ((p.k = 9 ∨ p.k = 10) ∧ p.l.length = 1) ∧ Box7 wx w.heap.size p ∧ p.In wx ∧ p.Bl (· < w.heap.size) ∧ eraseM p.tm = eraseM x.tm ∧ p.sz ≤ x.sz ∧ Kept w.heap.size none W1 wx ∧ wx.heap.size = W1.heap.size))
  case first =>
    go_wp2_with fail
    go_loopg [] x.sz (fun g wr => ∃ p : TT, g = p.sz ∧ Hid (Box7 wr w.heap.size p ∧ p.In wr ∧ p.Bl (· < w.heap.size) ∧ eraseM p.tm = eraseM x.tm ∧ p.sz ≤ x.sz ∧ Kept w.heap.size none W1 wr ∧ wr.heap.size = W1.heap.size))
    case atStart => exact ⟨x, rfl, HX.out.1, HX.out.2.1, HX.out.2.2, rfl, Nat.le_refl _, Kept.of_below (Below.refl _ _), rfl⟩
    case round =>
      obtain ⟨p, hg, HR⟩ := hrel
      have HG : Hid (gk = p.sz) := hg
      clear hg HX
      obtain ⟨q0, q1, q2, q3, q4, q5, q6⟩ := HR.out.1.at7
      simp only [Nat.zero_add] at q0 q1 q2 q3 q4 q5 q6
      have lw : w.heap.size < wr.heap.size := World.block_lt_of_cell? _ _ q0
      by_cases hC : (p.k = 9 ∨ p.k = 10) ∧ p.l.length = 1
      · have e1 : decide (9 ≤ p.k) = true := by simp; omega
        have e2 : decide (p.k ≤ 10) = true := by simp; omega
        obtain ⟨y, hl⟩ : ∃ y, p.l = [y] := by
          match h : p.l, hC.2 with
          | [y], _ => exact ⟨y, rfl⟩
        obtain ⟨b, o, ea, ⟨c0, c1, c2, c3, c4, c5, c6⟩, hyi⟩ := HR.out.2.1.part 0 (by rw [hl]; simp)
        simp only [hl, List.getElem_cons_zero, Nat.zero_mul, Nat.add_zero] at c0 c1 c2 c3 c4 c5 c6 hyi
        have hyb : y.Bl (· < w.heap.size) := HR.out.2.2.1.mem (by rw [hl]; simp)
        have hbb : b < w.heap.size := HR.out.2.2.1.own (by rw [hl]; simp) _ ea
        have hbne : b ≠ w.heap.size := by omega
        have lb : b < wr.heap.size := by omega
        have hlen : p.l.length = 1 := hC.2
        have hsy : y.sz < p.sz := by have := p.sz_eq; rw [hl] at this; simp at this; omega
        have hfz := HR.out.1.fz
        have f0 := hfz 0 (by omega)
        have f1 := hfz 1 (by omega)
        have f2 := hfz 2 (by omega)
        have f3 := hfz 3 (by omega)
        have f4 := hfz 4 (by omega)
        have f5 := hfz 5 (by omega)
        have f6 := hfz 6 (by omega)
        have HN : Hid (Box7 (put7 wr w.heap.size y) w.heap.size y ∧ y.In (put7 wr w.heap.size y) ∧ y.Bl (· < w.heap.size) ∧ eraseM y.tm = eraseM x.tm ∧ y.sz ≤ x.sz ∧ Kept w.heap.size none W1 (put7 wr w.heap.size y) ∧ (put7 wr w.heap.size y).heap.size = W1.heap.size) := by
          refine ⟨put7_box HR.out.1, hyi.keptR put7_kept (hyb.mono fun b hb => by omega), hyb, ?_, ?_, HR.out.2.2.2.2.2.1.trans put7_kept, ?_⟩
          · rw [← erase_one p y hl hC.1]
            exact HR.out.2.2.2.1
          · have := HR.out.2.2.2.2.1
            omega
          · rw [← HR.out.2.2.2.2.2.2]
            simp [put7, World.setCell]
        rw [hlen, ea] at q6
        unfold put7 at HN
        clear HR hC hl ea hyi hyb hlen hfz
        go_wp2_with fail
        go_roundg y.sz
        case measure => rw [HG.out]; exact hsy
        case rel => exact ⟨y, rfl, HN⟩
      · have HN : Hid (∃ p : TT, ¬ ((p.k = 9 ∨ p.k = 10) ∧ p.l.length = 1) ∧ Box7 wr w.heap.size p ∧ p.In wr ∧ p.Bl (· < w.heap.size) ∧ eraseM p.tm = eraseM x.tm ∧ p.sz ≤ x.sz ∧ Kept w.heap.size none W1 wr ∧ wr.heap.size = W1.heap.size) := ⟨p, hC, HR.out⟩
        by_cases h9 : 9 ≤ p.k
        · have e1 : decide (9 ≤ p.k) = true := by simpa using h9
          by_cases h10 : p.k ≤ 10
          · have e2 : decide (p.k ≤ 10) = true := by simpa using h10
            have e3 : ((p.l.length : Int) == 1) = false := by
              have : p.l.length ≠ 1 := fun h => hC ⟨by omega, h⟩
              simp; omega
            clear HR hC h9 h10
            go_wp2_with fail
            go_meet
            case rel => exact HN
          · have e2 : decide (p.k ≤ 10) = false := by simpa using h10
            clear HR hC h9 h10
            go_wp2_with fail
            go_meet
            case rel => exact HN
        · have e1 : decide (9 ≤ p.k) = false := by simpa using h9
          clear HR hC h9
          go_wp2_with fail
          go_meet
          case rel => exact HN
  case rest =>
  obtain ⟨p, hC, hbx, hpi, hpb, hpe, hps, hkp, hsw⟩ := hcut.out
  clear hcut HX
  obtain ⟨S, hS⟩ : ∃ S, S = wc.heap.size := ⟨_, rfl⟩
  have hSw1 : w.heap.size + 1 + 1 ≤ S := by have := HW.out.2.1; omega
  obtain ⟨V5, hV5⟩ : ∃ V, V = wc.alloc (.cells #[.int .i64 p.k, .int .i64 p.n, .int .i64 0, .slice none 0 0, .int .i64 0, .slice none 0 0, .slice none 0 0] 27) := ⟨_, rfl⟩
  have hb5 : Below wc.heap.size wc V5 := by rw [hV5]; exact (Below.refl _ _).alloc (Nat.le_refl _) _
  have hs5 : S + 1 ≤ V5.heap.size ∧ V5.heap.size ≤ S + 1 := by rw [hV5, hS]; simp
  obtain ⟨hs5a, hs5b⟩ := hs5
  obtain ⟨q0, q1, q2, q3, q4, q5, q6⟩ := hbx.at7
  simp only [Nat.zero_add] at q0 q1 q2 q3 q4 q5 q6
  have lw : w.heap.size < wc.heap.size := World.block_lt_of_cell? _ _ q0
  obtain ⟨TT0, hTT0⟩ : ∃ T, T = (p.l.map TT.tm).map eraseM := ⟨_, rfl⟩
  have HT0 : Hid (TT0.length = p.l.length ∧ eraseM x.tm = ⟨p.k, p.n, anyY, anyY, TT0⟩ ∧ ∀ j (h : j < p.l.length) (h' : j < TT0.length), TT0[j] = eraseM p.l[j].tm) := by
    subst hTT0
    refine ⟨by simp, by rw [← hpe, erase_else p hC], fun j h h' => by simp⟩
  clear hTT0
  have HC0 : Hid (CW (S + 1 ≤ ·) S (tleaf p.k p.n) V5 TT0 0 (.slice none 0 0) [] V5) := by
    refine ⟨RowT.nil _ _ _, by simp, ⟨none, 0, rfl, ?_⟩, Kept.of_below (Below.refl _ _)⟩
    rw [hV5, hS]
    refine ⟨⟨?_, ?_, ?_, ?_, ?_, ?_, ?_⟩, fun i hi => ?_⟩ <;> simp [go_sem, tleaf]
  have q65 : V5.cell? ⟨w.heap.size, 6, none⟩ = some (.slice p.a p.l.length p.c) := cell_later hb5 q6
  have HP : Hid (p.In V5 ∧ p.Bl (· < w.heap.size) ∧ p.sz ≤ x.sz ∧ Below w.heap.size w V5 ∧ ZB7 V5 (w.heap.size + 1)) := by
    refine ⟨hpi.below hb5, hpb, hps, ?_, ?_⟩
    · exact (HW.out.1.trans (hkp.below (by simp) (by have := HW.out.2.1; omega))).trans (hb5.mono (by omega))
    · exact (HW.out.2.2.kept hkp (by omega)).later hb5
  have hpl : p.l.length ≤ 1000 := by
    have h1 := len_sum p.l
    have h2 := p.sz_eq
    omega
  have HS : Hid (S = wc.heap.size) := hS
  clear hbx hpi hpb hpe hps hkp hC hb5 hsw hS
  apply_assumption
  go_wp2_with fail
  rw [← hV5, ← HS.out]
  clear hV5 HS q0 q1 q2 q3 q4 q5 q6
  go_loopg [32] p.l.length (fun g i wr => ∃ (j : Nat) (v : Value) (cs : List TT), j ≤ p.l.length ∧ g = p.l.length - j ∧ i = .int .i64 (j : Int) ∧ Hid (CW (S + 1 ≤ ·) S (tleaf p.k p.n) V5 TT0 j v cs wr))
  case atStart => exact ⟨0, _, _, Nat.zero_le _, rfl, rfl, HC0⟩
  case round =>
    obtain ⟨j, v, cs, hj, hg, rfl, HC⟩ := hrel
    have HG : Hid (gk = p.l.length - j) := hg
    clear hg HC0
    have hkp := HC.out.kp
    have hsr := hkp.size
    by_cases hlt : j < p.l.length
    · obtain ⟨b, o, ea, ⟨x0, x1, x2, x3, x4, x5, x6⟩, hxj⟩ := HP.out.1.part j hlt
      have hbb : b < w.heap.size := HP.out.2.1.own (fun e => by rw [e] at hlt; simp at hlt) _ ea
      have hbne : b ≠ S := by omega
      replace x0 := hkp.cell x0 hbne
      replace x1 := hkp.cell x1 hbne
      replace x2 := hkp.cell x2 hbne
      replace x3 := hkp.cell x3 hbne
      replace x4 := hkp.cell x4 hbne
      replace x5 := hkp.cell x5 hbne
      replace x6 := hkp.cell x6 hbne
      obtain ⟨y, hy⟩ : ∃ y, y = p.l[j] := ⟨_, rfl⟩
      have hyb : y.Bl (· < w.heap.size) := HP.out.2.1.mem (by rw [hy]; exact List.getElem_mem hlt)
      rw [← hy] at x0 x1 x2 x3 x4 x5 x6 hxj
      have hyr : y.In wr := hxj.keptR hkp (hyb.mono fun b hb => by omega)
      have i1 : (j : Int) < (p.l.length : Int) := by omega
      have i2 : (0 : Int) ≤ (j : Int) := by omega
      have lb : b < wr.heap.size := World.block_lt_of_cell? _ _ x0
      have hcl : cs.length = j := by
        have := congrArg List.length HC.out.tm
        have e := HT0.out.1
        simp only [List.length_map, List.length_take] at this
        omega
      have hcl3 : cs.length ≤ 1000 := by omega
      clear hcl
      have hov : ∀ k, v.ownBlock = some k → V5.heap.size ≤ k ∧ k < wr.heap.size := HC.out.row.lt
      have hb1 : Below wr.heap.size wr (wr.alloc (.cells #[.int .i64 y.k, .int .i64 y.n, .int .i64 y.t.k, .slice y.t.a y.t.l.length y.t.c, .int .i64 y.f.k, .slice y.f.a y.f.l.length y.f.c, .slice y.a y.l.length y.c] 27)).drew := ((Below.refl _ _).alloc (Nat.le_refl _) _).drew
      have HI : Hid (Calls Tryd.prog 21 #[.agg #[.int .i64 y.k, .int .i64 y.n, .int .i64 y.t.k, .slice y.t.a y.t.l.length y.t.c, .int .i64 y.f.k, .slice y.f.a y.f.l.length y.f.c, .slice y.a y.l.length y.c]] (wr.alloc (.cells #[.int .i64 y.k, .int .i64 y.n, .int .i64 y.t.k, .slice y.t.a y.t.l.length y.t.c, .int .i64 y.f.k, .slice y.f.a y.f.l.length y.f.c, .slice y.a y.l.length y.c] 27)).drew (MadeT (eraseM y.tm) (wr.alloc (.cells #[.int .i64 y.k, .int .i64 y.n, .int .i64 y.t.k, .slice y.t.a y.t.l.length y.t.c, .int .i64 y.f.k, .slice y.f.a y.f.l.length y.f.c, .slice y.a y.l.length y.c] 27)).drew)) := by
        refine ih.out y ?_ _ (hyr.below hb1)
        have h1 := p.sz_eq
        have h2 := HP.out.2.2.1
        have e : p.l[j].tm.sz ≤ ((p.l.map TT.tm).map Tm.sz).sum := sz_mem _ _ (List.mem_map.2 ⟨_, List.getElem_mem hlt, rfl⟩)
        have e2 : (p.l.map TT.tm).map Tm.sz = p.l.map TT.sz := by rw [List.map_map]; exact List.map_congr_left fun z _ => z.sz_tm.symm
        rw [e2, ← hy, ← TT.sz_tm] at e
        omega
      have q1 : wr.cell? ⟨S, 6, none⟩ = some v := by
        obtain ⟨a0, c0, hv0, hbx⟩ := HC.out.box
        have := hbx.at7.c6
        simp only [Nat.zero_add] at this
        rw [hv0]
        exact this
      have qf : wr.frozen? ⟨S, 6, none⟩ = false := by
        obtain ⟨a0, c0, hv0, hbx⟩ := HC.out.box
        exact hbx.fz 6 (by omega)
      have hnv : v.ownBlock ≠ some S := fun e => by have := (hov _ e).1; omega
      have hown := HC.out.row.own
      have lS : S < wr.heap.size := World.block_lt_of_cell? _ _ q1
      have HYT : Hid (TT0[j]'(by rw [HT0.out.1]; exact hlt) = eraseM y.tm) := by rw [hy]; exact HT0.out.2.2 j hlt _
      have HXA : Hid (p.a = some ⟨b, o, none⟩) := ea
      obtain ⟨i0, hi0, hz0, hz1, hz2⟩ := info_parts Tryd.info27c
      rw [ea]
      clear ea ih hy hyb hyr hxj hkp
      go_wp2_with fail
      have u1 : (wr.alloc (.cells #[.int .i64 y.k, .int .i64 y.n, .int .i64 y.t.k, .slice y.t.a y.t.l.length y.t.c, .int .i64 y.f.k, .slice y.f.a y.f.l.length y.f.c, .slice y.a y.l.length y.c] 27)).drew.cell? ⟨S, 6, none⟩ = some v := cell_later hb1 q1
      have uf : (wr.alloc (.cells #[.int .i64 y.k, .int .i64 y.n, .int .i64 y.t.k, .slice y.t.a y.t.l.length y.t.c, .int .i64 y.f.k, .slice y.f.a y.f.l.length y.f.c, .slice y.a y.l.length y.c] 27)).drew.frozen? ⟨S, 6, none⟩ = false := (hb1.frozen (p := ⟨S, 6, none⟩) (show S < wr.heap.size by omega)).trans qf
      have uo : (wr.alloc (.cells #[.int .i64 y.k, .int .i64 y.n, .int .i64 y.t.k, .slice y.t.a y.t.l.length y.t.c, .int .i64 y.f.k, .slice y.f.a y.f.l.length y.f.c, .slice y.a y.l.length y.c] 27)).drew.ownsRow V5.heap.size 27 7 v cs.length (cells7 cs) := ownsRow_below hown hb1
      have us : S < (wr.alloc (.cells #[.int .i64 y.k, .int .i64 y.n, .int .i64 y.t.k, .slice y.t.a y.t.l.length y.t.c, .int .i64 y.f.k, .slice y.f.a y.f.l.length y.f.c, .slice y.a y.l.length y.c] 27)).drew.heap.size := World.block_lt_of_cell? _ _ u1
      clear q1 qf hown
      go_region_law
        (first
          | (go_simp; go_at_call 21; refine HI.out.mono ?_; rintro e w2 ⟨z, rfl, hzt, hin, hbl, hb2⟩; replace u1 := cell_later hb2 u1; replace uf := (hb2.frozen (p := ⟨S, 6, none⟩) us).trans uf; replace uo := ownsRow_below uo hb2; replace us : S < w2.heap.size := World.block_lt_of_cell? _ _ u1; have hnew := heap_alloc_new w2 (.cells #[.int .i64 z.k, .int .i64 z.n, .int .i64 z.t.k, .slice z.t.a z.t.l.length z.t.c, .int .i64 z.f.k, .slice z.f.a z.f.l.length z.f.c, .slice z.a z.l.length z.c] 27); have un : S ≠ w2.heap.size := Nat.ne_of_lt us; go_wp2_with fail)
          | (refine step_append_lies _ (by rfl) _ _ _ (by rfl) V5.heap.size 27 i0 _ 7 104 Tryd.underlying25 hi0 hz0 hz1 hz2 rfl (by omega) v cs.length (cells7 cs) (by rfl) (uo.alloc _)
                ⟨w2.heap.size, 0, none⟩ 1 1 [.int .i64 z.k, .int .i64 z.n, .int .i64 z.t.k, .slice z.t.a z.t.l.length z.t.c, .int .i64 z.f.k, .slice z.f.a z.f.l.length z.f.c, .slice z.a z.l.length z.c] (by rfl) (by rfl) (World.news_of_block (cs := #[.int .i64 z.k, .int .i64 z.n, .int .i64 z.t.k, .slice z.t.a z.t.l.length z.t.c, .int .i64 z.f.k, .slice z.f.a z.f.l.length z.f.c, .slice z.a z.l.length z.c]) (t := 27) (fr := (0, 0)) hnew) (by simp [Value.oneCell'])
                (by omega) (by unfold maxLen; omega) (by omega) (by have := hb2.size; simp at this ⊢; omega) (w2.heap.size + 1) (by simp) ?_; intro gg cap1 w3' hown1 hgrow hat hlt3; have hcr : w3'.cell? ⟨S, 6, none⟩ = some v := (by rw [hgrow.cell_far _ (by simp; omega) (Ne.symm hnv)]; exact cell_later ((Below.refl _ _).alloc (Nat.le_refl _) _) u1); have hfr : w3'.frozen? ⟨S, 6, none⟩ = false := (by rw [hgrow.frozen_far _ (by simp; omega) (Ne.symm hnv)]; exact (((Below.refl _ _).alloc (Nat.le_refl _) _).frozen (p := ⟨S, 6, none⟩) us).trans uf)))
      all_goals
        have HN : Hid (CW (S + 1 ≤ ·) S (tleaf p.k p.n) V5 TT0 (j + 1) (.slice (some ⟨gg, 0, none⟩) (cs.length + 1) cap1) (cs ++ [z]) (w3'.setCell ⟨S, 6, none⟩ (.slice (some ⟨gg, 0, none⟩) (cs.length + 1) cap1))) := HC.out.step (by omega) (fun b hb => by omega) (by rw [HT0.out.1]; exact hlt) (hb1.trans (hb2.mono hb1.size)) (hzt.trans HYT.out.symm) hin (hbl.mono fun b hb => by simp at hb; exact ⟨by omega, fun e => by have := (hov b e.symm).2; omega⟩) (by simpa [cells7] using hown1) hgrow hat
        clear hown1 hgrow hat hcr hfr hzt hin hbl hb2 uo uf u1 HI HC
        go_wp2_with fail
        rw [← HXA.out]
        go_roundg (p.l.length - (j + 1))
        case measure => rw [HG.out]; omega
        case rel => exact ⟨j + 1, _, _, by omega, rfl, by go_num, HN⟩
    · have hjl : j = p.l.length := by omega
      obtain ⟨a, cc, hv, hbx⟩ := HC.out.box
      obtain ⟨a', cc', hv', hzi, hzb⟩ := HC.out.row.tree (k := p.k) (n := p.n) (t := ⟨0, none, 0, []⟩) (f := ⟨0, none, 0, []⟩) (fun b hb => by omega) (Tr.In_nil _ _ _ _) (Tr.In_nil _ _ _ _) (Tr.Bl_nil _ _ _ _) (Tr.Bl_nil _ _ _ _)
      rw [hv] at hv'
      obtain ⟨rfl, rfl⟩ : a = a' ∧ cc = cc' := by cases hv'; exact ⟨rfl, rfl⟩
      have htm : (TT.mk p.k p.n ⟨0, none, 0, []⟩ ⟨0, none, 0, []⟩ a cc cs).tm = eraseM x.tm := by
        rw [HT0.out.2.1, TT.tm_mk]
        have h1 := HC.out.tm
        rw [hjl, ← HT0.out.1, List.take_length] at h1
        rw [h1]
        simp [Tr.ty_mk, anyY]
      have hzr : ZB7 wr (w.heap.size + 1) := HP.out.2.2.2.2.kept hkp (by omega)
      have hlow : Below w.heap.size w wr := HP.out.2.2.2.1.trans ((hkp.below (by simp) (by omega)).mono (by omega))
      have HN : Hid (MadeT (eraseM x.tm) w (.returned (.agg #[.int .i64 p.k, .int .i64 p.n, .int .i64 0, .slice none 0 0, .int .i64 0, .slice none 0 0, .slice a cs.length cc])) (put7 wr (w.heap.size + 1) (TT.mk p.k p.n ⟨0, none, 0, []⟩ ⟨0, none, 0, []⟩ a cc cs))) := by
        have hk := put7_kept (w := wr) (J := w.heap.size + 1) (x := (TT.mk p.k p.n ⟨0, none, 0, []⟩ ⟨0, none, 0, []⟩ a cc cs))
        refine ⟨(TT.mk p.k p.n ⟨0, none, 0, []⟩ ⟨0, none, 0, []⟩ a cc cs), rfl, htm, hzi.keptR hk (hzb.mono fun b hb => by omega), hzb.mono fun b hb => by omega, ?_⟩
        exact hlow.trans ((hk.below (by simp) (Nat.le_of_lt hzr.lt)).mono (by omega))
      obtain ⟨e0, e1, e2, e3, e4, e5, e6⟩ := (put7_box (x := (TT.mk p.k p.n ⟨0, none, 0, []⟩ ⟨0, none, 0, []⟩ a cc cs)) hzr.box).at7
      simp only [Nat.zero_add] at e0 e1 e2 e3 e4 e5 e6
      obtain ⟨q0, q1, q2, q3, q4, q5, q6⟩ := hbx.at7
      simp only [Nat.zero_add, tleaf, List.length_nil] at q0 q1 q2 q3 q4 q5 q6
      obtain ⟨⟨y0', y1, y2, y3, y4, y5, y6⟩, f0, f1, f2, f3, f4, f5, f6⟩ := hzr
      have lS : S < wr.heap.size := World.block_lt_of_cell? _ _ q0
      clear HC hbx hzi hzb htm hv' hv ih HP hlow hkp HG
      go_wp2_with fail
      refine bodyPost_ret (v := .agg #[.int .i64 p.k, .int .i64 p.n, .int .i64 0, .slice none 0 0, .int .i64 0, .slice none 0 0, .slice a cs.length cc]) ?_ rfl HN.out
      unfold put7 at e0 e1 e2 e3 e4 e5 e6
      simp only [List.length_nil] at e0 e1 e2 e3 e4 e5 e6
      simp [results, Tryd.results21, go_sem, e0, e1, e2, e3, e4, e5, e6]
/-- EraseTerm. -/
theorem eraseTm_any (m : Nat) : ∀ (x : TT) (w : World), x.sz ≤ m → x.In w → x.sz ≤ 1000 → Calls Tryd.prog 21 #[.agg #[.int .i64 x.k, .int .i64 x.n, .int .i64 x.t.k, .slice x.t.a x.t.l.length x.t.c, .int .i64 x.f.k, .slice x.f.a x.f.l.length x.f.c, .slice x.a x.l.length x.c]] w (MadeT (eraseM x.tm) w) := by
  induction m with
  | zero =>
    intro x w h
    have := x.sz_pos
    omega
  | succ m ih =>
    intro x w hm hx hs
    exact eraseTm_step x w hx hs fun y hy W hyi => ih y W (by omega) hyi (by omega)
end Go.Proofs.YtnddkmccagiclaaDoor

/-
  What the call of chaperonelaw.sameSites answers at two rows of casts that are alike.
-/
namespace Go.Proofs.YtnddkmccagiclaaDoor
open Go.RowKit
set_option maxRecDepth 20000 in
set_option maxHeartbeats 2000000 in
theorem sameSites_yes (ss ts : List St) (a b : Option Addr) (c d : Nat) (w : World) (hs : SL w a ss) (ht : SL w b ts) (hm : ss.map St.m = ts.map St.m) (hsm : ∀ s, s ∈ ss → s.f.sm ∧ s.t.sm) (hl : ss.length ≤ 1000000) :
    Calls Tryd.prog 22 #[.slice a ss.length c, .slice b ts.length d] w fun e w' => e = .returned (.bool true) ∧ Below w.heap.size w w' := by
  have hlen : ss.length = ts.length := by simpa using congrArg List.length hm
  have e1 : ((ss.length : Int) != (ts.length : Int)) = false := by simp [hlen]
  have HLN : Hid (ss.length = ts.length) := hlen
  clear hlen
  go_enter Tryd.func22, Tryd.ntmps22
  go_wp2_with fail
  clear e1
  go_loopg [13] ss.length (fun g i wr => ∃ (j : Nat), j ≤ ss.length ∧ g = ss.length - j ∧ i = .int .i64 (j : Int) ∧ Below w.heap.size w wr)
  case atStart => exact ⟨0, Nat.zero_le _, rfl, rfl, Below.refl _ _⟩
  case round =>
    obtain ⟨j, hj, hg, rfl, hbwr⟩ := hrel
    have HG : Hid (gk = ss.length - j) := hg
    clear hg
    by_cases hlt : j < ss.length
    · have hlt' : j < ts.length := by have := HLN.out; omega
      have hmj : ss[j].m = ts[j].m := by
        have h := congrArg (fun l => l[j]?) hm
        simp only [List.getElem?_map, List.getElem?_eq_getElem hlt, List.getElem?_eq_getElem hlt', Option.map_some, Option.some.injEq] at h
        exact h
      have hn0 : ss[j].n = ts[j].n := congrArg (fun p => p.1) hmj
      have hn2 : (ss[j].n != ts[j].n) = false := by simp [hn0]
      have hf : ss[j].f.ty = ts[j].f.ty := congrArg (fun p => p.2.1) hmj
      have htt : ss[j].t.ty = ts[j].t.ty := congrArg (fun p => p.2.2) hmj
      obtain ⟨bx, ox, ea, x0, x1, x2, x3, x4, xf, xt⟩ := hs j hlt
      obtain ⟨by_, oy, eb, y0, y1, y2, y3, y4, yf, yt⟩ := ht j hlt'
      replace x0 := cell_later hbwr x0
      replace x1 := cell_later hbwr x1
      replace x2 := cell_later hbwr x2
      replace x3 := cell_later hbwr x3
      replace x4 := cell_later hbwr x4
      replace y0 := cell_later hbwr y0
      replace y1 := cell_later hbwr y1
      replace y2 := cell_later hbwr y2
      replace y3 := cell_later hbwr y3
      replace y4 := cell_later hbwr y4
      have HF : Hid (∀ W, Below w.heap.size w W → Calls Tryd.prog 16 #[.agg #[.int .i64 ss[j].f.k, .slice ss[j].f.a ss[j].f.l.length ss[j].f.c], .agg #[.int .i64 ts[j].f.k, .slice ts[j].f.a ts[j].f.l.length ts[j].f.c]] W fun e w' => e = .returned (.bool true) ∧ Below W.heap.size W w') := by
        intro W hb
        have := sameType_any _ ss[j].f ts[j].f W (xf.below hb) (yf.below hb) (Nat.le_refl _) (hsm _ (List.getElem_mem hlt)).1
        rw [hf, relY_refl] at this
        exact this
      have HT : Hid (∀ W, Below w.heap.size w W → Calls Tryd.prog 16 #[.agg #[.int .i64 ss[j].t.k, .slice ss[j].t.a ss[j].t.l.length ss[j].t.c], .agg #[.int .i64 ts[j].t.k, .slice ts[j].t.a ts[j].t.l.length ts[j].t.c]] W fun e w' => e = .returned (.bool true) ∧ Below W.heap.size W w') := by
        intro W hb
        have := sameType_any _ ss[j].t ts[j].t W (xt.below hb) (yt.below hb) (Nat.le_refl _) (hsm _ (List.getElem_mem hlt)).2
        rw [htt, relY_refl] at this
        exact this
      have i1 : (j : Int) < (ss.length : Int) := by omega
      have i2 : (j : Int) < (ts.length : Int) := by omega
      have i0 : (0 : Int) ≤ (j : Int) := by omega
      have HS : Hid (a = some ⟨bx, ox, none⟩ ∧ b = some ⟨by_, oy, none⟩) := ⟨ea, eb⟩
      rw [ea, eb]
      clear ea eb hn0 hmj hf htt xf xt yf yt hs ht hm hsm
      go_wp2_with fail
      go_region_held3 (fun w' => w'.cell? ⟨bx, ox + j * 5, none⟩ = some (.int .i64 ss[j].n) ∧ w'.cell? ⟨bx, ox + j * 5 + 1, none⟩ = some (.int .i64 ss[j].f.k) ∧ w'.cell? ⟨bx, ox + j * 5 + 2, none⟩ = some (.slice ss[j].f.a ss[j].f.l.length ss[j].f.c) ∧ w'.cell? ⟨bx, ox + j * 5 + 3, none⟩ = some (.int .i64 ss[j].t.k) ∧ w'.cell? ⟨bx, ox + j * 5 + 4, none⟩ = some (.slice ss[j].t.a ss[j].t.l.length ss[j].t.c) ∧ w'.cell? ⟨by_, oy + j * 5, none⟩ = some (.int .i64 ts[j].n) ∧ w'.cell? ⟨by_, oy + j * 5 + 1, none⟩ = some (.int .i64 ts[j].f.k) ∧ w'.cell? ⟨by_, oy + j * 5 + 2, none⟩ = some (.slice ts[j].f.a ts[j].f.l.length ts[j].f.c) ∧ w'.cell? ⟨by_, oy + j * 5 + 3, none⟩ = some (.int .i64 ts[j].t.k) ∧ w'.cell? ⟨by_, oy + j * 5 + 4, none⟩ = some (.slice ts[j].t.a ts[j].t.l.length ts[j].t.c))
        (first | exact ⟨cell_later hb2 x0, cell_later hb2 x1, cell_later hb2 x2, cell_later hb2 x3, cell_later hb2 x4, cell_later hb2 y0, cell_later hb2 y1, cell_later hb2 y2, cell_later hb2 y3, cell_later hb2 y4⟩ | exact ⟨cell_later hb23 x0, cell_later hb23 x1, cell_later hb23 x2, cell_later hb23 x3, cell_later hb23 x4, cell_later hb23 y0, cell_later hb23 y1, cell_later hb23 y2, cell_later hb23 y3, cell_later hb23 y4⟩ | go_keep)
        (first
          | (go_at_call 16; refine (HF.out _ hbwr.drew).mono ?_; rintro e w2 ⟨rfl, hb2⟩; clear HF)
          | (go_at_call 16; refine (HT.out _ (hbwr.drew.trans (hb2.mono hbwr.size))).mono ?_; rintro e w3 ⟨rfl, hb3⟩; have hb23 := hb2.trans (hb3.mono hb2.size); clear HT))
      have hbz : Below w.heap.size w w3 := hbwr.drew.trans (hb23.mono hbwr.size)
      clear hb2 hb3 hb23 x0 x1 x2 x3 x4 y0 y1 y2 y3 y4
      go_wp2_with fail
      rw [← HS.out.1, ← HS.out.2]
      go_roundg (ss.length - (j + 1))
      case measure => rw [HG.out]; omega
      case rel => exact ⟨j + 1, by omega, rfl, by go_num, hbz⟩
    · go_wp2_with fail
      go_ret
      exact ⟨rfl, hbwr⟩
end Go.Proofs.YtnddkmccagiclaaDoor

/-
  Casts in a row, and a row of terms still to be looked at, the first of them first; no run of the program in it.
-/
namespace Go.Proofs.YtnddkmccagiclaaDoor
open Go.RowKit
/-- append of nothing to nothing. -/
theorem step_append_none {P : Program} {ops : Array Oper} {o : Oper} {a : Act} {w : World} {K : Act → World → Prop} {Q : Exit → Act → World → Prop} {E : Prop}
    (hg : o.guard = none) (s x : Operand) (t : TypeId) (hop : o.op = Op.call { callee := Callee.builtin Builtin.append, args := #[s, x], argTypes := #[t, t] })
    (e : TypeId) (i : TypeInfo) (h1 : P.underlying t = some (.slice e)) (h2 : P.info? e = some i)
    (hs : a.eval s = .slice none 0 0) (xa : Option Addr) (c : Nat) (hx : a.eval x = .slice xa 0 c)
    (hK : K (a.put o.dst (.slice none 0 0)) w) :
    if Region.wanted o (yielded ops a.tmps) = true then Oper.wp P o a w K Q else E := by
  have hw : Region.wanted o (yielded ops a.tmps) = true := by simp [Region.wanted, hg]
  rw [if_pos hw]
  have hsrc : Src P i.size t (.slice xa 0 c) 0 [] w := by
    cases xa with
    | none => exact Src.ofNil w h1 c
    | some ad => exact Src.ofSlice w h1 ad 0 c [] (by simp) (fun j u h => by simp at h) (fun u h => by cases h)
  have hrun : (Builtin.append_ #[t, t] o.type #[.slice none 0 0, .slice xa 0 c]).run P w = .ok (.slice none 0 0) w := by
    simp [Builtin.append_, run_underlying h1, sizeOf, typeInfo, h2, hsrc.len, hsrc.cells]
  unfold Oper.wp
  simp only [execOp, hop, resolve, invoke, builtin, Sem.run_bind, Sem.run_pure, Result.andThen_ok, List.map_toArray, List.map_cons, List.map_nil, hs, hx, hrun]
  exact hK
/-- The two rows; the terms and the casts' types lie below. -/
structure SJ (B : Nat) (v u : Value) (ps : List TT) (ss : List St) (w : World) : Prop where
  ov : w.ownsRow B 27 7 v ps.length (cells7 ps)
  ou : w.ownsRow B 46 5 u ss.length (cells5 ss)
  ne : ∀ g, v.ownBlock = some g → u.ownBlock ≠ some g
  pi : ∀ p, p ∈ ps → p.In w ∧ p.Bl (· < B)
  si : ∀ s, s ∈ ss → (s.f.In w ∧ s.f.Bl (· < B)) ∧ s.t.In w ∧ s.t.Bl (· < B)
theorem SJ.below {B : Nat} {v u : Value} {ps : List TT} {ss : List St} {w w' : World} (h : SJ B v u ps ss w) (hb : Below w.heap.size w w') : SJ B v u ps ss w' :=
  ⟨ownsRow_below h.ov hb, ownsRow_below h.ou hb, h.ne, fun p hp => ⟨(h.pi p hp).1.below hb, (h.pi p hp).2⟩, fun s hs => ⟨⟨(h.si s hs).1.1.below hb, (h.si s hs).1.2⟩, (h.si s hs).2.1.below hb, (h.si s hs).2.2⟩⟩
/-- One more cast. -/
theorem SJ.push {B : Nat} {v u : Value} {ps : List TT} {ss : List St} {w2 w3 : World} {s : St} {gg cap1 : Nat} (h : SJ B v u ps ss w2) (hB : B ≤ w2.heap.size) (hs : (s.f.In w2 ∧ s.f.Bl (· < B)) ∧ s.t.In w2 ∧ s.t.Bl (· < B))
    (hown : w3.ownsRow B 46 5 (.slice (some ⟨gg, 0, none⟩) (ss.length + 1) cap1) (ss.length + 1) (cells5 ss ++ cell5 s)) (hgrow : w2.grownBy w3 u.ownBlock) (hat : u.ownBlock = some gg ∨ w2.heap.size ≤ gg) :
    SJ B v (.slice (some ⟨gg, 0, none⟩) (ss.length + 1) cap1) ps (ss ++ [s]) w3 ∧ Below B w2 w3 := by
  have hlow : Below B w2 w3 := ⟨hgrow.os, hgrow.tape, hgrow.output, hgrow.size, fun k hk => hgrow.block k (by omega) (fun e => by have := (h.ou.lt k e.symm).1; omega)⟩
  have hT : ∀ t : Tr, t.In w2 → t.Bl (· < B) → t.In w3 := fun t h1 h2 => h1.congr (P := (· < B)) (fun b hb o => hlow.cell (p := ⟨b, o, none⟩) hb) h2
  have hP : ∀ t : TT, t.In w2 → t.Bl (· < B) → t.In w3 := fun t h1 h2 => h1.congr (P := (· < B)) (fun b hb o => hlow.cell (p := ⟨b, o, none⟩) hb) h2
  refine ⟨⟨?_, ?_, ?_, fun p hp => ⟨hP p (h.pi p hp).1 (h.pi p hp).2, (h.pi p hp).2⟩, fun q hq => ?_⟩, hlow⟩
  · exact ownsRow_blk h.ov fun k hk => hgrow.block k (h.ov.lt k hk).2 (fun e => h.ne k hk e.symm)
  · rw [cells5_append, cells5_one, List.length_append, List.length_singleton]
    exact hown
  · intro g hg e
    have : gg = g := Option.some.inj e
    subst this
    rcases hat with e1 | e1
    · exact h.ne _ hg e1
    · have := (h.ov.lt _ hg).2; omega
  · have key : (q.f.In w2 ∧ q.f.Bl (· < B)) ∧ q.t.In w2 ∧ q.t.Bl (· < B) := by
      rcases List.mem_append.1 hq with hq | hq
      · exact h.si q hq
      · rcases List.mem_singleton.1 hq with rfl
        exact hs
    exact ⟨⟨hT _ key.1.1 key.1.2, key.1.2⟩, hT _ key.2.1 key.2.2, key.2.2⟩
/-- Another row of terms, in new blocks. -/
theorem SJ.turn {B : Nat} {v v' u : Value} {ps qs : List TT} {ss : List St} {w2 w3 : World} (h : SJ B v u ps ss w2) (hB : B ≤ w2.heap.size) (hk : ∀ k, k < w2.heap.size → w3.heap[k]? = w2.heap[k]?) (hown : w3.ownsRow B 27 7 v' qs.length (cells7 qs)) (hv : ∀ g, v'.ownBlock = some g → w2.heap.size ≤ g) (hq : ∀ q, q ∈ qs → q.In w2 ∧ q.Bl (· < B)) : SJ B v' u qs ss w3 := by
  have hT : ∀ t : Tr, t.In w2 → t.Bl (· < B) → t.In w3 := fun t h1 h2 => h1.congr (P := (· < B)) (fun b hb o => World.cell?_of_block (a := ⟨b, o, none⟩) (hk b (by omega))) h2
  have hP : ∀ t : TT, t.In w2 → t.Bl (· < B) → t.In w3 := fun t h1 h2 => h1.congr (P := (· < B)) (fun b hb o => World.cell?_of_block (a := ⟨b, o, none⟩) (hk b (by omega))) h2
  exact ⟨hown, ownsRow_blk h.ou fun k e => hk k (h.ou.lt k e).2, fun g e e2 => (by have h1 := hv g e; have h2 := (h.ou.lt g e2).2; omega), fun p hp => ⟨hP p (hq p hp).1 (hq p hp).2, (hq p hp).2⟩, fun s hs => ⟨⟨hT _ (h.si s hs).1.1 (h.si s hs).1.2, (h.si s hs).1.2⟩, hT _ (h.si s hs).2.1 (h.si s hs).2.2, (h.si s hs).2.2⟩⟩
theorem SJ.list {B : Nat} {v u : Value} {ps : List TT} {ss : List St} {w : World} (h : SJ B v u ps ss w) : ∃ a c, u = .slice a ss.length c ∧ (SL w a ss ∧ ss.length ≤ c) := by
  rcases h.ou.2 with ⟨rfl, h0⟩ | ⟨g, cap, cur, rfl, hg, _, hcl, _⟩
  · have : ss = [] := List.length_eq_zero_iff.1 h0
    subst this
    exact ⟨none, 0, rfl, fun j hj => absurd hj (by simp), by simp⟩
  · refine ⟨_, _, rfl, fun j hj => ⟨g, 0, rfl, ?_⟩, hcl⟩
    have hc : ∀ i, i < 5 → w.cell? ⟨g, 0 + j * 5 + i, none⟩ = _ := fun i hi => by rw [Nat.zero_add, h.ou.cellAt (j * 5 + i) (by omega), cells5_at ss j hj i hi]
    exact ⟨hc 0 (by omega), hc 1 (by omega), hc 2 (by omega), hc 3 (by omega), hc 4 (by omega), (h.si _ (List.getElem_mem hj)).1.1, (h.si _ (List.getElem_mem hj)).2.1⟩
/-- What is still to come. -/
def toGo (ps : List TT) : List (Int × Ty × Ty) := ps.flatMap fun p => sitesM p.tm
theorem toGo_cons (p : TT) (us : List TT) : toGo (p :: us) = (if p.k = 10 then [(p.n, p.f.ty, p.t.ty)] else []) ++ toGo (p.l ++ us) := by
  obtain ⟨k, n, t, f, a, c, l⟩ := p
  simp only [toGo, List.flatMap_cons, List.flatMap_append]
  rw [TT.tm_mk, sitesM_mk, List.flatMap_map, List.append_assoc]
theorem sites_len : ∀ y : TT, (sitesM y.tm).length ≤ y.sz := by
  intro y
  induction y using TT.ind with
  | h k n t f a c l ih =>
    rw [TT.tm_mk, sitesM_mk, TT.sz_mk]
    have h3 : ∀ l : List TT, (∀ z, z ∈ l → (sitesM z.tm).length ≤ z.sz) → ((l.map TT.tm).flatMap sitesM).length ≤ (l.map TT.sz).sum := by
      intro l
      induction l with
      | nil => intro _; simp
      | cons z r ihr => intro h; have := h z (by simp); have := ihr fun q hq => h q (by simp [hq]); simp only [List.map_cons, List.flatMap_cons, List.length_append, List.sum_cons]; omega
    have := h3 l ih
    have h1 : (if k = 10 then [(n, f.ty, t.ty)] else []).length ≤ 1 := by split <;> simp
    rw [List.length_append]
    omega
end Go.Proofs.YtnddkmccagiclaaDoor
