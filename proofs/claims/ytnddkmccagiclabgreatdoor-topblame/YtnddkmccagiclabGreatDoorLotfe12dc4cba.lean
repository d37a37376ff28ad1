/-
  What the call of kind.Join answers at two right trees of which the first has at most a thousand levels.
-/
import Derived.Test.YtnddkmccagiclabGreatDoorLote6df889150
import Derived.Test.YtnddkmccagiclabGreatDoorLot42705c515c
import Derived.Deep.LoopGhost
import Derived.Shelf.Strconv.Itoa3
import Derived.Lib.SlicesS
import Derived.Deep.AppendLies
import Derived.Deep.RegionLaw
namespace Go.Proofs.YtnddkmccagiclabGreatDoor
open Go.RowKit
/-- The list that is put off, and what is joined: the one pair, or none. -/
def OffJ (R : Nat) (x y : Tr) (k : Nat) (wr : World) : Prop :=
  wr.frozen? ⟨R + 1, 0, none⟩ = false ∧ wr.frozen? ⟨R, 0, none⟩ = false ∧ wr.frozen? ⟨R, 1, none⟩ = false ∧
  ((k = 1 ∧ wr.cell? ⟨R, 0, none⟩ = some (.int .i64 0) ∧ wr.cell? ⟨R, 1, none⟩ = some (.slice none 0 0) ∧ ∃ g cap, wr.cell? ⟨R + 1, 0, none⟩ = some (.slice (some ⟨g, 0, none⟩) 1 cap) ∧ wr.ownsRow (R + 2) 141 5 (.slice (some ⟨g, 0, none⟩) 1 cap) 1 [.int .i64 x.k, .slice x.a x.l.length x.c, .int .i64 y.k, .slice y.a y.l.length y.c, .pointer (some ⟨R, 0, none⟩)])
    ∨ (k = 0 ∧ (∃ t : Tr, t.ty = joinY x.ty y.ty ∧ t.In wr ∧ t.Bl (R < ·) ∧ wr.cell? ⟨R, 0, none⟩ = some (.int .i64 t.k) ∧ wr.cell? ⟨R, 1, none⟩ = some (.slice t.a t.l.length t.c)) ∧ ∃ a cap, wr.cell? ⟨R + 1, 0, none⟩ = some (.slice a 0 cap)))
set_option maxHeartbeats 1000000 in
/-- kind.Join. -/
theorem join_whole (x y : Tr) (w : World) (hx : x.In w) (hy : y.In w) (rx : x.right) (ry : y.right) (hh : x.hgt ≤ 1000) :
    Calls Tryz.prog 71 #[.agg #[.int .i64 x.k, .slice x.a x.l.length x.c], .agg #[.int .i64 y.k, .slice y.a y.l.length y.c]] w fun e w' => ∃ t : Tr, e = .returned (.agg #[.int .i64 t.k, .slice t.a t.l.length t.c]) ∧ t.ty = joinY x.ty y.ty ∧ t.In w' ∧ t.Bl (w.heap.size ≤ ·) ∧ Below w.heap.size w w' := by
  have HC : Hid (∀ (rp : Option Addr) (ib io : Nat) (w : World), x.In w → y.In w → w.cell? ⟨ib, io, none⟩ = some (.int .i64 0) → w.cell? ⟨ib, io + 1, none⟩ = some (.slice none 0 0) → w.frozen? ⟨ib, io, none⟩ = false → w.frozen? ⟨ib, io + 1, none⟩ = false →
    Calls Tryz.prog 110 #[.agg #[.int .i64 x.k, .slice x.a x.l.length x.c, .int .i64 y.k, .slice y.a y.l.length y.c, .pointer (some ⟨ib, io, none⟩)], .int .i64 1000, .pointer rp] w fun e w' => e = .returned (.tuple #[]) ∧ Joined x y ib io w w') := fun rp ib io w h1 h2 => join_any 1000 (Nat.le_refl _) x y rp ib io w h1 h2 rx ry hh
  go_enter Tryz.func71, Tryz.ntmps71
  go_wp2_with fail
  obtain ⟨W0, hW0⟩ : ∃ W0, W0 = (((w.alloc (Obj.cells #[.int .i64 x.k, .slice x.a x.l.length x.c] 24)).alloc (Obj.cells #[.int .i64 y.k, .slice y.a y.l.length y.c] 24)).alloc (Obj.cells #[.int .i64 0, .slice none 0 0] 24)) := ⟨_, rfl⟩
  have hs0 : W0.heap.size = w.heap.size + 1 + 1 + 1 := by rw [hW0]; simp
  have hbw0 : Below w.heap.size w W0 := by rw [hW0]; exact (((Below.refl _ _).alloc (Nat.le_refl _) _).alloc (by simp) _).alloc (by simp; omega) _
  have r0 : W0.cell? ⟨w.heap.size + 1 + 1, 0, none⟩ = some (.int .i64 0) := by rw [hW0]; simp [go_sem]
  have r1 : W0.cell? ⟨w.heap.size + 1 + 1, 1, none⟩ = some (.slice none 0 0) := by rw [hW0]; simp [go_sem]
  have r2 : ∀ o, W0.frozen? ⟨w.heap.size + 1 + 1, o, none⟩ = false := by intro o; rw [hW0]; simp [go_sem]
  rw [← hW0]
  clear hW0
  have u0 : ((W0.alloc (Obj.cells #[.int .i64 0, .slice none 0 0] 24)).alloc (Obj.cells #[.slice none 0 0] 137)).cell? ⟨w.heap.size + 1 + 1 + 1, 0, none⟩ = some (.int .i64 0) := by rw [← hs0]; simp [go_sem]
  have u1 : ((W0.alloc (Obj.cells #[.int .i64 0, .slice none 0 0] 24)).alloc (Obj.cells #[.slice none 0 0] 137)).cell? ⟨w.heap.size + 1 + 1 + 1, 1, none⟩ = some (.slice none 0 0) := by rw [← hs0]; simp [go_sem]
  have u2 : ∀ o, ((W0.alloc (Obj.cells #[.int .i64 0, .slice none 0 0] 24)).alloc (Obj.cells #[.slice none 0 0] 137)).frozen? ⟨w.heap.size + 1 + 1 + 1, o, none⟩ = false := by intro o; rw [← hs0]; simp [go_sem]
  refine (put_any (w.heap.size + 1 + 1 + 1 + 1) (.slice none 0 0) 0 [] x.k y.k x.a y.a x.l.length y.l.length x.c y.c (some ⟨w.heap.size + 1 + 1 + 1, 0, none⟩) _ (by rw [← hs0]; simp [go_sem]) (by rw [← hs0]; simp [go_sem]) (World.ownsRow_nil _ _ _ _) (by omega)).mono ?_
  rintro e w1 ⟨rfl, g, cap, hc1, hf1, ho1, _, hk1⟩
  have hb1 : Below (w.heap.size + 1 + 1 + 1) W0 w1 := by
    have h := hk1.below (by simp [Value.ownBlock]) (by simp [hs0])
    have h' : Below W0.heap.size W0 ((W0.alloc (Obj.cells #[.int .i64 0, .slice none 0 0] 24)).alloc (Obj.cells #[.slice none 0 0] 137)) := ((Below.refl _ _).alloc (Nat.le_refl _) _).alloc (by simp) _
    rw [hs0] at h'
    exact h'.trans (h.mono (by omega))
  have hblk := hk1.below (by simp [Value.ownBlock]) (by simp [hs0])
  have HO : Hid (OffJ (w.heap.size + 1 + 1 + 1) x y 1 w1) :=
    ⟨hf1, (hblk.frozen (p := ⟨w.heap.size + 1 + 1 + 1, 0, none⟩) (by simp)).trans (u2 0), (hblk.frozen (p := ⟨w.heap.size + 1 + 1 + 1, 1, none⟩) (by simp)).trans (u2 1), .inl ⟨rfl, (hblk.cell (p := ⟨w.heap.size + 1 + 1 + 1, 0, none⟩) (by simp)).trans u0, (hblk.cell (p := ⟨w.heap.size + 1 + 1 + 1, 1, none⟩) (by simp)).trans u1, g, cap, by simpa using hc1, by simpa using ho1⟩⟩
  clear hc1 hf1 ho1 hk1 u0 u1 u2 hblk
  have HR0 : Hid (W0.cell? ⟨w.heap.size + 1 + 1, 0, none⟩ = some (.int .i64 0) ∧ W0.cell? ⟨w.heap.size + 1 + 1, 1, none⟩ = some (.slice none 0 0) ∧ ∀ o, W0.frozen? ⟨w.heap.size + 1 + 1, o, none⟩ = false) := ⟨r0, r1, r2⟩
  have HS0 : Hid (W0.heap.size = w.heap.size + 1 + 1 + 1) := hs0
  clear r0 r1 r2 hs0
  go_wp2_with fail
  go_loopg [] 1 (fun k wr => Hid (OffJ (w.heap.size + 1 + 1 + 1) x y k wr) ∧ Below (w.heap.size + 1 + 1 + 1) W0 wr)
  case atStart => exact ⟨HO, hb1⟩
  case round =>
    obtain ⟨HR, hbr⟩ := hrel
    have hbwr : Below w.heap.size w wr := hbw0.trans (hbr.mono (by omega))
    obtain ⟨hfr, g0, g1, ⟨rfl, z0, z1, g, cap, hc, ho⟩ | ⟨rfl, ⟨t, ht, hin, hbl, t0, t1⟩, a, cap, hc⟩⟩ := HR.out
    · have c0 := ho.cellAt 0 (by omega)
      have c1 := ho.cellAt 1 (by omega)
      have c2 := ho.cellAt 2 (by omega)
      have c3 := ho.cellAt 3 (by omega)
      have c4 := ho.cellAt 4 (by omega)
      simp only [List.getElem?_cons_zero, List.getElem?_cons_succ] at c0 c1 c2 c3 c4
      have hcap : 1 ≤ cap := by
        rcases ho.2 with ⟨h, _⟩ | ⟨g', cap', cur, h, _, _, h1, _⟩
        · cases h
        · cases h; exact h1
      have hlr : w.heap.size + 1 + 1 + 1 + 1 < wr.heap.size := World.block_lt_of_cell? _ _ hc
      clear ho HR HO
      go_wp2_with fail
      refine (empty_any (w.heap.size + 1 + 1 + 1 + 1) (some ⟨g, 0, none⟩) 1 cap _ hc).mono ?_
      rintro e w' ⟨rfl, rfl⟩
      go_wp2_with fail
      refine (take_any (w.heap.size + 1 + 1 + 1 + 1) g 0 cap x.k y.k x.a y.a x.l.length y.l.length x.c y.c (some ⟨w.heap.size + 1 + 1 + 1, 0, none⟩) _ (by simpa using hc) hfr (by omega) (by omega) (by simpa using c0) (by simpa using c1) (by simpa using c2) (by simpa using c3) (by simpa using c4)).mono ?_
      rintro e w' ⟨rfl, rfl⟩
      go_wp2_with fail
      obtain ⟨WT, hWT⟩ : ∃ WT, WT = ((w'.setCell ⟨w.heap.size + 1 + 1 + 1 + 1, 0, none⟩ (.slice (some ⟨g, 0, none⟩) 0 cap)).alloc (.cells #[.int .i64 x.k, .slice x.a x.l.length x.c, .int .i64 y.k, .slice y.a y.l.length y.c, .pointer (some ⟨w.heap.size + 1 + 1 + 1, 0, none⟩)] 141)).alloc (.cells #[.int .i64 x.k, .slice x.a x.l.length x.c, .int .i64 y.k, .slice y.a y.l.length y.c, .pointer (some ⟨w.heap.size + 1 + 1 + 1, 0, none⟩)] 141) := ⟨_, rfl⟩
      have hbt : Below (w.heap.size + 1 + 1 + 1 + 1) w' WT := by
        rw [hWT]
        exact (((Below.refl _ _).setCell (by simp) _).alloc (by simp [World.setCell]; omega) _).alloc (by simp [World.setCell]; omega) _
      have hsT : w'.heap.size ≤ WT.heap.size := hbt.size
      have hcT : WT.cell? ⟨w.heap.size + 1 + 1 + 1 + 1, 0, none⟩ = some (.slice (some ⟨g, 0, none⟩) 0 cap) := by
        rw [hWT]
        exact cell_later (((Below.refl _ _).alloc (Nat.le_refl _) _).alloc (by simp) _) (World.cell?_setCell_same _ _ _ hc)
      have hfT : WT.frozen? ⟨w.heap.size + 1 + 1 + 1 + 1, 0, none⟩ = false := by
        rw [hWT]
        simp [frozen?_alloc_cells, hfr]
      rw [← hWT]
      have hbT : Below w.heap.size w WT := hbwr.trans (hbt.mono (by omega))
      refine (HC.out _ (w.heap.size + 1 + 1 + 1) 0 WT (hx.below hbT) (hy.below hbT) ((hbt.cell (p := ⟨w.heap.size + 1 + 1 + 1, 0, none⟩) (by simp)).trans z0) ((hbt.cell (p := ⟨w.heap.size + 1 + 1 + 1, 1, none⟩) (by simp)).trans z1) ((hbt.frozen (p := ⟨w.heap.size + 1 + 1 + 1, 0, none⟩) (by simp)).trans g0) ((hbt.frozen (p := ⟨w.heap.size + 1 + 1 + 1, 1, none⟩) (by simp)).trans g1)).mono ?_
      rintro e w5 ⟨rfl, t, ht, hin, hbl, t0, t1, hw⟩
      have hbl' : w5.heap[w.heap.size + 1 + 1 + 1 + 1]? = WT.heap[w.heap.size + 1 + 1 + 1 + 1]? := hw.block _ (by omega) (by omega)
      have HO5 : Hid (OffJ (w.heap.size + 1 + 1 + 1) x y 0 w5) :=
        ⟨(World.frozen?_of_block (a := ⟨w.heap.size + 1 + 1 + 1 + 1, 0, none⟩) hbl').trans hfT, (hw.frozen 0).trans ((hbt.frozen (p := ⟨w.heap.size + 1 + 1 + 1, 0, none⟩) (by simp)).trans g0), (hw.frozen 1).trans ((hbt.frozen (p := ⟨w.heap.size + 1 + 1 + 1, 1, none⟩) (by simp)).trans g1),
          .inr ⟨rfl, ⟨t, ht, hin, hbl.mono fun b hb => by omega, t0, t1⟩, _, _, (World.cell?_of_block (a := ⟨w.heap.size + 1 + 1 + 1 + 1, 0, none⟩) hbl').trans hcT⟩⟩
      have hb5 : Below (w.heap.size + 1 + 1 + 1) W0 w5 := hbr.trans ((hbt.mono (by omega)).trans (hw.under (by omega)))
      clear hWT hbt hcT hfT hbT ht hin hbl t0 t1 hw hbl' z0 z1 g0 g1 hfr hc c0 c1 c2 c3 c4
      go_wp2_with fail
      go_roundg 0
      case measure => omega
      case rel => exact ⟨HO5, hb5⟩
    · go_wp2_with fail
      refine (empty_any (w.heap.size + 1 + 1 + 1 + 1) a 0 cap _ hc).mono ?_
      rintro e w' ⟨rfl, rfl⟩
      have v0 := (hbr.cell (p := ⟨w.heap.size + 1 + 1, 0, none⟩) (by simp)).trans HR0.out.1
      have v1 := (hbr.cell (p := ⟨w.heap.size + 1 + 1, 1, none⟩) (by simp)).trans HR0.out.2.1
      have v2 := (hbr.frozen (p := ⟨w.heap.size + 1 + 1, 0, none⟩) (by simp)).trans (HR0.out.2.2 0)
      have v3 := (hbr.frozen (p := ⟨w.heap.size + 1 + 1, 1, none⟩) (by simp)).trans (HR0.out.2.2 1)
      have HT : Hid (t.ty = joinY x.ty y.ty) := ht
      clear ht HR HO hc hfr g0 g1
      go_wp2_with fail
      refine bodyPost_ret (v := .agg #[.int .i64 t.k, .slice t.a t.l.length t.c]) ?_ rfl ⟨t, rfl, HT.out, set_keeps hin (hbl.mono fun b hb => by omega), hbl.mono fun b hb => by omega, (hbwr.setCell (by simp; omega) _).setCell (by simp; omega) _⟩
      have hh := set_cells (u := .int .i64 t.k) (v := .slice t.a t.l.length t.c) v0 v1
      simp [results, Tryz.results71, go_sem, hh.1, hh.2]
end Go.Proofs.YtnddkmccagiclabGreatDoor

/-
  What the call of kind.fits answers at two trees that lie in memory, where there is room for all levels of the first.
-/
namespace Go.Proofs.YtnddkmccagiclabGreatDoor
open Go.RowKit
set_option maxHeartbeats 400000 in
theorem fits_left (n : Nat) (hn : n ≤ 1000) (k' : Int) (a a' : Option Addr) (m m' c c' : Nat) (rp : Option Addr) (w : World) :
    Calls Tryz.prog 146 #[.agg #[.int .i64 0, .slice a m c], .agg #[.int .i64 k', .slice a' m' c'], .int .i64 ((n : Int) + 1), .pointer rp] w fun e w' => e = .returned (.bool true) ∧ Below w.heap.size w w' := by
  have hz : (((n : Int) + 1) == 0) = false := by simp; omega
  go_enter Tryz.func146, Tryz.ntmps146
  go_wp2_with fail
  go_ret
  exact ⟨rfl, ((Below.refl _ _).alloc (Nat.le_refl _) _).alloc (by simp) _⟩
set_option maxHeartbeats 400000 in
theorem fits_right (n : Nat) (hn : n ≤ 1000) (k : Int) (hk : (k == 0) = false) (a a' : Option Addr) (m m' c c' : Nat) (rp : Option Addr) (w : World) :
    Calls Tryz.prog 146 #[.agg #[.int .i64 k, .slice a m c], .agg #[.int .i64 0, .slice a' m' c'], .int .i64 ((n : Int) + 1), .pointer rp] w fun e w' => e = .returned (.bool true) ∧ Below w.heap.size w w' := by
  have hz : (((n : Int) + 1) == 0) = false := by simp; omega
  go_enter Tryz.func146, Tryz.ntmps146
  go_wp2_with fail
  go_ret
  exact ⟨rfl, ((Below.refl _ _).alloc (Nat.le_refl _) _).alloc (by simp) _⟩
set_option maxHeartbeats 1000000 in
theorem fits_step (n : Nat) (hn : n ≤ 1000) (x y : Tr) (rp : Option Addr) (w : World) (hx : x.In w) (hy : y.In w) (hh : x.hgt ≤ n + 1) (hs : x.sm) (e1 : (x.k == 0) = false) (e2 : (y.k == 0) = false)
    (ih : Hid (∀ (x y : Tr) (w : World), x.In w → y.In w → x.hgt ≤ n → x.sm → Calls Tryz.prog 146 #[.agg #[.int .i64 x.k, .slice x.a x.l.length x.c], .agg #[.int .i64 y.k, .slice y.a y.l.length y.c], .int .i64 (n : Int), .pointer rp] w fun e w' => e = .returned (.bool (relY escFits x.ty y.ty)) ∧ Below w.heap.size w w')) :
    Calls Tryz.prog 146 #[.agg #[.int .i64 x.k, .slice x.a x.l.length x.c], .agg #[.int .i64 y.k, .slice y.a y.l.length y.c], .int .i64 ((n : Int) + 1), .pointer rp] w fun e w' => e = .returned (.bool (relY escFits x.ty y.ty)) ∧ Below w.heap.size w w' := by
  have hz : (((n : Int) + 1) == 0) = false := by simp; omega
  have hlen := hs.len
  by_cases ht0 : (x.k == y.k && (x.l.length : Int) == (y.l.length : Int)) = false
  · have ht : Hid ((x.k == y.k && (x.l.length : Int) == (y.l.length : Int)) = false) := ht0
    clear ht0
    go_enter Tryz.func146, Tryz.ntmps146
    go_wp2_with fail
    refine (alike_any _ _ _ _ _ _ _ _ false ht.out _).mono ?_
    rintro e w1 ⟨rfl, hb1⟩
    go_wp2_with fail
    go_ret
    refine ⟨?_, (((Below.refl _ _).alloc (Nat.le_refl _) _).alloc (by simp) _).trans (hb1.mono (by simp; omega))⟩
    rw [relY_top escFits x y (by simp [escFits, e1, e2]) ht.out]
    rfl
  · have ht' : Hid ((x.k == y.k && (x.l.length : Int) == (y.l.length : Int)) = true) := by simpa [Hid] using ht0
    clear ht0
    have hk : Hid (x.k = y.k) := by have h := ht'.out; simp at h; exact h.1
    have hl : Hid (x.l.length = y.l.length) := by have h := ht'.out; simp at h; exact Int.ofNat.inj h.2
    go_enter Tryz.func146, Tryz.ntmps146
    go_wp2_with fail
    refine (alike_any _ _ _ _ _ _ _ _ true ht'.out _).mono ?_
    rintro e w1 ⟨rfl, hb1⟩
    have hbw : Below w.heap.size w w1 := (((Below.refl _ _).alloc (Nat.le_refl _) _).alloc (by simp) _).trans (hb1.mono (by simp; omega))
    have p1 : w1.cell? ⟨w.heap.size, 1, none⟩ = some (.slice x.a x.l.length x.c) := cell_later hb1 (by simp [go_sem])
    have p3 : w1.cell? ⟨w.heap.size + 1, 1, none⟩ = some (.slice y.a y.l.length y.c) := cell_later hb1 (by simp [go_sem])
    clear hb1
    go_wp2_with fail
    go_loopw [32] (fun i wr => ∃ j : Nat, j ≤ x.l.length ∧ i = .int .i64 (j : Int) ∧ Below w1.heap.size w1 wr ∧ ∀ q (h : q < x.l.length) (h' : q < y.l.length), q < j → relY escFits x.l[q].ty y.l[q].ty = true) (fun i _ => x.l.length - (intOf i).toNat)
    case atStart => exact ⟨0, Nat.zero_le _, rfl, Below.refl _ _, fun q _ _ h => absurd h (by omega)⟩
    case round =>
      obtain ⟨j, hj, rfl, hbr, hall⟩ := hrel
      have HA : Hid (∀ q (h : q < x.l.length) (h' : q < y.l.length), q < j → relY escFits x.l[q].ty y.l[q].ty = true) := hall
      clear hall
      have hbwr : Below w.heap.size w wr := hbw.trans (hbr.mono hbw.size)
      by_cases hlt : j < x.l.length
      · have hlt' : j < y.l.length := hl.out ▸ hlt
        obtain ⟨b, o, ea, x0, x1, hxj⟩ := hx.part j hlt
        obtain ⟨b', o', eb, y0, y1, hyj⟩ := hy.part j hlt'
        have q1 : wr.cell? ⟨w.heap.size, 1, none⟩ = some (.slice (some ⟨b, o, none⟩) x.l.length x.c) := by rw [← ea]; exact cell_later hbr p1
        have q3 : wr.cell? ⟨w.heap.size + 1, 1, none⟩ = some (.slice (some ⟨b', o', none⟩) y.l.length y.c) := by rw [← eb]; exact cell_later hbr p3
        replace x0 := cell_later hbwr x0
        replace x1 := cell_later hbwr x1
        replace y0 := cell_later hbwr y0
        replace y1 := cell_later hbwr y1
        have i1 : (j : Int) < (x.l.length : Int) := by omega
        have i2 : (j : Int) < (y.l.length : Int) := by omega
        have i0 : (0 : Int) ≤ (j : Int) := by omega
        clear p1 p3 ea eb hx hy ht'
        have hwr : IntKind.i64.wrap (n : Int) = (n : Int) := wrap_small n hn
        obtain ⟨r, hr⟩ : ∃ r, relY escFits x.l[j].ty y.l[j].ty = r := ⟨_, rfl⟩
        have HC : Hid (∀ (w : World), x.l[j].In w → y.l[j].In w → Calls Tryz.prog 146 #[.agg #[.int .i64 x.l[j].k, .slice x.l[j].a x.l[j].l.length x.l[j].c], .agg #[.int .i64 y.l[j].k, .slice y.l[j].a y.l[j].l.length y.l[j].c], .int .i64 (n : Int), .pointer rp] w fun e w' => e = .returned (.bool r) ∧ Below w.heap.size w w') := by
          intro w h1 h2
          have := ih.out x.l[j] y.l[j] w h1 h2 (Tr.hgt_part hh j hlt) (hs.part j hlt)
          rw [hr] at this
          exact this
        have HR : Hid (relY escFits x.l[j].ty y.l[j].ty = r) := hr
        clear hr
        cases r
        · go_wp2_with fail
          go_region_held3 (fun w' => w'.cell? ⟨w.heap.size, 1, none⟩ = some (.slice (some ⟨b, o, none⟩) x.l.length x.c) ∧ w'.cell? ⟨w.heap.size + 1, 1, none⟩ = some (.slice (some ⟨b', o', none⟩) y.l.length y.c) ∧ w'.cell? ⟨b, o + j * 2, none⟩ = some (.int .i64 x.l[j].k) ∧ w'.cell? ⟨b, o + j * 2 + 1, none⟩ = some (.slice x.l[j].a x.l[j].l.length x.l[j].c) ∧ w'.cell? ⟨b', o' + j * 2, none⟩ = some (.int .i64 y.l[j].k) ∧ w'.cell? ⟨b', o' + j * 2 + 1, none⟩ = some (.slice y.l[j].a y.l[j].l.length y.l[j].c)) (first | exact ⟨cell_later hb2 q1, cell_later hb2 q3, cell_later hb2 x0, cell_later hb2 x1, cell_later hb2 y0, cell_later hb2 y1⟩ | go_keep) (first | (go_at_call 146; refine (HC.out _ (hxj.below hbwr.drew) (hyj.below hbwr.drew)).mono ?_; rintro e w2 ⟨rfl, hb2⟩))
          have hbr2 : Below w1.heap.size w1 w2 := hbr.drew.trans (hb2.mono hbr.size)
          go_wp2_with fail
          go_ret
          refine ⟨?_, hbw.trans (hbr2.mono hbw.size)⟩
          rw [relY_part_not escFits x y (by simp [escFits, e1, e2]) j hlt hlt' HR.out]
          rfl
        · go_wp2_with fail
          go_region_held3 (fun w' => w'.cell? ⟨w.heap.size, 1, none⟩ = some (.slice (some ⟨b, o, none⟩) x.l.length x.c) ∧ w'.cell? ⟨w.heap.size + 1, 1, none⟩ = some (.slice (some ⟨b', o', none⟩) y.l.length y.c) ∧ w'.cell? ⟨b, o + j * 2, none⟩ = some (.int .i64 x.l[j].k) ∧ w'.cell? ⟨b, o + j * 2 + 1, none⟩ = some (.slice x.l[j].a x.l[j].l.length x.l[j].c) ∧ w'.cell? ⟨b', o' + j * 2, none⟩ = some (.int .i64 y.l[j].k) ∧ w'.cell? ⟨b', o' + j * 2 + 1, none⟩ = some (.slice y.l[j].a y.l[j].l.length y.l[j].c)) (first | exact ⟨cell_later hb2 q1, cell_later hb2 q3, cell_later hb2 x0, cell_later hb2 x1, cell_later hb2 y0, cell_later hb2 y1⟩ | go_keep) (first | (go_at_call 146; refine (HC.out _ (hxj.below hbwr.drew) (hyj.below hbwr.drew)).mono ?_; rintro e w2 ⟨rfl, hb2⟩))
          have hbr2 : Below w1.heap.size w1 w2 := hbr.drew.trans (hb2.mono hbr.size)
          go_wp2_with fail
          go_roundw
          case rel =>
            refine ⟨j + 1, by omega, by go_num, hbr2, fun q h h' hq => ?_⟩
            by_cases e : q = j
            · subst e; exact HR.out
            · exact HA.out q h h' (by omega)
          case measure => simp [intOf]; omega
      · go_wp2_with fail
        go_ret
        refine ⟨?_, hbwr⟩
        rw [relY_parts escFits x y hk.out hl.out fun q h h' => HA.out q h h' (by omega)]
        rfl
theorem fits_any (n : Nat) : n ≤ 1000 → ∀ (x y : Tr) (rp : Option Addr) (w : World), x.In w → y.In w → x.hgt ≤ n → x.sm → Calls Tryz.prog 146 #[.agg #[.int .i64 x.k, .slice x.a x.l.length x.c], .agg #[.int .i64 y.k, .slice y.a y.l.length y.c], .int .i64 (n : Int), .pointer rp] w fun e w' => e = .returned (.bool (relY escFits x.ty y.ty)) ∧ Below w.heap.size w w' := by
  induction n with
  | zero =>
    intro _ x y rp w _ _ h
    have := x.hgt_pos
    omega
  | succ n ih =>
    intro hn x y rp w hx hy h hs
    have e : ((n + 1 : Nat) : Int) = (n : Int) + 1 := by omega
    rw [e]
    by_cases k1 : x.k = 0
    · rw [k1, relY_esc escFits x y (by simp [escFits, k1])]
      exact fits_left n (by omega) y.k x.a y.a _ _ _ _ rp w
    by_cases k2 : y.k = 0
    · rw [k2, relY_esc escFits x y (by simp [escFits, k2])]
      exact fits_right n (by omega) x.k (by simpa using k1) x.a y.a _ _ _ _ rp w
    exact fits_step n (by omega) x y rp w hx hy h hs (by simpa using k1) (by simpa using k2) (fun x y w hx hy h hs => ih (by omega) x y rp w hx hy h hs)
end Go.Proofs.YtnddkmccagiclabGreatDoor

/-
  What the calls of kind.holds (of kind.fits) and kind.Fits answer at two trees of which the first has at most a thousand levels.
-/
namespace Go.Proofs.YtnddkmccagiclabGreatDoor
open Go.RowKit
set_option maxHeartbeats 1000000 in
theorem holds_32 (x y : Tr) (r : Bool) (w : World) (hx : x.In w) (hy : y.In w)
    (HC : Hid (∀ (rp : Option Addr) (w : World), x.In w → y.In w → Calls Tryz.prog 146 #[.agg #[.int .i64 x.k, .slice x.a x.l.length x.c], .agg #[.int .i64 y.k, .slice y.a y.l.length y.c], .int .i64 1000, .pointer rp] w fun e w' => e = .returned (.bool r) ∧ Below w.heap.size w w')) :
    Calls Tryz.prog 44 #[.func (.func 146) #[] #[], .agg #[.int .i64 x.k, .slice x.a x.l.length x.c], .agg #[.int .i64 y.k, .slice y.a y.l.length y.c]] w fun e w' => e = .returned (.bool r) ∧ Below w.heap.size w w' := by
  go_enter Tryz.func44, Tryz.ntmps44
  go_wp2_with fail
  refine (put_any (w.heap.size + 1 + 1) (.slice none 0 0) 0 [] x.k y.k x.a y.a x.l.length y.l.length x.c y.c none _ (by simp [go_sem]) (by simp [go_sem]) (World.ownsRow_nil _ _ _ _) (by omega)).mono ?_
  rintro e w1 ⟨rfl, g, cap, hc1, hf1, ho1, _, hk1⟩
  have hbw : Below w.heap.size w w1 := ((((Below.refl _ _).alloc (Nat.le_refl _) _).alloc (by simp) _).alloc (by simp; omega) _).trans ((hk1.below (by simp [Value.ownBlock]) (by simp)).mono (by omega))
  have hsz : w.heap.size + 1 + 1 < w1.heap.size := World.block_lt_of_cell? _ _ hc1
  have HO : Hid (Off (w.heap.size + 1 + 1) x y r 1 w1) := ⟨hf1, .inl ⟨rfl, g, cap, by simpa using hc1, by simpa using ho1⟩⟩
  clear hc1 hf1 ho1 hk1
  go_wp2_with fail
  go_loopg [] 1 (fun k wr => Hid (Off (w.heap.size + 1 + 1) x y r k wr) ∧ Below w.heap.size w wr)
  case atStart => exact ⟨HO, hbw⟩
  case round =>
    obtain ⟨HR, hbr⟩ := hrel
    obtain ⟨hfr, ⟨rfl, g, cap, hc, ho⟩ | ⟨rfl, rfl, a, cap, hc⟩⟩ := HR.out
    · have c0 := ho.cellAt 0 (by omega)
      have c1 := ho.cellAt 1 (by omega)
      have c2 := ho.cellAt 2 (by omega)
      have c3 := ho.cellAt 3 (by omega)
      have c4 := ho.cellAt 4 (by omega)
      simp only [List.getElem?_cons_zero, List.getElem?_cons_succ] at c0 c1 c2 c3 c4
      have hcap : 1 ≤ cap := by
        rcases ho.2 with ⟨h, _⟩ | ⟨g', cap', cur, h, _, _, h1, _⟩
        · cases h
        · cases h; exact h1
      have hgr : w.heap.size + 1 + 1 < g := by
        rcases ho.2 with ⟨h, _⟩ | ⟨g', cap', cur, h, h1, _⟩
        · cases h
        · cases h; exact h1
      have hlr : w.heap.size + 1 + 1 < wr.heap.size := World.block_lt_of_cell? _ _ hc
      clear ho HR HO
      go_wp2_with fail
      refine (empty_any (w.heap.size + 1 + 1) (some ⟨g, 0, none⟩) 1 cap _ hc).mono ?_
      rintro e w' ⟨rfl, rfl⟩
      go_wp2_with fail
      refine (take_any (w.heap.size + 1 + 1) g 0 cap x.k y.k x.a y.a x.l.length y.l.length x.c y.c none _ (by simpa using hc) hfr (by omega) (by omega) (by simpa using c0) (by simpa using c1) (by simpa using c2) (by simpa using c3) (by simpa using c4)).mono ?_
      rintro e w' ⟨rfl, rfl⟩
      go_wp2_with fail
      have hb3 : Below w.heap.size w (((w'.setCell ⟨w.heap.size + 1 + 1, 0, none⟩ (.slice (some ⟨g, 0, none⟩) 0 cap)).alloc (.cells #[.int .i64 x.k, .slice x.a x.l.length x.c, .int .i64 y.k, .slice y.a y.l.length y.c, .pointer none] 141)).alloc (.cells #[.int .i64 x.k, .slice x.a x.l.length x.c, .int .i64 y.k, .slice y.a y.l.length y.c, .pointer none] 141)) :=
        ((hbr.setCell (by simp; omega) _).alloc (by simp [World.setCell]; omega) _).alloc (by simp [World.setCell]; omega) _
      have hb4 := hb3.alloc (by simp [World.setCell]; omega) (.cells #[.int .i64 x.k, .slice x.a x.l.length x.c, .int .i64 y.k, .slice y.a y.l.length y.c, .pointer none] 141)
      refine (HC.out _ _ (hx.below hb4) (hy.below hb4)).mono ?_
      rintro e w5 ⟨rfl, hb5⟩
      have hb6 : Below w.heap.size w w5 := hb4.trans (hb5.mono (by simp [World.setCell]; omega))
      have hcR : w5.cell? ⟨w.heap.size + 1 + 1, 0, none⟩ = some (.slice (some ⟨g, 0, none⟩) 0 cap) := by
        refine cell_later hb5 (cell_later ((((Below.refl _ (w'.setCell ⟨w.heap.size + 1 + 1, 0, none⟩ (.slice (some ⟨g, 0, none⟩) 0 cap))).alloc (Nat.le_refl _) _).alloc (by simp) _).alloc (by simp; omega) _) ?_)
        exact World.cell?_setCell_same _ _ _ hc
      have hfR : w5.frozen? ⟨w.heap.size + 1 + 1, 0, none⟩ = false := by
        rw [hb5.frozen (p := ⟨w.heap.size + 1 + 1, 0, none⟩) (by simp [World.setCell]; omega)]
        simp [frozen?_alloc_cells, hfr]
      clear hb5 hb4 hb3 hc hfr c0 c1 c2 c3 c4
      cases r
      · go_wp2_with fail
        go_ret
        exact ⟨rfl, hb6⟩
      · go_wp2_with fail
        go_roundg 0
        case measure => omega
        case rel => exact ⟨⟨hfR, .inr ⟨rfl, rfl, _, _, hcR⟩⟩, hb6⟩
    · go_wp2_with fail
      refine (empty_any (w.heap.size + 1 + 1) a 0 cap _ hc).mono ?_
      rintro e w' ⟨rfl, rfl⟩
      go_wp2_with fail
      go_ret
      exact ⟨rfl, hbr⟩
set_option maxHeartbeats 400000 in
/-- kind.Fits. -/
theorem fits_whole (x y : Tr) (w : World) (hx : x.In w) (hy : y.In w) (hh : x.hgt ≤ 1000) (hs : x.sm) :
    Calls Tryz.prog 108 #[.agg #[.int .i64 x.k, .slice x.a x.l.length x.c], .agg #[.int .i64 y.k, .slice y.a y.l.length y.c]] w fun e w' => e = .returned (.bool (relY escFits x.ty y.ty)) ∧ Below w.heap.size w w' := by
  obtain ⟨r, hr⟩ : ∃ r, relY escFits x.ty y.ty = r := ⟨_, rfl⟩
  have HC : Hid (∀ (rp : Option Addr) (w : World), x.In w → y.In w → Calls Tryz.prog 146 #[.agg #[.int .i64 x.k, .slice x.a x.l.length x.c], .agg #[.int .i64 y.k, .slice y.a y.l.length y.c], .int .i64 1000, .pointer rp] w fun e w' => e = .returned (.bool r) ∧ Below w.heap.size w w') := by
    intro rp w h1 h2
    have h := fits_any 1000 (Nat.le_refl _) x y rp w h1 h2 hh hs
    rw [hr] at h
    exact h
  rw [hr]
  clear hr
  have HH : Hid (∀ (w : World), x.In w → y.In w → Calls Tryz.prog 44 #[.func (.func 146) #[] #[], .agg #[.int .i64 x.k, .slice x.a x.l.length x.c], .agg #[.int .i64 y.k, .slice y.a y.l.length y.c]] w fun e w' => e = .returned (.bool r) ∧ Below w.heap.size w w') := fun w h1 h2 => holds_32 x y r w h1 h2 HC
  clear HC
  go_enter Tryz.func108, Tryz.ntmps108
  go_wp2_with fail
  have hb0 : Below w.heap.size w ((w.alloc (Obj.cells #[.int .i64 x.k, .slice x.a x.l.length x.c] 24)).alloc (Obj.cells #[.int .i64 y.k, .slice y.a y.l.length y.c] 24)) := ((Below.refl _ _).alloc (Nat.le_refl _) _).alloc (by simp) _
  refine (HH.out _ (hx.below hb0) (hy.below hb0)).mono ?_
  rintro e w1 ⟨rfl, hb1⟩
  have hb2 := hb0.trans (hb1.mono (by simp; omega))
  clear hb0 hb1
  go_wp2_with fail
  go_ret
  exact ⟨rfl, hb2⟩
end Go.Proofs.YtnddkmccagiclabGreatDoor

/-
  The small functions of package check: count, fresh, ruleOfCall, ruleOfIf, ahead: what a call of each answers, at types of at most a thousand levels.
-/
namespace Go.Proofs.YtnddkmccagiclabGreatDoor
open Go.RowKit
set_option maxHeartbeats 400000 in
/-- count. -/
theorem count_any (R c : Nat) (hc : c ≤ 1000000) (w : World) (h : w.cell? ⟨R, 0, none⟩ = some (.int .i64 (c : Int))) (hf : w.frozen? ⟨R, 0, none⟩ = false) :
    Calls Tryz.prog 64 #[.pointer (some ⟨R, 0, none⟩)] w fun e w' => e = .returned (.int .i64 (c : Int)) ∧ w' = w.setCell ⟨R, 0, none⟩ (.int .i64 ((c + 1 : Nat) : Int)) := by
  have e1 : IntKind.i64.wrap ((c : Int) + 1) = ((c + 1 : Nat) : Int) := by
    have : ((c + 1 : Nat) : Int) = (c : Int) + 1 := by omega
    rw [this]
    rw [IntKind.wrap_i64]; omega
  go_enter Tryz.func64, Tryz.ntmps64
  go_wp2_with fail
  go_ret
  exact ⟨rfl, by first | rfl | rw [e1] | (simp [e1])⟩
/-- A copy of a right type is the type. -/
theorem join_self (t : Tr) : t.right → joinY t.ty t.ty = t.ty := by
  induction t using Tr.ind with
  | h k a c l ih =>
    intro h
    rw [Tr.ty_mk, joinY_mk, if_pos rfl]
    congr 1
    rcases Tr.right_mk.1 h with ⟨⟨rfl, _⟩ | ⟨hl, _⟩, hr⟩
    · rfl
    · match l, hl, hr, ih with
      | [x, y], _, hr, ih => simp [joinL, ih x (by simp) (hr x (by simp)), ih y (by simp) (hr y (by simp))]
set_option maxHeartbeats 400000 in
/-- fresh. -/
theorem fresh_any (x : Tr) (w : World) (hx : x.In w) (hr : x.right) (hh : x.hgt ≤ 1000) :
    Calls Tryz.prog 42 #[.agg #[.int .i64 x.k, .slice x.a x.l.length x.c]] w fun e w' => ∃ t : Tr, e = .returned (.agg #[.int .i64 t.k, .slice t.a t.l.length t.c]) ∧ t.ty = x.ty ∧ t.In w' ∧ t.Bl (w.heap.size ≤ ·) ∧ Below w.heap.size w w' := by
  have hb0 : Below w.heap.size w ((w.alloc (Obj.cells #[.int .i64 x.k, .slice x.a x.l.length x.c] 24)).alloc (Obj.cells #[.int .i64 0, .slice none 0 0] 24)) := ((Below.refl _ _).alloc (Nat.le_refl _) _).alloc (by simp) _
  have hz : ((w.alloc (Obj.cells #[.int .i64 x.k, .slice x.a x.l.length x.c] 24)).alloc (Obj.cells #[.int .i64 0, .slice none 0 0] 24)).heap.size = w.heap.size + 1 + 1 := by simp
  go_enter Tryz.func42, Tryz.ntmps42
  go_wp2_with fail
  refine (join_whole x x _ (hx.below hb0) (hx.below hb0) hr hr hh).mono ?_
  rintro e w1 ⟨t, rfl, ht, hin, hbl, hb1⟩
  rw [hz] at hbl hb1
  have q0 : w1.cell? ⟨w.heap.size + 1, 0, none⟩ = some (.int .i64 0) := (hb1.cell (p := ⟨w.heap.size + 1, 0, none⟩) (by simp)).trans (by simp [go_sem])
  have q1 : w1.cell? ⟨w.heap.size + 1, 1, none⟩ = some (.slice none 0 0) := (hb1.cell (p := ⟨w.heap.size + 1, 1, none⟩) (by simp)).trans (by simp [go_sem])
  have f0 : w1.frozen? ⟨w.heap.size + 1, 0, none⟩ = false := (hb1.frozen (p := ⟨w.heap.size + 1, 0, none⟩) (by simp)).trans (by simp [go_sem])
  have f1 : w1.frozen? ⟨w.heap.size + 1, 1, none⟩ = false := (hb1.frozen (p := ⟨w.heap.size + 1, 1, none⟩) (by simp)).trans (by simp [go_sem])
  have hbw : Below w.heap.size w w1 := hb0.trans (hb1.mono (by omega))
  have HE : Hid (∃ t' : Tr, Ending.returned (.agg #[.int .i64 t.k, .slice t.a t.l.length t.c]) = .returned (.agg #[.int .i64 t'.k, .slice t'.a t'.l.length t'.c]) ∧ t'.ty = x.ty ∧ t'.In ((w1.setCell ⟨w.heap.size + 1, 0, none⟩ (.int .i64 t.k)).setCell ⟨w.heap.size + 1, 1, none⟩ (.slice t.a t.l.length t.c)) ∧ t'.Bl (w.heap.size ≤ ·) ∧ Below w.heap.size w ((w1.setCell ⟨w.heap.size + 1, 0, none⟩ (.int .i64 t.k)).setCell ⟨w.heap.size + 1, 1, none⟩ (.slice t.a t.l.length t.c))) :=
    ⟨t, rfl, ht.trans (join_self x hr), set_keeps (io := 0) hin (hbl.mono fun b hb => by omega), hbl.mono fun b hb => by omega, (hbw.setCell (by simp) _).setCell (by simp) _⟩
  clear hb0 hb1 hbw ht hin hbl hz hx hr hh
  go_wp2_with fail
  refine bodyPost_ret (v := .agg #[.int .i64 t.k, .slice t.a t.l.length t.c]) ?_ rfl HE.out
  simp [results, Tryz.results42, go_sem, q0, q1]
end Go.Proofs.YtnddkmccagiclabGreatDoor

/-
  A reader of words behind a pointer: what its state is, and what the calls of next, fail and want do to it; the package-level tables.
-/
namespace Go.Proofs.YtnddkmccagiclabGreatDoor
open Go.RowKit
theorem Kept.of_below {R : Nat} {o : Option Nat} {w w' : World} (h : Below w.heap.size w w') : Kept R o w w' :=
  ⟨h.os, h.tape, h.output, h.size, fun k hk _ _ => h.block k hk⟩
theorem Kept.trans {R : Nat} {w w1 w2 : World} (h : Kept R none w w1) (h' : Kept R none w1 w2) : Kept R none w w2 := by
  have hs := h.size
  exact ⟨h'.os.trans h.os, h'.tape.trans h.tape, h'.output.trans h.output, Nat.le_trans h.size h'.size, fun k hk h1 h2 => (h'.block k (by omega) h1 h2).trans (h.block k hk h1 h2)⟩
theorem Kept.cell {R : Nat} {w w' : World} (h : Kept R none w w') {b i : Nat} {v : Value} (hc : w.cell? ⟨b, i, none⟩ = some v) (h1 : b ≠ R) : w'.cell? ⟨b, i, none⟩ = some v :=
  (World.cell?_of_block (a := ⟨b, i, none⟩) (h.block b (World.block_lt_of_cell? _ _ hc) h1 (by simp))).trans hc
/-- Package-level variable g holds these cells. -/
def Vc (w : World) (g : Nat) (cs : Array Value) : Prop := ∃ t fr, w.heap[g]? = some (.cells cs t fr)
theorem Vc.cell {w : World} {g : Nat} {cs : Array Value} (h : Vc w g cs) (i : Nat) : w.cell? ⟨g, i, none⟩ = cs[i]? := by
  obtain ⟨t, fr, h⟩ := h
  rw [cell_of_row w g i cs t fr h]
/-- What the tables hold. -/
structure Gl (w : World) : Prop where
  tw : Vc w 1 #[.string ⟨#[110, 111]⟩, .string ⟨#[121, 101, 115]⟩]
  wd : Vc w 2 #[.string ⟨#[]⟩, .string ⟨#[]⟩, .string ⟨#[]⟩, .string ⟨#[]⟩, .string ⟨#[97, 100, 100]⟩, .string ⟨#[108, 101, 115, 115]⟩, .string ⟨#[105, 102]⟩, .string ⟨#[102, 117, 110]⟩, .string ⟨#[99, 97, 108, 108]⟩, .string ⟨#[97, 115]⟩]
  pt : Vc w 0 #[.int .i64 0, .int .i64 0, .int .i64 0, .int .i64 0, .int .i64 2, .int .i64 2, .int .i64 3, .int .i64 1, .int .i64 2, .int .i64 1]
  ty : Vc w 4 #[.string ⟨#[97, 110, 121]⟩, .string ⟨#[110, 117, 109]⟩, .string ⟨#[116, 114, 117, 116, 104]⟩]
  pw : Vc w 11 (Lib.pow10Tab.map fun z => Value.int .u64 z).toArray
  mx : ∃ m, Vc w 6 #[.int .i64 m]
  es : ∃ te pe, Vc w 9 #[.iface te pe]
  er : ∃ te pe, Vc w 10 #[.iface te pe]
theorem Vc.of {w w' : World} {g : Nat} {cs : Array Value} (h : Vc w g cs) (e : w'.heap[g]? = w.heap[g]?) : Vc w' g cs := by
  obtain ⟨t, fr, h⟩ := h
  exact ⟨t, fr, e.trans h⟩
theorem Vc.lt {w : World} {g : Nat} {cs : Array Value} (h : Vc w g cs) : g < w.heap.size := by
  obtain ⟨t, fr, h⟩ := h
  exact (Array.getElem?_eq_some_iff.1 h).1
theorem Gl.of {w w' : World} (h : Gl w) (e : ∀ g, g < 12 → w'.heap[g]? = w.heap[g]?) : Gl w' := by
  obtain ⟨m, hm⟩ := h.mx
  obtain ⟨a, b, hs⟩ := h.es
  obtain ⟨a', b', hr⟩ := h.er
  exact ⟨h.tw.of (e _ (by omega)), h.wd.of (e _ (by omega)), h.pt.of (e _ (by omega)), h.ty.of (e _ (by omega)), h.pw.of (e _ (by omega)), ⟨m, hm.of (e _ (by omega))⟩, ⟨a, b, hs.of (e _ (by omega))⟩, ⟨a', b', hr.of (e _ (by omega))⟩⟩
theorem Gl.size {w : World} (h : Gl w) : 12 ≤ w.heap.size := by
  exact h.pw.lt
theorem Gl.below {w w' : World} (h : Gl w) (hb : Below w.heap.size w w') : Gl w' :=
  h.of fun g hg => hb.block g (by have := h.size; omega)
theorem Gl.kept {w w' : World} {R : Nat} (h : Gl w) (hR : 12 ≤ R) (hb : Kept R none w w') : Gl w' :=
  h.of fun g hg => hb.block g (by have := h.size; omega) (by omega) (by simp)
/-- What the table of parts holds. -/
structure Gp (w : World) : Prop where
  pt : Vc w 0 #[.int .i64 0, .int .i64 0, .int .i64 0, .int .i64 0, .int .i64 2, .int .i64 2, .int .i64 3, .int .i64 1, .int .i64 2, .int .i64 1]
theorem Gl.gp {w : World} (h : Gl w) : Gp w := ⟨h.pt⟩
theorem Gp.size {w : World} (h : Gp w) : 1 ≤ w.heap.size := h.pt.lt
theorem Gp.below {w w' : World} (h : Gp w) (hb : Below w.heap.size w w') : Gp w' := ⟨h.pt.of (hb.block 0 h.pt.lt)⟩
theorem Gp.kept {w w' : World} {R : Nat} (h : Gp w) (hR : 1 ≤ R) (hb : Kept R none w w') : Gp w' := ⟨h.pt.of (hb.block 0 h.pt.lt (by omega) (by simp))⟩
/-- The words that are left, and whether something went wrong. -/
structure RS (R : Nat) (ws : List ByteArray) (b : Bool) (w : World) : Prop where
  l : ∃ a c, w.cell? ⟨R, 0, none⟩ = some (.slice a ws.length c) ∧ ws.length ≤ c ∧ (ws ≠ [] → ∃ A o, a = some ⟨A, o, none⟩ ∧ A < R ∧ ∀ (i : Nat) x, ws[i]? = some x → w.cell? ⟨A, o + i, none⟩ = some (.string x))
  b : w.cell? ⟨R, 1, none⟩ = some (.bool b)
  f0 : w.frozen? ⟨R, 0, none⟩ = false
  f1 : w.frozen? ⟨R, 1, none⟩ = false
  z : ws.length ≤ 1000000
theorem RS.lt {R : Nat} {ws : List ByteArray} {b : Bool} {w : World} (h : RS R ws b w) : R < w.heap.size := World.block_lt_of_cell? _ _ h.b
theorem RS.below {R : Nat} {ws : List ByteArray} {b : Bool} {w w' : World} (h : RS R ws b w) (hb : Below w.heap.size w w') : RS R ws b w' := by
  have hl := h.lt
  obtain ⟨⟨a, c, hc, hn, hw⟩, h1, h2, h3, hz⟩ := h
  refine ⟨⟨a, c, cell_later hb hc, hn, fun hne => ?_⟩, cell_later hb h1, (hb.frozen (p := ⟨R, 0, none⟩) hl).trans h2, (hb.frozen (p := ⟨R, 1, none⟩) hl).trans h3, hz⟩
  obtain ⟨A, o, ha, hA, hx⟩ := hw hne
  exact ⟨A, o, ha, hA, fun i x hi => cell_later hb (hx i x hi)⟩
theorem RS.set2 {R : Nat} {ws : List ByteArray} {b : Bool} {w : World} {k : Nat} {u v : Value} (h : RS R ws b w) (hk : R < k) : RS R ws b ((w.setCell ⟨k, 0, none⟩ u).setCell ⟨k, 1, none⟩ v) := by
  have hc : ∀ q i, q < k → ((w.setCell ⟨k, 0, none⟩ u).setCell ⟨k, 1, none⟩ v).cell? ⟨q, i, none⟩ = w.cell? ⟨q, i, none⟩ := by
    intro q i hq
    rw [World.cell?_setCell_other, World.cell?_setCell_other]
    · intro e; simp only [Addr.mk.injEq] at e; omega
    · intro e; simp only [Addr.mk.injEq] at e; omega
  obtain ⟨⟨a, c, h0, hn, hw⟩, h1, h2, h3, hz⟩ := h
  refine ⟨⟨a, c, (hc _ _ hk).trans h0, hn, fun hne => ?_⟩, (hc _ _ hk).trans h1, by rw [World.frozen?_setCell, World.frozen?_setCell]; exact h2, by rw [World.frozen?_setCell, World.frozen?_setCell]; exact h3, hz⟩
  obtain ⟨A, o, ha, hA, hx⟩ := hw hne
  exact ⟨A, o, ha, hA, fun i x hi => (hc _ _ (by omega)).trans (hx i x hi)⟩
theorem setR_kept {w : World} {R i : Nat} {v : Value} : Kept R none w (w.setCell ⟨R, i, none⟩ v) :=
  ⟨rfl, rfl, rfl, by simp [World.setCell], fun _ _ h1 _ => Below.heap_setCell _ _ _ _ h1⟩
set_option maxHeartbeats 400000 in
/-- (*reader).fail. -/
theorem fail_any (R : Nat) (ws : List ByteArray) (b : Bool) (w : World) (h : RS R ws b w) :
    Calls Tryz.prog 83 #[.pointer (some ⟨R, 0, none⟩)] w fun e w' => e = .returned (.tuple #[]) ∧ RS R [] true w' ∧ Kept R none w w' := by
  obtain ⟨⟨a, c, hc, _, _⟩, h1, h2, h3, _⟩ := h
  go_enter Tryz.func83, Tryz.ntmps83
  go_wp2_with fail
  go_end0
  have hne : (⟨R, 0, none⟩ : Addr) ≠ ⟨R, 1, none⟩ := by simp
  refine ⟨rfl, ⟨⟨none, 0, ?_, Nat.le_refl _, fun h => absurd rfl h⟩, ?_, ?_, ?_, by simp⟩, setR_kept.trans setR_kept⟩
  · refine World.cell?_setCell_same _ _ _ (u := .slice a ws.length c) ?_
    rw [World.cell?_setCell_other _ _ _ _ (Ne.symm hne)]
    exact hc
  · rw [World.cell?_setCell_other _ _ _ _ hne]
    exact World.cell?_setCell_same _ _ _ h1
  · rw [World.frozen?_setCell, World.frozen?_setCell]
    exact h2
  · rw [World.frozen?_setCell, World.frozen?_setCell]
    exact h3
set_option maxHeartbeats 400000 in
/-- (*reader).next where no word is left. -/
theorem next_nil (R : Nat) (b : Bool) (w : World) (h : RS R [] b w) :
    Calls Tryz.prog 51 #[.pointer (some ⟨R, 0, none⟩)] w fun e w' => e = .returned (.string ⟨#[]⟩) ∧ RS R [] true w' ∧ Kept R none w w' := by
  have HF : Hid (Calls Tryz.prog 83 #[.pointer (some ⟨R, 0, none⟩)] w fun e w' => e = .returned (.tuple #[]) ∧ RS R [] true w' ∧ Kept R none w w') := fail_any R [] b w h
  obtain ⟨⟨a, c, hc, _, _⟩, h1, h2, h3, _⟩ := h
  go_enter Tryz.func51, Tryz.ntmps51
  go_wp2_with fail
  refine HF.out.mono ?_
  rintro e w1 ⟨rfl, hr, hk⟩
  have HR : Hid (RS R [] true w1 ∧ Kept R none w w1) := ⟨hr, hk⟩
  clear hr hk HF
  go_wp2_with fail
  go_ret
  exact ⟨rfl, HR.out.1, HR.out.2⟩
set_option maxHeartbeats 400000 in
/-- (*reader).next where a word is left. -/
theorem next_cons (R : Nat) (x : ByteArray) (r : List ByteArray) (b : Bool) (w : World) (h : RS R (x :: r) b w) :
    Calls Tryz.prog 51 #[.pointer (some ⟨R, 0, none⟩)] w fun e w' => e = .returned (.string x) ∧ RS R r b w' ∧ Kept R none w w' := by
  obtain ⟨⟨a, c, hc, hn, hw⟩, h1, h2, h3, hz⟩ := h
  obtain ⟨A, o, rfl, hA, hx⟩ := hw (by simp)
  have x0 := hx 0 x (by simp)
  simp only [Nat.add_zero] at x0
  simp only [List.length_cons] at hc hn hz
  have e0 : (((r.length + 1 : Nat) : Int) == 0) = false := by simp; omega
  have i1 : (0 : Int) < ((r.length : Int) + 1) := by omega
  have i2 : (1 : Int) ≤ ((r.length : Int) + 1) := by omega
  have HX : Hid (∀ (i : Nat) y, (x :: r)[i]? = some y → w.cell? ⟨A, o + i, none⟩ = some (.string y)) := hx
  clear hx hw
  go_enter Tryz.func51, Tryz.ntmps51
  go_wp2_with fail
  all_goals go_ret
  all_goals
    refine ⟨rfl, ⟨⟨_, _, World.cell?_setCell_same _ _ _ hc, by omega, fun hne => ?_⟩, ?_, by rw [World.frozen?_setCell]; exact h2, by rw [World.frozen?_setCell]; exact h3, by omega⟩, setR_kept⟩
    rotate_left
    · rw [World.cell?_setCell_other _ _ _ _ (by simp)]
      exact h1
  · exact absurd (List.length_eq_zero_iff.1 (by omega)) hne
  · refine ⟨A, o + 1, rfl, hA, fun i y hi => ?_⟩
    rw [World.cell?_setCell_other]
    · rw [show o + 1 + i = o + (i + 1) by omega]
      exact HX.out (i + 1) y (by simpa using hi)
    · intro e; simp only [Addr.mk.injEq] at e; omega
set_option maxHeartbeats 400000 in
theorem want_walk (R : Nat) (x word : ByteArray) (r : List ByteArray) (b : Bool) (w : World) (h : RS R (x :: r) b w) :
    Calls Tryz.prog 87 #[.pointer (some ⟨R, 0, none⟩), .string word] w fun e w' => e = .returned (.tuple #[]) ∧ ((x = word ∧ RS R r b w') ∨ (x ≠ word ∧ RS R [] true w')) ∧ Kept R none w w' := by
  have HN : Hid (Calls Tryz.prog 51 #[.pointer (some ⟨R, 0, none⟩)] w fun e w' => e = .returned (.string x) ∧ RS R r b w' ∧ Kept R none w w') := next_cons R x r b w h
  clear h
  by_cases hx : x = word
  · subst hx
    go_enter Tryz.func87, Tryz.ntmps87
    go_wp2_with fail
    refine HN.out.mono ?_
    rintro e w1 ⟨rfl, hr, hk⟩
    have HR : Hid (RS R r b w1 ∧ Kept R none w w1) := ⟨hr, hk⟩
    clear hr hk HN
    go_wp2_with fail
    go_end0
    exact ⟨rfl, .inl ⟨trivial, HR.out.1⟩, HR.out.2⟩
  · have hb : (x.toList == word.toList) = false := (Lib.bytes_beq_false_iff _ _).2 hx
    have hb2 : (!x.toList == word.toList) = true := by rw [hb]; rfl
    have HX : Hid (x ≠ word) := hx
    clear hx
    go_enter Tryz.func87, Tryz.ntmps87
    go_wp2_with fail
    refine HN.out.mono ?_
    rintro e w1 ⟨rfl, hr, hk⟩
    have HF : Hid (Calls Tryz.prog 83 #[.pointer (some ⟨R, 0, none⟩)] w1 fun e w' => e = .returned (.tuple #[]) ∧ RS R [] true w' ∧ Kept R none w1 w') := fail_any R r b w1 hr
    have HK : Hid (Kept R none w w1) := hk
    clear hr hk HN
    go_wp2_with fail
    refine HF.out.mono ?_
    rintro e w2 ⟨rfl, hr, hk⟩
    have HR : Hid (RS R [] true w2 ∧ Kept R none w w2) := ⟨hr, HK.out.trans hk⟩
    clear hr hk HF HK
    go_wp2_with fail
    go_end0
    exact ⟨rfl, .inr ⟨HX.out, HR.out.1⟩, HR.out.2⟩
set_option maxHeartbeats 400000 in
theorem want_nil (R : Nat) (word : ByteArray) (hw : (⟨#[]⟩ : ByteArray) ≠ word) (b : Bool) (w : World) (h : RS R [] b w) :
    Calls Tryz.prog 87 #[.pointer (some ⟨R, 0, none⟩), .string word] w fun e w' => e = .returned (.tuple #[]) ∧ RS R [] true w' ∧ Kept R none w w' := by
  have HN : Hid (Calls Tryz.prog 51 #[.pointer (some ⟨R, 0, none⟩)] w fun e w' => e = .returned (.string ⟨#[]⟩) ∧ RS R [] true w' ∧ Kept R none w w') := next_nil R b w h
  have hb : ((⟨#[]⟩ : ByteArray).toList == word.toList) = false := (Lib.bytes_beq_false_iff _ _).2 hw
  have he : (⟨#[]⟩ : ByteArray).toList = [] := by rw [Lib.toList_data]
  have hb3 : (!word.toList.isEmpty) = true := by
    rw [he] at hb
    cases hl : word.toList with
    | nil => rw [hl] at hb; simp at hb
    | cons _ _ => rfl
  clear h hw hb he
  go_enter Tryz.func87, Tryz.ntmps87
  go_wp2_with fail
  refine HN.out.mono ?_
  rintro e w1 ⟨rfl, hr, hk⟩
  have HF : Hid (Calls Tryz.prog 83 #[.pointer (some ⟨R, 0, none⟩)] w1 fun e w' => e = .returned (.tuple #[]) ∧ RS R [] true w' ∧ Kept R none w1 w') := fail_any R [] true w1 hr
  have HK : Hid (Kept R none w w1) := hk
  clear hr hk HN
  go_wp2_with fail
  refine HF.out.mono ?_
  rintro e w2 ⟨rfl, hr, hk⟩
  have HR : Hid (RS R [] true w2 ∧ Kept R none w w2) := ⟨hr, HK.out.trans hk⟩
  clear hr hk HF HK
  go_wp2_with fail
  go_end0
  exact ⟨rfl, HR.out.1, HR.out.2⟩
end Go.Proofs.YtnddkmccagiclabGreatDoor

/-
  A box of a term's seven cells; a row of terms that a call makes longer; no program's run in it.
-/
namespace Go.Proofs.YtnddkmccagiclabGreatDoor
open Go.RowKit
theorem Kept.fz {R : Nat} {w w' : World} (h : Kept R none w w') {b i : Nat} (hf : w.frozen? ⟨b, i, none⟩ = false) (hl : b < w.heap.size) (hb : b ≠ R) : w'.frozen? ⟨b, i, none⟩ = false :=
  (World.frozen?_of_block (a := ⟨b, i, none⟩) (h.block b hl hb (by simp))).trans hf
theorem Kept.refl {R : Nat} {w : World} : Kept R none w w := ⟨rfl, rfl, rfl, Nat.le_refl _, fun _ _ _ _ => rfl⟩
/-- A store into a block that is new. -/
theorem Kept.new {R k : Nat} {w w' w'' : World} (h : Kept R none w w') (hk : Kept k none w' w'') (hn : w.heap.size ≤ k) : Kept R none w w'' :=
  ⟨hk.os.trans h.os, hk.tape.trans h.tape, hk.output.trans h.output, Nat.le_trans h.size hk.size, fun q hq h1 h2 => (hk.block q (by have := h.size; omega) (by omega) h2).trans (h.block q hq h1 h2)⟩
theorem RS.new {R k : Nat} {ws : List ByteArray} {b : Bool} {w w' : World} (h : RS R ws b w) (hk : Kept k none w w') (hR : R < k) : RS R ws b w' := by
  have hl := h.lt
  obtain ⟨⟨a, c, hc, hn, hw⟩, h1, h2, h3, hz⟩ := h
  refine ⟨⟨a, c, hk.cell hc (by omega), hn, fun hne => ?_⟩, hk.cell h1 (by omega), hk.fz h2 hl (by omega), hk.fz h3 hl (by omega), hz⟩
  obtain ⟨A, o, ha, hA, hx⟩ := hw hne
  exact ⟨A, o, ha, hA, fun i x hi => hk.cell (hx i x hi) (by omega)⟩
/-- Seven cells that may be written. -/
structure Box7 (w : World) (J : Nat) (x : TT) : Prop where
  at7 : At7 w J 0 x
  fz : ∀ i, i < 7 → w.frozen? ⟨J, i, none⟩ = false
theorem Box7.lt {w : World} {J : Nat} {x : TT} (h : Box7 w J x) : J < w.heap.size := h.at7.lt
theorem Box7.kept {R J : Nat} {w w' : World} {x : TT} (h : Box7 w J x) (hk : Kept R none w w') (hJ : J ≠ R) : Box7 w' J x :=
  ⟨h.at7.keptR hk hJ, fun i hi => hk.fz (h.fz i hi) h.lt hJ⟩
theorem Box7.below {J : Nat} {w w' : World} {x : TT} (h : Box7 w J x) (hb : Below w.heap.size w w') : Box7 w' J x :=
  ⟨h.at7.below hb, fun i hi => (hb.frozen (p := ⟨J, i, none⟩) h.lt).trans (h.fz i hi)⟩
theorem Box7.set6 {w : World} {J : Nat} {x : TT} {a' : Option Addr} {c' : Nat} {l' : List TT} (h : Box7 w J x) : Box7 (w.setCell ⟨J, 6, none⟩ (.slice a' l'.length c')) J { x with a := a', c := c', l := l' } := by
  have h7 := h.at7
  refine ⟨⟨?_, ?_, ?_, ?_, ?_, ?_, ?_⟩, fun i hi => by rw [World.frozen?_setCell]; exact h.fz i hi⟩
  · rw [World.cell?_setCell_other _ _ _ _ (by simp)]; exact h7.c0
  · rw [World.cell?_setCell_other _ _ _ _ (by simp)]; exact h7.c1
  · rw [World.cell?_setCell_other _ _ _ _ (by simp)]; exact h7.c2
  · rw [World.cell?_setCell_other _ _ _ _ (by simp)]; exact h7.c3
  · rw [World.cell?_setCell_other _ _ _ _ (by simp)]; exact h7.c4
  · rw [World.cell?_setCell_other _ _ _ _ (by simp)]; exact h7.c5
  · exact World.cell?_setCell_same _ _ _ (by simpa using h7.c6)
theorem Box7.set23 {w : World} {J : Nat} {x : TT} {t : Tr} (h : Box7 w J x) : Box7 ((w.setCell ⟨J, 2, none⟩ (.int .i64 t.k)).setCell ⟨J, 3, none⟩ (.slice t.a t.l.length t.c)) J { x with t := t } := by
  have h7 := h.at7
  refine ⟨⟨?_, ?_, ?_, ?_, ?_, ?_, ?_⟩, fun i hi => by rw [World.frozen?_setCell, World.frozen?_setCell]; exact h.fz i hi⟩
  · rw [World.cell?_setCell_other _ _ _ _ (by simp), World.cell?_setCell_other _ _ _ _ (by simp)]; exact h7.c0
  · rw [World.cell?_setCell_other _ _ _ _ (by simp), World.cell?_setCell_other _ _ _ _ (by simp)]; exact h7.c1
  · rw [World.cell?_setCell_other _ _ _ _ (by simp)]; exact World.cell?_setCell_same _ _ _ (by simpa using h7.c2)
  · refine World.cell?_setCell_same _ _ _ (u := .slice x.t.a x.t.l.length x.t.c) ?_
    rw [World.cell?_setCell_other _ _ _ _ (by simp)]; simpa using h7.c3
  · rw [World.cell?_setCell_other _ _ _ _ (by simp), World.cell?_setCell_other _ _ _ _ (by simp)]; exact h7.c4
  · rw [World.cell?_setCell_other _ _ _ _ (by simp), World.cell?_setCell_other _ _ _ _ (by simp)]; exact h7.c5
  · rw [World.cell?_setCell_other _ _ _ _ (by simp), World.cell?_setCell_other _ _ _ _ (by simp)]; exact h7.c6
/-- All seven cells written. -/
def put7 (w : World) (J : Nat) (x : TT) : World :=
  ((((((w.setCell ⟨J, 0, none⟩ (.int .i64 x.k)).setCell ⟨J, 1, none⟩ (.int .i64 x.n)).setCell ⟨J, 2, none⟩ (.int .i64 x.t.k)).setCell ⟨J, 3, none⟩ (.slice x.t.a x.t.l.length x.t.c)).setCell ⟨J, 4, none⟩ (.int .i64 x.f.k)).setCell ⟨J, 5, none⟩ (.slice x.f.a x.f.l.length x.f.c)).setCell ⟨J, 6, none⟩ (.slice x.a x.l.length x.c)
theorem set_get {w : World} {J i j : Nat} {u v : Value} (h : w.cell? ⟨J, i, none⟩ = some u) : (w.setCell ⟨J, j, none⟩ v).cell? ⟨J, i, none⟩ = some (if i = j then v else u) := by
  by_cases e : i = j
  · subst e
    rw [if_pos rfl]
    exact World.cell?_setCell_same _ _ _ h
  · rw [if_neg e, World.cell?_setCell_other _ _ _ _ (by simp)]
    exact h
theorem put7_box {w : World} {J : Nat} {x y : TT} (h : Box7 w J y) : Box7 (put7 w J x) J x := by
  have h7 := h.at7
  have c0 := h7.c0
  have c1 := h7.c1
  have c2 := h7.c2
  have c3 := h7.c3
  have c4 := h7.c4
  have c5 := h7.c5
  have c6 := h7.c6
  simp only [Nat.zero_add] at c0 c1 c2 c3 c4 c5 c6
  have key : ∀ i u, w.cell? ⟨J, i, none⟩ = some u → (put7 w J x).cell? ⟨J, i, none⟩ = some (if i = 6 then .slice x.a x.l.length x.c else if i = 5 then .slice x.f.a x.f.l.length x.f.c else if i = 4 then .int .i64 x.f.k else if i = 3 then .slice x.t.a x.t.l.length x.t.c else if i = 2 then .int .i64 x.t.k else if i = 1 then .int .i64 x.n else if i = 0 then .int .i64 x.k else u) := by
    intro i u hu
    exact set_get (set_get (set_get (set_get (set_get (set_get (set_get hu))))))
  refine ⟨⟨?_, ?_, ?_, ?_, ?_, ?_, ?_⟩, fun i hi => ?_⟩
  · simpa using key 0 _ c0
  · simpa using key 1 _ c1
  · simpa using key 2 _ c2
  · simpa using key 3 _ c3
  · simpa using key 4 _ c4
  · simpa using key 5 _ c5
  · simpa using key 6 _ c6
  · simp only [put7, World.frozen?_setCell]
    exact h.fz i hi
theorem put7_kept {w : World} {J : Nat} {x : TT} : Kept J none w (put7 w J x) :=
  setR_kept.trans (setR_kept.trans (setR_kept.trans (setR_kept.trans (setR_kept.trans (setR_kept.trans setR_kept)))))
theorem set23_kept {w : World} {J : Nat} {u v : Value} : Kept J none w ((w.setCell ⟨J, 2, none⟩ u).setCell ⟨J, 3, none⟩ v) :=
  setR_kept.trans setR_kept
/-! ### A row of terms -/
def cells7 (cs : List TT) : List Value := cs.flatMap fun x => [.int .i64 x.k, .int .i64 x.n, .int .i64 x.t.k, .slice x.t.a x.t.l.length x.t.c, .int .i64 x.f.k, .slice x.f.a x.f.l.length x.f.c, .slice x.a x.l.length x.c]
theorem cells7_append (a b : List TT) : cells7 (a ++ b) = cells7 a ++ cells7 b := by simp [cells7]
theorem cells7_at : ∀ (l : List TT) (j : Nat) (h : j < l.length) (i : Nat), i < 7 → (cells7 l)[j * 7 + i]? = [Value.int .i64 l[j].k, .int .i64 l[j].n, .int .i64 l[j].t.k, .slice l[j].t.a l[j].t.l.length l[j].t.c, .int .i64 l[j].f.k, .slice l[j].f.a l[j].f.l.length l[j].f.c, .slice l[j].a l[j].l.length l[j].c][i]?
  | [], j, h, _, _ => by simp at h
  | x :: r, 0, _, i, hi => by
    obtain rfl | rfl | rfl | rfl | rfl | rfl | rfl : i = 0 ∨ i = 1 ∨ i = 2 ∨ i = 3 ∨ i = 4 ∨ i = 5 ∨ i = 6 := by omega
    all_goals simp [cells7]
  | x :: r, j + 1, h, i, hi => by
    have ih := cells7_at r j (by simpa using h) i hi
    have e : (j + 1) * 7 + i = (j * 7 + i) + 1 + 1 + 1 + 1 + 1 + 1 + 1 := by omega
    rw [e]
    simpa [cells7] using ih
/-- A list that the call makes: its row, and what lies in it. -/
structure Row (base : Nat) (v : Value) (cs : List TT) (w : World) : Prop where
  own : w.ownsRow base 27 7 v cs.length (cells7 cs)
  ins : ∀ c, c ∈ cs → c.In w ∧ c.Bl (fun b => base ≤ b ∧ some b ≠ v.ownBlock)
theorem Row.nil (base : Nat) (w : World) : Row base (.slice none 0 0) [] w := ⟨World.ownsRow_nil _ _ _ _, fun c h => by cases h⟩
theorem Row.kept {base R : Nat} {v : Value} {cs : List TT} {w w' : World} (h : Row base v cs w) (hk : Kept R none w w') (hR : R < base) : Row base v cs w' := by
  refine ⟨⟨h.own.1, ?_⟩, fun c hc => ⟨(h.ins c hc).1.keptR hk ((h.ins c hc).2.mono fun b hb => by omega), (h.ins c hc).2⟩⟩
  rcases h.own.2 with hn | ⟨g, cap, cur, hv, hb, hg, rest⟩
  · exact .inl hn
  · exact .inr ⟨g, cap, cur, hv, hb, (hk.block g (Array.getElem?_eq_some_iff.1 hg).1 (by omega) (by simp)).trans hg, rest⟩
theorem Row.below {base : Nat} {v : Value} {cs : List TT} {w w' : World} (h : Row base v cs w) (hb : Below w.heap.size w w') : Row base v cs w' := by
  refine ⟨⟨h.own.1, ?_⟩, fun c hc => ⟨(h.ins c hc).1.below hb, (h.ins c hc).2⟩⟩
  rcases h.own.2 with hn | ⟨g, cap, cur, hv, hb', hg, rest⟩
  · exact .inl hn
  · exact .inr ⟨g, cap, cur, hv, hb', (hb.block g (Array.getElem?_eq_some_iff.1 hg).1).trans hg, rest⟩
/-- One more. -/
theorem Row.step {base : Nat} {v : Value} {cs : List TT} {w2 w3 : World} {c : TT} {gg cap1 : Nat} {X : Obj} (h : Row base v cs w2) (hin : c.In w2) (hbl : c.Bl (fun b => base ≤ b ∧ some b ≠ v.ownBlock))
    (hown : w3.ownsRow base 27 7 (.slice (some ⟨gg, 0, none⟩) (cs.length + 1) cap1) (cs.length + 1) (cells7 cs ++ cells7 [c])) (hgrow : (w2.alloc X).grownBy w3 v.ownBlock) (hat : v.ownBlock = some gg ∨ gg = w2.heap.size + 1) :
    Row base (.slice (some ⟨gg, 0, none⟩) (cs.length + 1) cap1) (cs ++ [c]) w3 ∧ ∀ k, k < w2.heap.size → some k ≠ v.ownBlock → w3.heap[k]? = w2.heap[k]? := by
  have hblk : ∀ k, k < w2.heap.size → some k ≠ v.ownBlock → w3.heap[k]? = w2.heap[k]? := fun k hk hn => by
    rw [hgrow.block k (by simp; omega) hn]
    exact ((Below.refl _ w2).alloc (Nat.le_refl _) X).block k hk
  refine ⟨⟨by rw [cells7_append, List.length_append, List.length_singleton]; exact hown, fun d hd => ?_⟩, hblk⟩
  have key : d.In w2 ∧ d.Bl (fun b => base ≤ b ∧ some b ≠ v.ownBlock) := by
    rcases List.mem_append.1 hd with hd | hd
    · exact h.ins d hd
    · rcases List.mem_singleton.1 hd with rfl
      exact ⟨hin, hbl⟩
  have i3 := key.1.bl.and key.2
  refine ⟨key.1.congr (P := fun b => b < w2.heap.size ∧ base ≤ b ∧ some b ≠ v.ownBlock) (fun b hb i => ?_) i3, i3.mono fun b hb => ⟨hb.2.1, ?_⟩⟩
  · exact World.cell?_of_block (a := ⟨b, i, none⟩) (hblk b hb.1 hb.2.2)
  · show some b ≠ some gg
    rcases hat with e | e
    · rw [← e]; exact hb.2.2
    · simp only [ne_eq, Option.some.injEq]; omega
/-- A row that the call owns is a term's list. -/
theorem Row.list {base : Nat} {v : Value} {cs : List TT} {w : World} (h : Row base v cs w) : ∃ a c, v = .slice a cs.length c ∧ (∀ j (hj : j < cs.length), ∃ b o, a = some ⟨b, o, none⟩ ∧ At7 w b (o + j * 7) cs[j]) ∧ (∀ y, cs ≠ [] → a = some y → base ≤ y.block) := by
  rcases h.own.2 with ⟨rfl, h0⟩ | ⟨g, cap, cur, rfl, hg, _⟩
  · have : cs = [] := List.length_eq_zero_iff.1 h0
    subst this
    exact ⟨none, 0, rfl, fun j hj => absurd hj (by simp), fun y h => absurd rfl h⟩
  · refine ⟨_, _, rfl, fun j hj => ⟨g, 0, rfl, ?_⟩, fun y _ hy => by cases hy; exact hg⟩
    have hc : ∀ i, i < 7 → w.cell? ⟨g, 0 + j * 7 + i, none⟩ = _ := fun i hi => by rw [Nat.zero_add, h.own.cellAt (j * 7 + i) (by omega), cells7_at cs j hj i hi]
    exact ⟨hc 0 (by omega), hc 1 (by omega), hc 2 (by omega), hc 3 (by omega), hc 4 (by omega), hc 5 (by omega), hc 6 (by omega)⟩
theorem Row.tree {base : Nat} {v : Value} {cs : List TT} {w : World} (h : Row base v cs w) : ∃ a c, v = .slice a cs.length c ∧ ∀ k n t f, t.In w → f.In w → (TT.mk k n t f a c cs).In w ∧ (∀ P : Nat → Prop, (∀ b, base ≤ b → P b) → t.Bl P → f.Bl P → (TT.mk k n t f a c cs).Bl P) := by
  obtain ⟨a, c, hv, hl, hb⟩ := h.list
  refine ⟨a, c, hv, fun k n t f ht hf => ⟨TT.In_mk.2 ⟨ht, hf, hl, fun x hx => (h.ins x hx).1⟩, fun P hP h1 h2 => TT.Bl_mk.2 ⟨h1, h2, fun hne x hx => hP _ (hb x hne hx), fun x hx => (h.ins x hx).2.mono fun b hb => hP b hb.1⟩⟩⟩
theorem Row.lt {base : Nat} {v : Value} {cs : List TT} {w : World} (h : Row base v cs w) (k : Nat) (hk : v.ownBlock = some k) : base ≤ k ∧ k < w.heap.size := h.own.lt k hk
end Go.Proofs.YtnddkmccagiclabGreatDoor
