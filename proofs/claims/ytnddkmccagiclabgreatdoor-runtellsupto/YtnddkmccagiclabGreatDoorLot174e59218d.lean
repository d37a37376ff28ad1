/-
  What the call of kind.Join answers at two right trees of which the first has at most a thousand levels.
-/
import Derived.Test.YtnddkmccagiclabGreatDoorLotd76c694fc3
import Derived.Test.YtnddkmccagiclabGreatDoorLot2ebbd2cd4c
import Derived.Deep.RegionHeld3
import Derived.Deep.RegionLaw
import Derived.Test.YtnddkmccagiclabGreatDoorRows
import Derived.Test.YtnddkmccagiclabGreatDoorLotfef4768764
namespace Go.Proofs.YtnddkmccagiclabGreatDoor
open Go.RowKit
/-- The list that is put off, and what is joined: the one pair, or none. -/
def OffJ (R : Nat) (x y : Tr) (k : Nat) (wr : World) : Prop :=
  wr.frozen? ⟨R + 1, 0, none⟩ = false ∧ wr.frozen? ⟨R, 0, none⟩ = false ∧ wr.frozen? ⟨R, 1, none⟩ = false ∧
  ((k = 1 ∧ wr.cell? ⟨R, 0, none⟩ = some (.int .i64 0) ∧ wr.cell? ⟨R, 1, none⟩ = some (.slice none 0 0) ∧ ∃ g cap, wr.cell? ⟨R + 1, 0, none⟩ = some (.slice (some ⟨g, 0, none⟩) 1 cap) ∧ wr.ownsRow (R + 2) 141 5 (.slice (some ⟨g, 0, none⟩) 1 cap) 1 [.int .i64 x.k, .slice x.a x.l.length x.c, .int .i64 y.k, .slice y.a y.l.length y.c, .pointer (some ⟨R, 0, none⟩)])
    ∨ (k = 0 ∧ (∃ t : Tr, t.ty = joinY x.ty y.ty ∧ t.In wr ∧ t.Bl (R < ·) ∧ wr.cell? ⟨R, 0, none⟩ = some (.int .i64 t.k) ∧ wr.cell? ⟨R, 1, none⟩ = some (.slice t.a t.l.length t.c)) ∧ ∃ a cap, wr.cell? ⟨R + 1, 0, none⟩ = some (.slice a 0 cap)))
set_option maxHeartbeats 1000000 in
/-- kind.Join. -/
theorem join_whole (x y : Tr) (w : World) (hx : x.In w) (hy : y.In w) (rx : x.right) (ry : y.right) (hh : x.hgt ≤ 1000) :
    Calls Tryz.prog 71 #[.agg #[.int .i64 x.k, .slice x.a x.l.length x.c], .agg #[.int .i64 y.k, .slice y.a y.l.length y.c]] w fun e w' => ∃ t : Tr, e = .returned (.agg #[.int .i64 t.k, .slice t.a t.l.length t.c]) ∧ t.ty = joinY x.ty y.ty ∧ t.In w' ∧ t.Bl (w.heap.size ≤ ·) ∧ Below w.heap.size w w' := by
  have HC : Hid (∀ (rp : Option Addr) (ib io : Nat) (w : World), x.In w → y.In w → w.cell? ⟨ib, io, none⟩ = some (.int .i64 0) → w.cell? ⟨ib, io + 1, none⟩ = some (.slice none 0 0) → w.frozen? ⟨ib, io, none⟩ = false → w.frozen? ⟨ib, io + 1, none⟩ = false →
    Calls Tryz.prog 110 #[.agg #[.int .i64 x.k, .slice x.a x.l.length x.c, .int .i64 y.k, .slice y.a y.l.length y.c, .pointer (some ⟨ib, io, none⟩)], .int .i64 1000, .pointer rp] w fun e w' => e = .returned (.tuple #[]) ∧ Joined x y ib io w w') := fun rp ib io w h1 h2 => join_any 1000 (Nat.le_refl _) x y rp ib io w h1 h2 rx ry hh
  go_enter Tryz.func71, Tryz.ntmps71
  go_wp2_with fail
  obtain ⟨W0, hW0⟩ : ∃ W0, W0 = (((w.alloc (Obj.cells #[.int .i64 x.k, .slice x.a x.l.length x.c] 24)).alloc (Obj.cells #[.int .i64 y.k, .slice y.a y.l.length y.c] 24)).alloc (Obj.cells #[.int .i64 0, .slice none 0 0] 24)) := ⟨_, rfl⟩
  have hs0 : W0.heap.size = w.heap.size + 1 + 1 + 1 := by rw [hW0]; simp
  have hbw0 : Below w.heap.size w W0 := by rw [hW0]; exact (((Below.refl _ _).alloc (Nat.le_refl _) _).alloc (by simp) _).alloc (by simp; omega) _
  have r0 : W0.cell? ⟨w.heap.size + 1 + 1, 0, none⟩ = some (.int .i64 0) := by rw [hW0]; simp [go_sem]
  have r1 : W0.cell? ⟨w.heap.size + 1 + 1, 1, none⟩ = some (.slice none 0 0) := by rw [hW0]; simp [go_sem]
  have r2 : ∀ o, W0.frozen? ⟨w.heap.size + 1 + 1, o, none⟩ = false := by intro o; rw [hW0]; simp [go_sem]
  rw [← hW0]
  clear hW0
  have u0 : ((W0.alloc (Obj.cells #[.int .i64 0, .slice none 0 0] 24)).alloc (Obj.cells #[.slice none 0 0] 137)).cell? ⟨w.heap.size + 1 + 1 + 1, 0, none⟩ = some (.int .i64 0) := by rw [← hs0]; simp [go_sem]
  have u1 : ((W0.alloc (Obj.cells #[.int .i64 0, .slice none 0 0] 24)).alloc (Obj.cells #[.slice none 0 0] 137)).cell? ⟨w.heap.size + 1 + 1 + 1, 1, none⟩ = some (.slice none 0 0) := by rw [← hs0]; simp [go_sem]
  have u2 : ∀ o, ((W0.alloc (Obj.cells #[.int .i64 0, .slice none 0 0] 24)).alloc (Obj.cells #[.slice none 0 0] 137)).frozen? ⟨w.heap.size + 1 + 1 + 1, o, none⟩ = false := by intro o; rw [← hs0]; simp [go_sem]
  refine (put_any (w.heap.size + 1 + 1 + 1 + 1) (.slice none 0 0) 0 [] x.k y.k x.a y.a x.l.length y.l.length x.c y.c (some ⟨w.heap.size + 1 + 1 + 1, 0, none⟩) _ (by rw [← hs0]; simp [go_sem]) (by rw [← hs0]; simp [go_sem]) (World.ownsRow_nil _ _ _ _) (by omega)).mono ?_
  rintro e w1 ⟨rfl, g, cap, hc1, hf1, ho1, _, hk1⟩
  have hb1 : Below (w.heap.size + 1 + 1 + 1) W0 w1 := by
    have h := hk1.below (by simp [Value.ownBlock]) (by simp [hs0])
    have h' : Below W0.heap.size W0 ((W0.alloc (Obj.cells #[.int .i64 0, .slice none 0 0] 24)).alloc (Obj.cells #[.slice none 0 0] 137)) := ((Below.refl _ _).alloc (Nat.le_refl _) _).alloc (by simp) _
    rw [hs0] at h'
    exact h'.trans (h.mono (by omega))
  have hblk := hk1.below (by simp [Value.ownBlock]) (by simp [hs0])
  have HO : Hid (OffJ (w.heap.size + 1 + 1 + 1) x y 1 w1) :=
    ⟨hf1, (hblk.frozen (p := ⟨w.heap.size + 1 + 1 + 1, 0, none⟩) (by simp)).trans (u2 0), (hblk.frozen (p := ⟨w.heap.size + 1 + 1 + 1, 1, none⟩) (by simp)).trans (u2 1), .inl ⟨rfl, (hblk.cell (p := ⟨w.heap.size + 1 + 1 + 1, 0, none⟩) (by simp)).trans u0, (hblk.cell (p := ⟨w.heap.size + 1 + 1 + 1, 1, none⟩) (by simp)).trans u1, g, cap, by simpa using hc1, by simpa using ho1⟩⟩
  clear hc1 hf1 ho1 hk1 u0 u1 u2 hblk
  have HR0 : Hid (W0.cell? ⟨w.heap.size + 1 + 1, 0, none⟩ = some (.int .i64 0) ∧ W0.cell? ⟨w.heap.size + 1 + 1, 1, none⟩ = some (.slice none 0 0) ∧ ∀ o, W0.frozen? ⟨w.heap.size + 1 + 1, o, none⟩ = false) := ⟨r0, r1, r2⟩
  have HS0 : Hid (W0.heap.size = w.heap.size + 1 + 1 + 1) := hs0
  clear r0 r1 r2 hs0
  go_wp2_with fail
  go_loopg [] 1 (fun k wr => Hid (OffJ (w.heap.size + 1 + 1 + 1) x y k wr) ∧ Below (w.heap.size + 1 + 1 + 1) W0 wr)
  case atStart => exact ⟨HO, hb1⟩
  case round =>
    obtain ⟨HR, hbr⟩ := hrel
    have hbwr : Below w.heap.size w wr := hbw0.trans (hbr.mono (by omega))
    obtain ⟨hfr, g0, g1, ⟨rfl, z0, z1, g, cap, hc, ho⟩ | ⟨rfl, ⟨t, ht, hin, hbl, t0, t1⟩, a, cap, hc⟩⟩ := HR.out
    · have c0 := ho.cellAt 0 (by omega)
      have c1 := ho.cellAt 1 (by omega)
      have c2 := ho.cellAt 2 (by omega)
      have c3 := ho.cellAt 3 (by omega)
      have c4 := ho.cellAt 4 (by omega)
      simp only [List.getElem?_cons_zero, List.getElem?_cons_succ] at c0 c1 c2 c3 c4
      have hcap : 1 ≤ cap := by
        rcases ho.2 with ⟨h, _⟩ | ⟨g', cap', cur, h, _, _, h1, _⟩
        · cases h
        · cases h; exact h1
      have hlr : w.heap.size + 1 + 1 + 1 + 1 < wr.heap.size := World.block_lt_of_cell? _ _ hc
      clear ho HR HO
      go_wp2_with fail
      refine (empty_any (w.heap.size + 1 + 1 + 1 + 1) (some ⟨g, 0, none⟩) 1 cap _ hc).mono ?_
      rintro e w' ⟨rfl, rfl⟩
      go_wp2_with fail
      refine (take_any (w.heap.size + 1 + 1 + 1 + 1) g 0 cap x.k y.k x.a y.a x.l.length y.l.length x.c y.c (some ⟨w.heap.size + 1 + 1 + 1, 0, none⟩) _ (by simpa using hc) hfr (by omega) (by omega) (by simpa using c0) (by simpa using c1) (by simpa using c2) (by simpa using c3) (by simpa using c4)).mono ?_
      rintro e w' ⟨rfl, rfl⟩
      go_wp2_with fail
      obtain ⟨WT, hWT⟩ : ∃ WT, WT = ((w'.setCell ⟨w.heap.size + 1 + 1 + 1 + 1, 0, none⟩ (.slice (some ⟨g, 0, none⟩) 0 cap)).alloc (.cells #[.int .i64 x.k, .slice x.a x.l.length x.c, .int .i64 y.k, .slice y.a y.l.length y.c, .pointer (some ⟨w.heap.size + 1 + 1 + 1, 0, none⟩)] 141)).alloc (.cells #[.int .i64 x.k, .slice x.a x.l.length x.c, .int .i64 y.k, .slice y.a y.l.length y.c, .pointer (some ⟨w.heap.size + 1 + 1 + 1, 0, none⟩)] 141) := ⟨_, rfl⟩
      have hbt : Below (w.heap.size + 1 + 1 + 1 + 1) w' WT := by
        rw [hWT]
        exact (((Below.refl _ _).setCell (by simp) _).alloc (by simp [World.setCell]; omega) _).alloc (by simp [World.setCell]; omega) _
      have hsT : w'.heap.size ≤ WT.heap.size := hbt.size
      have hcT : WT.cell? ⟨w.heap.size + 1 + 1 + 1 + 1, 0, none⟩ = some (.slice (some ⟨g, 0, none⟩) 0 cap) := by
        rw [hWT]
        exact cell_later (((Below.refl _ _).alloc (Nat.le_refl _) _).alloc (by simp) _) (World.cell?_setCell_same _ _ _ hc)
      have hfT : WT.frozen? ⟨w.heap.size + 1 + 1 + 1 + 1, 0, none⟩ = false := by
        rw [hWT]
        simp [frozen?_alloc_cells, hfr]
      rw [← hWT]
      have hbT : Below w.heap.size w WT := hbwr.trans (hbt.mono (by omega))
      refine (HC.out _ (w.heap.size + 1 + 1 + 1) 0 WT (hx.below hbT) (hy.below hbT) ((hbt.cell (p := ⟨w.heap.size + 1 + 1 + 1, 0, none⟩) (by simp)).trans z0) ((hbt.cell (p := ⟨w.heap.size + 1 + 1 + 1, 1, none⟩) (by simp)).trans z1) ((hbt.frozen (p := ⟨w.heap.size + 1 + 1 + 1, 0, none⟩) (by simp)).trans g0) ((hbt.frozen (p := ⟨w.heap.size + 1 + 1 + 1, 1, none⟩) (by simp)).trans g1)).mono ?_
      rintro e w5 ⟨rfl, t, ht, hin, hbl, t0, t1, hw⟩
      have hbl' : w5.heap[w.heap.size + 1 + 1 + 1 + 1]? = WT.heap[w.heap.size + 1 + 1 + 1 + 1]? := hw.block _ (by omega) (by omega)
      have HO5 : Hid (OffJ (w.heap.size + 1 + 1 + 1) x y 0 w5) :=
        ⟨(World.frozen?_of_block (a := ⟨w.heap.size + 1 + 1 + 1 + 1, 0, none⟩) hbl').trans hfT, (hw.frozen 0).trans ((hbt.frozen (p := ⟨w.heap.size + 1 + 1 + 1, 0, none⟩) (by simp)).trans g0), (hw.frozen 1).trans ((hbt.frozen (p := ⟨w.heap.size + 1 + 1 + 1, 1, none⟩) (by simp)).trans g1),
          .inr ⟨rfl, ⟨t, ht, hin, hbl.mono fun b hb => by omega, t0, t1⟩, _, _, (World.cell?_of_block (a := ⟨w.heap.size + 1 + 1 + 1 + 1, 0, none⟩) hbl').trans hcT⟩⟩
      have hb5 : Below (w.heap.size + 1 + 1 + 1) W0 w5 := hbr.trans ((hbt.mono (by omega)).trans (hw.under (by omega)))
      clear hWT hbt hcT hfT hbT ht hin hbl t0 t1 hw hbl' z0 z1 g0 g1 hfr hc c0 c1 c2 c3 c4
      go_wp2_with fail
      go_roundg 0
      case measure => omega
      case rel => exact ⟨HO5, hb5⟩
    · go_wp2_with fail
      refine (empty_any (w.heap.size + 1 + 1 + 1 + 1) a 0 cap _ hc).mono ?_
      rintro e w' ⟨rfl, rfl⟩
      have v0 := (hbr.cell (p := ⟨w.heap.size + 1 + 1, 0, none⟩) (by simp)).trans HR0.out.1
      have v1 := (hbr.cell (p := ⟨w.heap.size + 1 + 1, 1, none⟩) (by simp)).trans HR0.out.2.1
      have v2 := (hbr.frozen (p := ⟨w.heap.size + 1 + 1, 0, none⟩) (by simp)).trans (HR0.out.2.2 0)
      have v3 := (hbr.frozen (p := ⟨w.heap.size + 1 + 1, 1, none⟩) (by simp)).trans (HR0.out.2.2 1)
      have HT : Hid (t.ty = joinY x.ty y.ty) := ht
      clear ht HR HO hc hfr g0 g1
      go_wp2_with fail
      refine bodyPost_ret (v := .agg #[.int .i64 t.k, .slice t.a t.l.length t.c]) ?_ rfl ⟨t, rfl, HT.out, set_keeps hin (hbl.mono fun b hb => by omega), hbl.mono fun b hb => by omega, (hbwr.setCell (by simp; omega) _).setCell (by simp; omega) _⟩
      have hh := set_cells (u := .int .i64 t.k) (v := .slice t.a t.l.length t.c) v0 v1
      simp [results, Tryz.results71, go_sem, hh.1, hh.2]
end Go.Proofs.YtnddkmccagiclabGreatDoor

/-
  What the call of kind.fits answers at two trees that lie in memory, where there is room for all levels of the first.
-/
namespace Go.Proofs.YtnddkmccagiclabGreatDoor
open Go.RowKit
set_option maxHeartbeats 400000 in
theorem fits_left (n : Nat) (hn : n ≤ 1000) (k' : Int) (a a' : Option Addr) (m m' c c' : Nat) (rp : Option Addr) (w : World) :
    Calls Tryz.prog 146 #[.agg #[.int .i64 0, .slice a m c], .agg #[.int .i64 k', .slice a' m' c'], .int .i64 ((n : Int) + 1), .pointer rp] w fun e w' => e = .returned (.bool true) ∧ Below w.heap.size w w' := by
  have hz : (((n : Int) + 1) == 0) = false := by simp; omega
  go_enter Tryz.func146, Tryz.ntmps146
  go_wp2_with fail
  go_ret
  exact ⟨rfl, ((Below.refl _ _).alloc (Nat.le_refl _) _).alloc (by simp) _⟩
set_option maxHeartbeats 400000 in
theorem fits_right (n : Nat) (hn : n ≤ 1000) (k : Int) (hk : (k == 0) = false) (a a' : Option Addr) (m m' c c' : Nat) (rp : Option Addr) (w : World) :
    Calls Tryz.prog 146 #[.agg #[.int .i64 k, .slice a m c], .agg #[.int .i64 0, .slice a' m' c'], .int .i64 ((n : Int) + 1), .pointer rp] w fun e w' => e = .returned (.bool true) ∧ Below w.heap.size w w' := by
  have hz : (((n : Int) + 1) == 0) = false := by simp; omega
  go_enter Tryz.func146, Tryz.ntmps146
  go_wp2_with fail
  go_ret
  exact ⟨rfl, ((Below.refl _ _).alloc (Nat.le_refl _) _).alloc (by simp) _⟩
set_option maxHeartbeats 1000000 in
theorem fits_step (n : Nat) (hn : n ≤ 1000) (x y : Tr) (rp : Option Addr) (w : World) (hx : x.In w) (hy : y.In w) (hh : x.hgt ≤ n + 1) (hs : x.sm) (e1 : (x.k == 0) = false) (e2 : (y.k == 0) = false)
    (ih : Hid (∀ (x y : Tr) (w : World), x.In w → y.In w → x.hgt ≤ n → x.sm → Calls Tryz.prog 146 #[.agg #[.int .i64 x.k, .slice x.a x.l.length x.c], .agg #[.int .i64 y.k, .slice y.a y.l.length y.c], .int .i64 (n : Int), .pointer rp] w fun e w' => e = .returned (.bool (relY escFits x.ty y.ty)) ∧ Below w.heap.size w w')) :
    Calls Tryz.prog 146 #[.agg #[.int .i64 x.k, .slice x.a x.l.length x.c], .agg #[.int .i64 y.k, .slice y.a y.l.length y.c], .int .i64 ((n : Int) + 1), .pointer rp] w fun e w' => e = .returned (.bool (relY escFits x.ty y.ty)) ∧ Below w.heap.size w w' := by
  have hz : (((n : Int) + 1) == 0) = false := by simp; omega
  have hlen := hs.len
  by_cases ht0 : (x.k == y.k && (x.l.length : Int) == (y.l.length : Int)) = false
  · have ht : Hid ((x.k == y.k && (x.l.length : Int) == (y.l.length : Int)) = false) := ht0
    clear ht0
    go_enter Tryz.func146, Tryz.ntmps146
    go_wp2_with fail
    refine (alike_any _ _ _ _ _ _ _ _ false ht.out _).mono ?_
    rintro e w1 ⟨rfl, hb1⟩
    go_wp2_with fail
    go_ret
    refine ⟨?_, (((Below.refl _ _).alloc (Nat.le_refl _) _).alloc (by simp) _).trans (hb1.mono (by simp; omega))⟩
    rw [relY_top escFits x y (by simp [escFits, e1, e2]) ht.out]
    rfl
  · have ht' : Hid ((x.k == y.k && (x.l.length : Int) == (y.l.length : Int)) = true) := by simpa [Hid] using ht0
    clear ht0
    have hk : Hid (x.k = y.k) := by have h := ht'.out; simp at h; exact h.1
    have hl : Hid (x.l.length = y.l.length) := by have h := ht'.out; simp at h; exact Int.ofNat.inj h.2
    go_enter Tryz.func146, Tryz.ntmps146
    go_wp2_with fail
    refine (alike_any _ _ _ _ _ _ _ _ true ht'.out _).mono ?_
    rintro e w1 ⟨rfl, hb1⟩
    have hbw : Below w.heap.size w w1 := (((Below.refl _ _).alloc (Nat.le_refl _) _).alloc (by simp) _).trans (hb1.mono (by simp; omega))
    have p1 : w1.cell? ⟨w.heap.size, 1, none⟩ = some (.slice x.a x.l.length x.c) := cell_later hb1 (by simp [go_sem])
    have p3 : w1.cell? ⟨w.heap.size + 1, 1, none⟩ = some (.slice y.a y.l.length y.c) := cell_later hb1 (by simp [go_sem])
    clear hb1
    go_wp2_with fail
    go_loopw [32] (fun i wr => ∃ j : Nat, j ≤ x.l.length ∧ i = .int .i64 (j : Int) ∧ Below w1.heap.size w1 wr ∧ ∀ q (h : q < x.l.length) (h' : q < y.l.length), q < j → relY escFits x.l[q].ty y.l[q].ty = true) (fun i _ => x.l.length - (intOf i).toNat)
    case atStart => exact ⟨0, Nat.zero_le _, rfl, Below.refl _ _, fun q _ _ h => absurd h (by omega)⟩
    case round =>
      obtain ⟨j, hj, rfl, hbr, hall⟩ := hrel
      have HA : Hid (∀ q (h : q < x.l.length) (h' : q < y.l.length), q < j → relY escFits x.l[q].ty y.l[q].ty = true) := hall
      clear hall
      have hbwr : Below w.heap.size w wr := hbw.trans (hbr.mono hbw.size)
      by_cases hlt : j < x.l.length
      · have hlt' : j < y.l.length := hl.out ▸ hlt
        obtain ⟨b, o, ea, x0, x1, hxj⟩ := hx.part j hlt
        obtain ⟨b', o', eb, y0, y1, hyj⟩ := hy.part j hlt'
        have q1 : wr.cell? ⟨w.heap.size, 1, none⟩ = some (.slice (some ⟨b, o, none⟩) x.l.length x.c) := by rw [← ea]; exact cell_later hbr p1
        have q3 : wr.cell? ⟨w.heap.size + 1, 1, none⟩ = some (.slice (some ⟨b', o', none⟩) y.l.length y.c) := by rw [← eb]; exact cell_later hbr p3
        replace x0 := cell_later hbwr x0
        replace x1 := cell_later hbwr x1
        replace y0 := cell_later hbwr y0
        replace y1 := cell_later hbwr y1
        have i1 : (j : Int) < (x.l.length : Int) := by omega
        have i2 : (j : Int) < (y.l.length : Int) := by omega
        have i0 : (0 : Int) ≤ (j : Int) := by omega
        clear p1 p3 ea eb hx hy ht'
        have hwr : IntKind.i64.wrap (n : Int) = (n : Int) := wrap_small n hn
        obtain ⟨r, hr⟩ : ∃ r, relY escFits x.l[j].ty y.l[j].ty = r := ⟨_, rfl⟩
        have HC : Hid (∀ (w : World), x.l[j].In w → y.l[j].In w → Calls Tryz.prog 146 #[.agg #[.int .i64 x.l[j].k, .slice x.l[j].a x.l[j].l.length x.l[j].c], .agg #[.int .i64 y.l[j].k, .slice y.l[j].a y.l[j].l.length y.l[j].c], .int .i64 (n : Int), .pointer rp] w fun e w' => e = .returned (.bool r) ∧ Below w.heap.size w w') := by
          intro w h1 h2
          have := ih.out x.l[j] y.l[j] w h1 h2 (Tr.hgt_part hh j hlt) (hs.part j hlt)
          rw [hr] at this
          exact this
        have HR : Hid (relY escFits x.l[j].ty y.l[j].ty = r) := hr
        clear hr
        cases r
        · go_wp2_with fail
          go_region_held3 (fun w' => w'.cell? ⟨w.heap.size, 1, none⟩ = some (.slice (some ⟨b, o, none⟩) x.l.length x.c) ∧ w'.cell? ⟨w.heap.size + 1, 1, none⟩ = some (.slice (some ⟨b', o', none⟩) y.l.length y.c) ∧ w'.cell? ⟨b, o + j * 2, none⟩ = some (.int .i64 x.l[j].k) ∧ w'.cell? ⟨b, o + j * 2 + 1, none⟩ = some (.slice x.l[j].a x.l[j].l.length x.l[j].c) ∧ w'.cell? ⟨b', o' + j * 2, none⟩ = some (.int .i64 y.l[j].k) ∧ w'.cell? ⟨b', o' + j * 2 + 1, none⟩ = some (.slice y.l[j].a y.l[j].l.length y.l[j].c)) (first | exact ⟨cell_later hb2 q1, cell_later hb2 q3, cell_later hb2 x0, cell_later hb2 x1, cell_later hb2 y0, cell_later hb2 y1⟩ | go_keep) (first | (go_at_call 146; refine (HC.out _ (hxj.below hbwr.drew) (hyj.below hbwr.drew)).mono ?_; rintro e w2 ⟨rfl, hb2⟩))
          have hbr2 : Below w1.heap.size w1 w2 := hbr.drew.trans (hb2.mono hbr.size)
          go_wp2_with fail
          go_ret
          refine ⟨?_, hbw.trans (hbr2.mono hbw.size)⟩
          rw [relY_part_not escFits x y (by simp [escFits, e1, e2]) j hlt hlt' HR.out]
          rfl
        · go_wp2_with fail
          go_region_held3 (fun w' => w'.cell? ⟨w.heap.size, 1, none⟩ = some (.slice (some ⟨b, o, none⟩) x.l.length x.c) ∧ w'.cell? ⟨w.heap.size + 1, 1, none⟩ = some (.slice (some ⟨b', o', none⟩) y.l.length y.c) ∧ w'.cell? ⟨b, o + j * 2, none⟩ = some (.int .i64 x.l[j].k) ∧ w'.cell? ⟨b, o + j * 2 + 1, none⟩ = some (.slice x.l[j].a x.l[j].l.length x.l[j].c) ∧ w'.cell? ⟨b', o' + j * 2, none⟩ = some (.int .i64 y.l[j].k) ∧ w'.cell? ⟨b', o' + j * 2 + 1, none⟩ = some (.slice y.l[j].a y.l[j].l.length y.l[j].c)) (first | exact ⟨cell_later hb2 q1, cell_later hb2 q3, cell_later hb2 x0, cell_later hb2 x1, cell_later hb2 y0, cell_later hb2 y1⟩ | go_keep) (first | (go_at_call 146; refine (HC.out _ (hxj.below hbwr.drew) (hyj.below hbwr.drew)).mono ?_; rintro e w2 ⟨rfl, hb2⟩))
          have hbr2 : Below w1.heap.size w1 w2 := hbr.drew.trans (hb2.mono hbr.size)
          go_wp2_with fail
          go_roundw
          case rel =>
            refine ⟨j + 1, by omega, by go_num, hbr2, fun q h h' hq => ?_⟩
            by_cases e : q = j
            · subst e; exact HR.out
            · exact HA.out q h h' (by omega)
          case measure => simp [intOf]; omega
      · go_wp2_with fail
        go_ret
        refine ⟨?_, hbwr⟩
        rw [relY_parts escFits x y hk.out hl.out fun q h h' => HA.out q h h' (by omega)]
        rfl
theorem fits_any (n : Nat) : n ≤ 1000 → ∀ (x y : Tr) (rp : Option Addr) (w : World), x.In w → y.In w → x.hgt ≤ n → x.sm → Calls Tryz.prog 146 #[.agg #[.int .i64 x.k, .slice x.a x.l.length x.c], .agg #[.int .i64 y.k, .slice y.a y.l.length y.c], .int .i64 (n : Int), .pointer rp] w fun e w' => e = .returned (.bool (relY escFits x.ty y.ty)) ∧ Below w.heap.size w w' := by
  induction n with
  | zero =>
    intro _ x y rp w _ _ h
    have := x.hgt_pos
    omega
  | succ n ih =>
    intro hn x y rp w hx hy h hs
    have e : ((n + 1 : Nat) : Int) = (n : Int) + 1 := by omega
    rw [e]
    by_cases k1 : x.k = 0
    · rw [k1, relY_esc escFits x y (by simp [escFits, k1])]
      exact fits_left n (by omega) y.k x.a y.a _ _ _ _ rp w
    by_cases k2 : y.k = 0
    · rw [k2, relY_esc escFits x y (by simp [escFits, k2])]
      exact fits_right n (by omega) x.k (by simpa using k1) x.a y.a _ _ _ _ rp w
    exact fits_step n (by omega) x y rp w hx hy h hs (by simpa using k1) (by simpa using k2) (fun x y w hx hy h hs => ih (by omega) x y rp w hx hy h hs)
end Go.Proofs.YtnddkmccagiclabGreatDoor

/-
  What the calls of kind.holds (of kind.fits) and kind.Fits answer at two trees of which the first has at most a thousand levels.
-/
namespace Go.Proofs.YtnddkmccagiclabGreatDoor
open Go.RowKit
set_option maxHeartbeats 1000000 in
theorem holds_32 (x y : Tr) (r : Bool) (w : World) (hx : x.In w) (hy : y.In w)
    (HC : Hid (∀ (rp : Option Addr) (w : World), x.In w → y.In w → Calls Tryz.prog 146 #[.agg #[.int .i64 x.k, .slice x.a x.l.length x.c], .agg #[.int .i64 y.k, .slice y.a y.l.length y.c], .int .i64 1000, .pointer rp] w fun e w' => e = .returned (.bool r) ∧ Below w.heap.size w w')) :
    Calls Tryz.prog 44 #[.func (.func 146) #[] #[], .agg #[.int .i64 x.k, .slice x.a x.l.length x.c], .agg #[.int .i64 y.k, .slice y.a y.l.length y.c]] w fun e w' => e = .returned (.bool r) ∧ Below w.heap.size w w' := by
  go_enter Tryz.func44, Tryz.ntmps44
  go_wp2_with fail
  refine (put_any (w.heap.size + 1 + 1) (.slice none 0 0) 0 [] x.k y.k x.a y.a x.l.length y.l.length x.c y.c none _ (by simp [go_sem]) (by simp [go_sem]) (World.ownsRow_nil _ _ _ _) (by omega)).mono ?_
  rintro e w1 ⟨rfl, g, cap, hc1, hf1, ho1, _, hk1⟩
  have hbw : Below w.heap.size w w1 := ((((Below.refl _ _).alloc (Nat.le_refl _) _).alloc (by simp) _).alloc (by simp; omega) _).trans ((hk1.below (by simp [Value.ownBlock]) (by simp)).mono (by omega))
  have hsz : w.heap.size + 1 + 1 < w1.heap.size := World.block_lt_of_cell? _ _ hc1
  have HO : Hid (Off (w.heap.size + 1 + 1) x y r 1 w1) := ⟨hf1, .inl ⟨rfl, g, cap, by simpa using hc1, by simpa using ho1⟩⟩
  clear hc1 hf1 ho1 hk1
  go_wp2_with fail
  go_loopg [] 1 (fun k wr => Hid (Off (w.heap.size + 1 + 1) x y r k wr) ∧ Below w.heap.size w wr)
  case atStart => exact ⟨HO, hbw⟩
  case round =>
    obtain ⟨HR, hbr⟩ := hrel
    obtain ⟨hfr, ⟨rfl, g, cap, hc, ho⟩ | ⟨rfl, rfl, a, cap, hc⟩⟩ := HR.out
    · have c0 := ho.cellAt 0 (by omega)
      have c1 := ho.cellAt 1 (by omega)
      have c2 := ho.cellAt 2 (by omega)
      have c3 := ho.cellAt 3 (by omega)
      have c4 := ho.cellAt 4 (by omega)
      simp only [List.getElem?_cons_zero, List.getElem?_cons_succ] at c0 c1 c2 c3 c4
      have hcap : 1 ≤ cap := by
        rcases ho.2 with ⟨h, _⟩ | ⟨g', cap', cur, h, _, _, h1, _⟩
        · cases h
        · cases h; exact h1
      have hgr : w.heap.size + 1 + 1 < g := by
        rcases ho.2 with ⟨h, _⟩ | ⟨g', cap', cur, h, h1, _⟩
        · cases h
        · cases h; exact h1
      have hlr : w.heap.size + 1 + 1 < wr.heap.size := World.block_lt_of_cell? _ _ hc
      clear ho HR HO
      go_wp2_with fail
      refine (empty_any (w.heap.size + 1 + 1) (some ⟨g, 0, none⟩) 1 cap _ hc).mono ?_
      rintro e w' ⟨rfl, rfl⟩
      go_wp2_with fail
      refine (take_any (w.heap.size + 1 + 1) g 0 cap x.k y.k x.a y.a x.l.length y.l.length x.c y.c none _ (by simpa using hc) hfr (by omega) (by omega) (by simpa using c0) (by simpa using c1) (by simpa using c2) (by simpa using c3) (by simpa using c4)).mono ?_
      rintro e w' ⟨rfl, rfl⟩
      go_wp2_with fail
      have hb3 : Below w.heap.size w (((w'.setCell ⟨w.heap.size + 1 + 1, 0, none⟩ (.slice (some ⟨g, 0, none⟩) 0 cap)).alloc (.cells #[.int .i64 x.k, .slice x.a x.l.length x.c, .int .i64 y.k, .slice y.a y.l.length y.c, .pointer none] 141)).alloc (.cells #[.int .i64 x.k, .slice x.a x.l.length x.c, .int .i64 y.k, .slice y.a y.l.length y.c, .pointer none] 141)) :=
        ((hbr.setCell (by simp; omega) _).alloc (by simp [World.setCell]; omega) _).alloc (by simp [World.setCell]; omega) _
      have hb4 := hb3.alloc (by simp [World.setCell]; omega) (.cells #[.int .i64 x.k, .slice x.a x.l.length x.c, .int .i64 y.k, .slice y.a y.l.length y.c, .pointer none] 141)
      refine (HC.out _ _ (hx.below hb4) (hy.below hb4)).mono ?_
      rintro e w5 ⟨rfl, hb5⟩
      have hb6 : Below w.heap.size w w5 := hb4.trans (hb5.mono (by simp [World.setCell]; omega))
      have hcR : w5.cell? ⟨w.heap.size + 1 + 1, 0, none⟩ = some (.slice (some ⟨g, 0, none⟩) 0 cap) := by
        refine cell_later hb5 (cell_later ((((Below.refl _ (w'.setCell ⟨w.heap.size + 1 + 1, 0, none⟩ (.slice (some ⟨g, 0, none⟩) 0 cap))).alloc (Nat.le_refl _) _).alloc (by simp) _).alloc (by simp; omega) _) ?_)
        exact World.cell?_setCell_same _ _ _ hc
      have hfR : w5.frozen? ⟨w.heap.size + 1 + 1, 0, none⟩ = false := by
        rw [hb5.frozen (p := ⟨w.heap.size + 1 + 1, 0, none⟩) (by simp [World.setCell]; omega)]
        simp [frozen?_alloc_cells, hfr]
      clear hb5 hb4 hb3 hc hfr c0 c1 c2 c3 c4
      cases r
      · go_wp2_with fail
        go_ret
        exact ⟨rfl, hb6⟩
      · go_wp2_with fail
        go_roundg 0
        case measure => omega
        case rel => exact ⟨⟨hfR, .inr ⟨rfl, rfl, _, _, hcR⟩⟩, hb6⟩
    · go_wp2_with fail
      refine (empty_any (w.heap.size + 1 + 1) a 0 cap _ hc).mono ?_
      rintro e w' ⟨rfl, rfl⟩
      go_wp2_with fail
      go_ret
      exact ⟨rfl, hbr⟩
set_option maxHeartbeats 400000 in
/-- kind.Fits. -/
theorem fits_whole (x y : Tr) (w : World) (hx : x.In w) (hy : y.In w) (hh : x.hgt ≤ 1000) (hs : x.sm) :
    Calls Tryz.prog 108 #[.agg #[.int .i64 x.k, .slice x.a x.l.length x.c], .agg #[.int .i64 y.k, .slice y.a y.l.length y.c]] w fun e w' => e = .returned (.bool (relY escFits x.ty y.ty)) ∧ Below w.heap.size w w' := by
  obtain ⟨r, hr⟩ : ∃ r, relY escFits x.ty y.ty = r := ⟨_, rfl⟩
  have HC : Hid (∀ (rp : Option Addr) (w : World), x.In w → y.In w → Calls Tryz.prog 146 #[.agg #[.int .i64 x.k, .slice x.a x.l.length x.c], .agg #[.int .i64 y.k, .slice y.a y.l.length y.c], .int .i64 1000, .pointer rp] w fun e w' => e = .returned (.bool r) ∧ Below w.heap.size w w') := by
    intro rp w h1 h2
    have h := fits_any 1000 (Nat.le_refl _) x y rp w h1 h2 hh hs
    rw [hr] at h
    exact h
  rw [hr]
  clear hr
  have HH : Hid (∀ (w : World), x.In w → y.In w → Calls Tryz.prog 44 #[.func (.func 146) #[] #[], .agg #[.int .i64 x.k, .slice x.a x.l.length x.c], .agg #[.int .i64 y.k, .slice y.a y.l.length y.c]] w fun e w' => e = .returned (.bool r) ∧ Below w.heap.size w w') := fun w h1 h2 => holds_32 x y r w h1 h2 HC
  clear HC
  go_enter Tryz.func108, Tryz.ntmps108
  go_wp2_with fail
  have hb0 : Below w.heap.size w ((w.alloc (Obj.cells #[.int .i64 x.k, .slice x.a x.l.length x.c] 24)).alloc (Obj.cells #[.int .i64 y.k, .slice y.a y.l.length y.c] 24)) := ((Below.refl _ _).alloc (Nat.le_refl _) _).alloc (by simp) _
  refine (HH.out _ (hx.below hb0) (hy.below hb0)).mono ?_
  rintro e w1 ⟨rfl, hb1⟩
  have hb2 := hb0.trans (hb1.mono (by simp; omega))
  clear hb0 hb1
  go_wp2_with fail
  go_ret
  exact ⟨rfl, hb2⟩
end Go.Proofs.YtnddkmccagiclabGreatDoor

/-
  The small functions of package check: count, fresh, ruleOfCall, ruleOfIf, ahead: what a call of each answers, at types of at most a thousand levels.
-/
namespace Go.Proofs.YtnddkmccagiclabGreatDoor
open Go.RowKit
set_option maxHeartbeats 400000 in
/-- count. -/
theorem count_any (R c : Nat) (hc : c ≤ 1000000) (w : World) (h : w.cell? ⟨R, 0, none⟩ = some (.int .i64 (c : Int))) (hf : w.frozen? ⟨R, 0, none⟩ = false) :
    Calls Tryz.prog 64 #[.pointer (some ⟨R, 0, none⟩)] w fun e w' => e = .returned (.int .i64 (c : Int)) ∧ w' = w.setCell ⟨R, 0, none⟩ (.int .i64 ((c + 1 : Nat) : Int)) := by
  have e1 : IntKind.i64.wrap ((c : Int) + 1) = ((c + 1 : Nat) : Int) := by
    have : ((c + 1 : Nat) : Int) = (c : Int) + 1 := by omega
    rw [this]
    rw [IntKind.wrap_i64]; omega
  go_enter Tryz.func64, Tryz.ntmps64
  go_wp2_with fail
  go_ret
  exact ⟨rfl, by first | rfl | rw [e1] | (simp [e1])⟩
/-- A copy of a right type is the type. -/
theorem join_self (t : Tr) : t.right → joinY t.ty t.ty = t.ty := by
  induction t using Tr.ind with
  | h k a c l ih =>
    intro h
    rw [Tr.ty_mk, joinY_mk, if_pos rfl]
    congr 1
    rcases Tr.right_mk.1 h with ⟨⟨rfl, _⟩ | ⟨hl, _⟩, hr⟩
    · rfl
    · match l, hl, hr, ih with
      | [x, y], _, hr, ih => simp [joinL, ih x (by simp) (hr x (by simp)), ih y (by simp) (hr y (by simp))]
set_option maxHeartbeats 400000 in
/-- fresh. -/
theorem fresh_any (x : Tr) (w : World) (hx : x.In w) (hr : x.right) (hh : x.hgt ≤ 1000) :
    Calls Tryz.prog 42 #[.agg #[.int .i64 x.k, .slice x.a x.l.length x.c]] w fun e w' => ∃ t : Tr, e = .returned (.agg #[.int .i64 t.k, .slice t.a t.l.length t.c]) ∧ t.ty = x.ty ∧ t.In w' ∧ t.Bl (w.heap.size ≤ ·) ∧ Below w.heap.size w w' := by
  have hb0 : Below w.heap.size w ((w.alloc (Obj.cells #[.int .i64 x.k, .slice x.a x.l.length x.c] 24)).alloc (Obj.cells #[.int .i64 0, .slice none 0 0] 24)) := ((Below.refl _ _).alloc (Nat.le_refl _) _).alloc (by simp) _
  have hz : ((w.alloc (Obj.cells #[.int .i64 x.k, .slice x.a x.l.length x.c] 24)).alloc (Obj.cells #[.int .i64 0, .slice none 0 0] 24)).heap.size = w.heap.size + 1 + 1 := by simp
  go_enter Tryz.func42, Tryz.ntmps42
  go_wp2_with fail
  refine (join_whole x x _ (hx.below hb0) (hx.below hb0) hr hr hh).mono ?_
  rintro e w1 ⟨t, rfl, ht, hin, hbl, hb1⟩
  rw [hz] at hbl hb1
  have q0 : w1.cell? ⟨w.heap.size + 1, 0, none⟩ = some (.int .i64 0) := (hb1.cell (p := ⟨w.heap.size + 1, 0, none⟩) (by simp)).trans (by simp [go_sem])
  have q1 : w1.cell? ⟨w.heap.size + 1, 1, none⟩ = some (.slice none 0 0) := (hb1.cell (p := ⟨w.heap.size + 1, 1, none⟩) (by simp)).trans (by simp [go_sem])
  have f0 : w1.frozen? ⟨w.heap.size + 1, 0, none⟩ = false := (hb1.frozen (p := ⟨w.heap.size + 1, 0, none⟩) (by simp)).trans (by simp [go_sem])
  have f1 : w1.frozen? ⟨w.heap.size + 1, 1, none⟩ = false := (hb1.frozen (p := ⟨w.heap.size + 1, 1, none⟩) (by simp)).trans (by simp [go_sem])
  have hbw : Below w.heap.size w w1 := hb0.trans (hb1.mono (by omega))
  have HE : Hid (∃ t' : Tr, Ending.returned (.agg #[.int .i64 t.k, .slice t.a t.l.length t.c]) = .returned (.agg #[.int .i64 t'.k, .slice t'.a t'.l.length t'.c]) ∧ t'.ty = x.ty ∧ t'.In ((w1.setCell ⟨w.heap.size + 1, 0, none⟩ (.int .i64 t.k)).setCell ⟨w.heap.size + 1, 1, none⟩ (.slice t.a t.l.length t.c)) ∧ t'.Bl (w.heap.size ≤ ·) ∧ Below w.heap.size w ((w1.setCell ⟨w.heap.size + 1, 0, none⟩ (.int .i64 t.k)).setCell ⟨w.heap.size + 1, 1, none⟩ (.slice t.a t.l.length t.c))) :=
    ⟨t, rfl, ht.trans (join_self x hr), set_keeps (io := 0) hin (hbl.mono fun b hb => by omega), hbl.mono fun b hb => by omega, (hbw.setCell (by simp) _).setCell (by simp) _⟩
  clear hb0 hb1 hbw ht hin hbl hz hx hr hh
  go_wp2_with fail
  refine bodyPost_ret (v := .agg #[.int .i64 t.k, .slice t.a t.l.length t.c]) ?_ rfl HE.out
  simp [results, Tryz.results42, go_sem, q0, q1]
end Go.Proofs.YtnddkmccagiclabGreatDoor

/-
  What the calls of check's ruleOfCall and ruleOfIf answer.
-/
namespace Go.Proofs.YtnddkmccagiclabGreatDoor
open Go.RowKit
/-- What a rule is: none, or a type and the list of what the parts are used as; all of it lies in blocks of kind Q. -/
def RuOut (Q : Nat → Prop) (w : World) (r : Option (Ty × List Ty)) (e : Ending) (w' : World) : Prop :=
  Below w.heap.size w w' ∧ ((r = none ∧ e = .returned (.tuple #[.agg #[.int .i64 0, .slice none 0 0, .slice none 0 0], .bool false])) ∨
    ∃ I U : Tr, r = some (I.ty, U.l.map Tr.ty) ∧ e = .returned (.tuple #[.agg #[.int .i64 I.k, .slice I.a I.l.length I.c, .slice U.a U.l.length U.c], .bool true]) ∧ I.In w' ∧ U.In w' ∧ I.Bl Q ∧ U.Bl Q)
/-- The rule of a call. -/
def callY (t : Ty) : Option (Ty × List Ty) :=
  if t.k = 0 then some (⟨0, []⟩, [⟨3, [⟨0, []⟩, ⟨0, []⟩]⟩, ⟨0, []⟩])
  else if t.k = 3 then some (t.l.getD 1 ⟨0, []⟩, [t, t.l.getD 0 ⟨0, []⟩])
  else none
set_option maxHeartbeats 1000000 in
theorem ruleOfCall_none (k : Int) (h0 : (k == 0) = false) (h3 : (k != 3) = true) (a : Option Addr) (m c : Nat) (w : World) :
    Calls Tryz.prog 107 #[.agg #[.int .i64 k, .slice a m c]] w fun e w' => e = .returned (.tuple #[.agg #[.int .i64 0, .slice none 0 0, .slice none 0 0], .bool false]) ∧ Below w.heap.size w w' := by
  go_enter Tryz.func107, Tryz.ntmps107
  go_wp2_with fail
  refine bodyPost_ret (v := .tuple #[.agg #[.int .i64 0, .slice none 0 0, .slice none 0 0], .bool false]) (by simp [results, Tryz.results107, go_sem]) rfl ⟨rfl, ?_⟩
  repeat (first | exact Below.refl _ _ | refine Below.drew ?_ | refine Below.setCell ?_ (by first | (simp; done) | (simp; omega) | omega) _ | refine Below.alloc ?_ (by first | (simp; done) | (simp; omega) | omega) _)
/-- A rule's three cells, filled, and a new block behind. -/
theorem rule_end {B P : Nat} {w W : World} {u v z u' v' z' : Value} {cs : Array Value} (hb : Below B w W) (c0 : W.cell? ⟨P, 0, none⟩ = some u') (c1 : W.cell? ⟨P, 1, none⟩ = some v') (c2 : W.cell? ⟨P, 2, none⟩ = some z') (hP : B ≤ P ∧ B ≤ W.heap.size) :
    Hid (((((W.setCell ⟨P, 0, none⟩ u).setCell ⟨P, 1, none⟩ v).setCell ⟨P, 2, none⟩ z).alloc (.cells cs 24)).cell? ⟨P, 0, none⟩ = some u ∧ ((((W.setCell ⟨P, 0, none⟩ u).setCell ⟨P, 1, none⟩ v).setCell ⟨P, 2, none⟩ z).alloc (.cells cs 24)).cell? ⟨P, 1, none⟩ = some v ∧ ((((W.setCell ⟨P, 0, none⟩ u).setCell ⟨P, 1, none⟩ v).setCell ⟨P, 2, none⟩ z).alloc (.cells cs 24)).cell? ⟨P, 2, none⟩ = some z ∧
      (∀ i, ((((W.setCell ⟨P, 0, none⟩ u).setCell ⟨P, 1, none⟩ v).setCell ⟨P, 2, none⟩ z).alloc (.cells cs 24)).cell? ⟨W.heap.size, i, none⟩ = cs[i]?) ∧ Below B w ((((W.setCell ⟨P, 0, none⟩ u).setCell ⟨P, 1, none⟩ v).setCell ⟨P, 2, none⟩ z).alloc (.cells cs 24))) := by
  have hz : (((W.setCell ⟨P, 0, none⟩ u).setCell ⟨P, 1, none⟩ v).setCell ⟨P, 2, none⟩ z).heap.size = W.heap.size := by simp [World.setCell]
  have a0 := set_get (j := 2) (v := z) (set_get (j := 1) (v := v) (set_get (j := 0) (v := u) c0))
  have a1 := set_get (j := 2) (v := z) (set_get (j := 1) (v := v) (set_get (j := 0) (v := u) c1))
  have a2 := set_get (j := 2) (v := z) (set_get (j := 1) (v := v) (set_get (j := 0) (v := u) c2))
  simp only [if_pos, if_false, Nat.reduceEqDiff, reduceCtorEq] at a0 a1 a2
  have hX : Below (((W.setCell ⟨P, 0, none⟩ u).setCell ⟨P, 1, none⟩ v).setCell ⟨P, 2, none⟩ z).heap.size (((W.setCell ⟨P, 0, none⟩ u).setCell ⟨P, 1, none⟩ v).setCell ⟨P, 2, none⟩ z) ((((W.setCell ⟨P, 0, none⟩ u).setCell ⟨P, 1, none⟩ v).setCell ⟨P, 2, none⟩ z).alloc (.cells cs 24)) := (Below.refl _ _).alloc (Nat.le_refl _) _
  refine ⟨cell_later hX (by simpa using a0), cell_later hX (by simpa using a1), cell_later hX (by simpa using a2), ?_, (((hb.setCell hP.1 _).setCell hP.1 _).setCell hP.1 _).alloc (by rw [hz]; exact hP.2) _⟩
  intro i
  rw [← hz]
  simp [go_sem]
set_option maxHeartbeats 1000000 in
theorem ruleOfCall_fun (b o c : Nat) (x y : Tr) (w : World) (x0 : w.cell? ⟨b, o, none⟩ = some (.int .i64 x.k)) (x1 : w.cell? ⟨b, o + 1, none⟩ = some (.slice x.a x.l.length x.c)) (y0 : w.cell? ⟨b, o + 2, none⟩ = some (.int .i64 y.k)) (y1 : w.cell? ⟨b, o + 3, none⟩ = some (.slice y.a y.l.length y.c)) :
    Calls Tryz.prog 107 #[.agg #[.int .i64 3, .slice (some ⟨b, o, none⟩) 2 c]] w fun e w' => ∃ g, w.heap.size ≤ g ∧ e = .returned (.tuple #[.agg #[.int .i64 y.k, .slice y.a y.l.length y.c, .slice (some ⟨g, 0, none⟩) 2 2], .bool true]) ∧
      w'.cell? ⟨g, 0, none⟩ = some (.int .i64 3) ∧ w'.cell? ⟨g, 1, none⟩ = some (.slice (some ⟨b, o, none⟩) 2 c) ∧ w'.cell? ⟨g, 2, none⟩ = some (.int .i64 x.k) ∧ w'.cell? ⟨g, 3, none⟩ = some (.slice x.a x.l.length x.c) ∧ Below w.heap.size w w' := by
  have lb : b < w.heap.size := World.block_lt_of_cell? _ _ x0
  go_enter Tryz.func107, Tryz.ntmps107
  go_wp2_with fail
  obtain ⟨W0, hW0⟩ : ∃ W0, W0 = ((w.alloc (Obj.cells #[.int .i64 3, .slice (some ⟨b, o, none⟩) 2 c] 24)).alloc (Obj.cells #[.int .i64 0, .slice none 0 0, .slice none 0 0] 119)) := ⟨_, rfl⟩
  have hs0 : W0.heap.size = w.heap.size + 1 + 1 := by rw [hW0]; simp
  have hb0 : Below w.heap.size w W0 := by rw [hW0]; exact ((Below.refl _ _).alloc (Nat.le_refl _) _).alloc (by simp) _
  have r0 : W0.cell? ⟨w.heap.size, 0, none⟩ = some (.int .i64 3) := by rw [hW0]; simp [go_sem]
  have r1 : W0.cell? ⟨w.heap.size, 1, none⟩ = some (.slice (some ⟨b, o, none⟩) 2 c) := by rw [hW0]; simp [go_sem]
  have r2 : W0.cell? ⟨w.heap.size + 1, 0, none⟩ = some (.int .i64 0) := by rw [hW0]; simp [go_sem]
  have r3 : W0.cell? ⟨w.heap.size + 1, 1, none⟩ = some (.slice none 0 0) := by rw [hW0]; simp [go_sem]
  have r4 : W0.cell? ⟨w.heap.size + 1, 2, none⟩ = some (.slice none 0 0) := by rw [hW0]; simp [go_sem]
  have r5 : ∀ i, W0.frozen? ⟨w.heap.size + 1, i, none⟩ = false := by intro i; rw [hW0]; simp [go_sem]
  replace x0 := cell_later hb0 x0
  replace x1 := cell_later hb0 x1
  replace y0 := cell_later hb0 y0
  replace y1 := cell_later hb0 y1
  rw [← hW0]
  clear hW0
  have lW : b < W0.heap.size := by omega
  have l0 : w.heap.size < W0.heap.size := by omega
  have l1 : w.heap.size + 1 < W0.heap.size := by omega
  have hbX : ∀ X, Below W0.heap.size W0 (W0.alloc X) := fun X => (Below.refl _ _).alloc (Nat.le_refl _) _
  have v0 := fun X => cell_later (hbX X) y0
  have v1 := fun X => cell_later (hbX X) y1
  have v2 := fun X => cell_later (hbX X) r0
  have v3 := fun X => cell_later (hbX X) r1
  have v4 := fun X => cell_later (hbX X) r2
  have v5 := fun X => cell_later (hbX X) r3
  have v6 := fun X => cell_later (hbX X) r4
  have v7 : ∀ X i, (W0.alloc X).frozen? ⟨w.heap.size + 1, i, none⟩ = false := fun X i => ((hbX X).frozen (p := ⟨w.heap.size + 1, i, none⟩) (by omega)).trans (r5 i)
  clear hbX
  have HX := rule_end (u := .int .i64 y.k) (v := .slice y.a y.l.length y.c) (z := .slice (some ⟨w.heap.size + 1 + 1, 0, none⟩) 2 2) (cs := #[.int .i64 3, .slice (some ⟨b, o, none⟩) 2 c, .int .i64 x.k, .slice x.a x.l.length x.c]) hb0 r2 r3 r4 (by omega)
  clear hb0
  go_region
  all_goals
    clear v0 v1 v2 v3 v4 v5 v6 v7
    go_wp2_with fail
    refine bodyPost_ret (v := .tuple #[.agg #[.int .i64 y.k, .slice y.a y.l.length y.c, .slice (some ⟨w.heap.size + 1 + 1, 0, none⟩) 2 2], .bool true]) (by simp [results, Tryz.results107, go_sem, HX.out.1, HX.out.2.1, HX.out.2.2.1]) rfl ⟨w.heap.size + 1 + 1, by omega, rfl, ?_, ?_, ?_, ?_, ?_⟩
    · have := HX.out.2.2.2.1 0; rw [hs0] at this; exact this
    · have := HX.out.2.2.2.1 1; rw [hs0] at this; exact this
    · have := HX.out.2.2.2.1 2; rw [hs0] at this; exact this
    · have := HX.out.2.2.2.1 3; rw [hs0] at this; exact this
    · exact HX.out.2.2.2.2.drew
set_option maxHeartbeats 1000000 in
theorem ruleOfCall_open (a : Option Addr) (m c : Nat) (w : World) :
    Calls Tryz.prog 107 #[.agg #[.int .i64 0, .slice a m c]] w fun e w' => ∃ b g, w.heap.size ≤ b ∧ w.heap.size ≤ g ∧ e = .returned (.tuple #[.agg #[.int .i64 0, .slice none 0 0, .slice (some ⟨g, 0, none⟩) 2 2], .bool true]) ∧
      w'.cell? ⟨b, 0, none⟩ = some (.int .i64 0) ∧ w'.cell? ⟨b, 1, none⟩ = some (.slice none 0 0) ∧ w'.cell? ⟨b, 2, none⟩ = some (.int .i64 0) ∧ w'.cell? ⟨b, 3, none⟩ = some (.slice none 0 0) ∧
      w'.cell? ⟨g, 0, none⟩ = some (.int .i64 3) ∧ w'.cell? ⟨g, 1, none⟩ = some (.slice (some ⟨b, 0, none⟩) 2 2) ∧ w'.cell? ⟨g, 2, none⟩ = some (.int .i64 0) ∧ w'.cell? ⟨g, 3, none⟩ = some (.slice none 0 0) ∧ Below w.heap.size w w' := by
  have hb0 : Below w.heap.size w ((w.alloc (Obj.cells #[.int .i64 0, .slice a m c] 24)).alloc (Obj.cells #[.int .i64 0, .slice none 0 0, .slice none 0 0] 119)) := ((Below.refl _ _).alloc (Nat.le_refl _) _).alloc (by simp) _
  have hz : ((w.alloc (Obj.cells #[.int .i64 0, .slice a m c] 24)).alloc (Obj.cells #[.int .i64 0, .slice none 0 0, .slice none 0 0] 119)).heap.size = w.heap.size + 1 + 1 := by simp
  go_enter Tryz.func107, Tryz.ntmps107
  go_wp2_with fail
  refine (to_cells 0 0 none none 0 0 0 0 _).mono ?_
  rintro e w1 ⟨b, hg, rfl, d0, d1, d2, d3, hb1⟩
  rw [hz] at hg hb1
  have q0 : w1.cell? ⟨w.heap.size, 0, none⟩ = some (.int .i64 0) := (hb1.cell (p := ⟨w.heap.size, 0, none⟩) (by simp; omega)).trans (by simp [go_sem])
  have q1 : w1.cell? ⟨w.heap.size, 1, none⟩ = some (.slice a m c) := (hb1.cell (p := ⟨w.heap.size, 1, none⟩) (by simp; omega)).trans (by simp [go_sem])
  have qf : ∀ i, w1.frozen? ⟨w.heap.size, i, none⟩ = false := fun i => (hb1.frozen (p := ⟨w.heap.size, i, none⟩) (by simp; omega)).trans (by simp [go_sem])
  have qf0 := qf 0
  have qf1 := qf 1
  have p0 : w1.cell? ⟨w.heap.size + 1, 0, none⟩ = some (.int .i64 0) := (hb1.cell (p := ⟨w.heap.size + 1, 0, none⟩) (by simp)).trans (by simp [go_sem])
  have p1 : w1.cell? ⟨w.heap.size + 1, 1, none⟩ = some (.slice none 0 0) := (hb1.cell (p := ⟨w.heap.size + 1, 1, none⟩) (by simp)).trans (by simp [go_sem])
  have p2 : w1.cell? ⟨w.heap.size + 1, 2, none⟩ = some (.slice none 0 0) := (hb1.cell (p := ⟨w.heap.size + 1, 2, none⟩) (by simp)).trans (by simp [go_sem])
  have p3 : ∀ i, w1.frozen? ⟨w.heap.size + 1, i, none⟩ = false := fun i => (hb1.frozen (p := ⟨w.heap.size + 1, i, none⟩) (by simp)).trans (by simp [go_sem])
  have hbw : Below w.heap.size w w1 := hb0.trans (hb1.mono (by omega))
  have lb1 : b < w1.heap.size := World.block_lt_of_cell? _ _ d0
  have ls1 : w.heap.size + 1 < w1.heap.size := World.block_lt_of_cell? _ _ p0
  clear hb0 hb1 hz
  have nb : b ≠ w.heap.size := by omega
  have n1 : w.heap.size + 1 ≠ w.heap.size := by omega
  obtain ⟨W0, hW0⟩ : ∃ W0, W0 = ((w1.setCell ⟨w.heap.size, 0, none⟩ (.int .i64 3)).setCell ⟨w.heap.size, 1, none⟩ (.slice (some ⟨b, 0, none⟩) 2 2)) := ⟨_, rfl⟩
  have hs0 : W0.heap.size = w1.heap.size := by rw [hW0]; simp [World.setCell]
  have hb0 : Below w.heap.size w W0 := by rw [hW0]; exact (hbw.setCell (by simp) _).setCell (by simp) _
  have r0 : W0.cell? ⟨w.heap.size, 0, none⟩ = some (.int .i64 3) := by rw [hW0]; exact (set_cells q0 q1).1
  have r1 : W0.cell? ⟨w.heap.size, 1, none⟩ = some (.slice (some ⟨b, 0, none⟩) 2 2) := by rw [hW0]; exact (set_cells q0 q1).2
  have r2 : W0.cell? ⟨w.heap.size + 1, 0, none⟩ = some (.int .i64 0) := by rw [hW0]; simp [go_sem, p0]
  have r3 : W0.cell? ⟨w.heap.size + 1, 1, none⟩ = some (.slice none 0 0) := by rw [hW0]; simp [go_sem, p1]
  have r4 : W0.cell? ⟨w.heap.size + 1, 2, none⟩ = some (.slice none 0 0) := by rw [hW0]; simp [go_sem, p2]
  have r5 : ∀ i, W0.frozen? ⟨w.heap.size + 1, i, none⟩ = false := by intro i; rw [hW0]; simp [go_sem, p3 i]
  replace d0 : W0.cell? ⟨b, 0, none⟩ = some (.int .i64 0) := by rw [hW0]; simp [go_sem, d0]
  replace d1 : W0.cell? ⟨b, 1, none⟩ = some (.slice none 0 0) := by rw [hW0]; simp [go_sem, d1]
  replace d2 : W0.cell? ⟨b, 2, none⟩ = some (.int .i64 0) := by rw [hW0]; simp [go_sem, d2]
  replace d3 : W0.cell? ⟨b, 3, none⟩ = some (.slice none 0 0) := by rw [hW0]; simp [go_sem, d3]
  clear p0 p1 p2 p3
  go_wp2_with fail
  rw [← hW0]
  clear hW0 q0 q1 qf qf0 qf1 hbw
  have lW : b < W0.heap.size := by omega
  have l0 : w.heap.size < W0.heap.size := by omega
  have l1 : w.heap.size + 1 < W0.heap.size := by omega
  have hbX : ∀ X, Below W0.heap.size W0 (W0.alloc X) := fun X => (Below.refl _ _).alloc (Nat.le_refl _) _
  have v0 := fun X => cell_later (hbX X) d2
  have v1 := fun X => cell_later (hbX X) d3
  have v2 := fun X => cell_later (hbX X) r0
  have v3 := fun X => cell_later (hbX X) r1
  have v4 := fun X => cell_later (hbX X) r2
  have v5 := fun X => cell_later (hbX X) r3
  have v6 := fun X => cell_later (hbX X) r4
  have v7 : ∀ X i, (W0.alloc X).frozen? ⟨w.heap.size + 1, i, none⟩ = false := fun X i => ((hbX X).frozen (p := ⟨w.heap.size + 1, i, none⟩) (by omega)).trans (r5 i)
  clear hbX
  have HX := rule_end (u := .int .i64 0) (v := .slice none 0 0) (z := .slice (some ⟨W0.heap.size, 0, none⟩) 2 2) (cs := #[.int .i64 3, .slice (some ⟨b, 0, none⟩) 2 2, .int .i64 0, .slice none 0 0]) hb0 r2 r3 r4 (by omega)
  have HD : Hid (∀ i v, W0.cell? ⟨b, i, none⟩ = some v → ((((W0.setCell ⟨w.heap.size + 1, 0, none⟩ (.int .i64 0)).setCell ⟨w.heap.size + 1, 1, none⟩ (.slice none 0 0)).setCell ⟨w.heap.size + 1, 2, none⟩ (.slice (some ⟨W0.heap.size, 0, none⟩) 2 2)).alloc (.cells #[.int .i64 3, .slice (some ⟨b, 0, none⟩) 2 2, .int .i64 0, .slice none 0 0] 24)).cell? ⟨b, i, none⟩ = some v) := by
    intro i v hv
    refine cell_later ((Below.refl _ _).alloc (Nat.le_refl _) _) ?_
    rw [World.cell?_setCell_other _ _ _ _ (by simp), World.cell?_setCell_other _ _ _ _ (by simp), World.cell?_setCell_other _ _ _ _ (by simp)]
    exact hv
  have HN : Hid (w.heap.size ≤ b ∧ w.heap.size ≤ W0.heap.size) := ⟨by omega, by omega⟩
  clear hb0 nb n1 hs0 ls1 lb1 hg
  go_region
  all_goals
    clear v0 v1 v2 v3 v4 v5 v6 v7
    go_wp2_with fail
    refine bodyPost_ret (v := .tuple #[.agg #[.int .i64 0, .slice none 0 0, .slice (some ⟨W0.heap.size, 0, none⟩) 2 2], .bool true]) (by simp [results, Tryz.results107, go_sem, HX.out.1, HX.out.2.1, HX.out.2.2.1]) rfl ⟨b, W0.heap.size, HN.out.1, HN.out.2, rfl, HD.out 0 _ d0, HD.out 1 _ d1, HD.out 2 _ d2, HD.out 3 _ d3, HX.out.2.2.2.1 0, HX.out.2.2.2.1 1, HX.out.2.2.2.1 2, HX.out.2.2.2.1 3, HX.out.2.2.2.2.drew⟩
end Go.Proofs.YtnddkmccagiclabGreatDoor

/-
  What the call of check's ruleOfIf answers, and the calls of ruleOfCall and ruleOfIf at right types as rules.
-/
namespace Go.Proofs.YtnddkmccagiclabGreatDoor
open Go.RowKit
/-- The rule of an If. -/
def ifY (c x y : Ty) : Option (Ty × List Ty) := if relY escFits x y then some (joinY x y, [c, joinY x y, joinY x y]) else none
theorem In_three {w : World} {k : Int} {g c : Nat} {x y z : Tr} (a0 : w.cell? ⟨g, 0, none⟩ = some (.int .i64 x.k)) (a1 : w.cell? ⟨g, 1, none⟩ = some (.slice x.a x.l.length x.c)) (b0 : w.cell? ⟨g, 2, none⟩ = some (.int .i64 y.k)) (b1 : w.cell? ⟨g, 3, none⟩ = some (.slice y.a y.l.length y.c)) (c0 : w.cell? ⟨g, 4, none⟩ = some (.int .i64 z.k)) (c1 : w.cell? ⟨g, 5, none⟩ = some (.slice z.a z.l.length z.c))
    (hx : x.In w) (hy : y.In w) (hz : z.In w) : (Tr.mk k (some ⟨g, 0, none⟩) c [x, y, z]).In w := by
  refine Tr.In_mk.2 ⟨fun j h => ?_, fun t h => ?_⟩
  · match j, h with
    | 0, _ => exact ⟨g, 0, rfl, by simpa using a0, by simpa [Tr.sl] using a1⟩
    | 1, _ => exact ⟨g, 0, rfl, by simpa using b0, by simpa [Tr.sl] using b1⟩
    | 2, _ => exact ⟨g, 0, rfl, by simpa using c0, by simpa [Tr.sl] using c1⟩
  · simp only [List.mem_cons, List.not_mem_nil, or_false] at h
    rcases h with rfl | rfl | rfl
    · exact hx
    · exact hy
    · exact hz
set_option maxHeartbeats 1000000 in
theorem ruleOfIf_cells (c x y : Tr) (w : World) (hx : x.In w) (hy : y.In w) (rx : x.right) (ry : y.right) (hh : x.hgt ≤ 1000) (hs : x.sm) :
    Calls Tryz.prog 105 #[.agg #[.int .i64 c.k, .slice c.a c.l.length c.c], .agg #[.int .i64 x.k, .slice x.a x.l.length x.c], .agg #[.int .i64 y.k, .slice y.a y.l.length y.c]] w fun e w' => Below w.heap.size w w' ∧
      ((relY escFits x.ty y.ty = false ∧ e = .returned (.tuple #[.agg #[.int .i64 0, .slice none 0 0, .slice none 0 0], .bool false])) ∨
       (relY escFits x.ty y.ty = true ∧ ∃ (t : Tr) (g : Nat), w.heap.size ≤ g ∧ t.ty = joinY x.ty y.ty ∧ t.In w' ∧ t.Bl (w.heap.size ≤ ·) ∧ e = .returned (.tuple #[.agg #[.int .i64 t.k, .slice t.a t.l.length t.c, .slice (some ⟨g, 0, none⟩) 3 3], .bool true]) ∧
        w'.cell? ⟨g, 0, none⟩ = some (.int .i64 c.k) ∧ w'.cell? ⟨g, 1, none⟩ = some (.slice c.a c.l.length c.c) ∧ w'.cell? ⟨g, 2, none⟩ = some (.int .i64 t.k) ∧ w'.cell? ⟨g, 3, none⟩ = some (.slice t.a t.l.length t.c) ∧ w'.cell? ⟨g, 4, none⟩ = some (.int .i64 t.k) ∧ w'.cell? ⟨g, 5, none⟩ = some (.slice t.a t.l.length t.c))) := by
  obtain ⟨W0, hW0⟩ : ∃ W0, W0 = ((((w.alloc (Obj.cells #[.int .i64 c.k, .slice c.a c.l.length c.c] 24)).alloc (Obj.cells #[.int .i64 x.k, .slice x.a x.l.length x.c] 24)).alloc (Obj.cells #[.int .i64 y.k, .slice y.a y.l.length y.c] 24)).alloc (Obj.cells #[.int .i64 0, .slice none 0 0, .slice none 0 0] 119)) := ⟨_, rfl⟩
  have hs0 : W0.heap.size = w.heap.size + 1 + 1 + 1 + 1 := by rw [hW0]; simp
  have hb0 : Below w.heap.size w W0 := by rw [hW0]; exact ((((Below.refl _ _).alloc (Nat.le_refl _) _).alloc (by simp) _).alloc (by simp; omega) _).alloc (by simp; omega) _
  have c0 : W0.cell? ⟨w.heap.size, 0, none⟩ = some (.int .i64 c.k) := by rw [hW0]; simp [go_sem]
  have c1 : W0.cell? ⟨w.heap.size, 1, none⟩ = some (.slice c.a c.l.length c.c) := by rw [hW0]; simp [go_sem]
  have x0 : W0.cell? ⟨w.heap.size + 1, 0, none⟩ = some (.int .i64 x.k) := by rw [hW0]; simp [go_sem]
  have x1 : W0.cell? ⟨w.heap.size + 1, 1, none⟩ = some (.slice x.a x.l.length x.c) := by rw [hW0]; simp [go_sem]
  have y0 : W0.cell? ⟨w.heap.size + 1 + 1, 0, none⟩ = some (.int .i64 y.k) := by rw [hW0]; simp [go_sem]
  have y1 : W0.cell? ⟨w.heap.size + 1 + 1, 1, none⟩ = some (.slice y.a y.l.length y.c) := by rw [hW0]; simp [go_sem]
  have z0 : W0.cell? ⟨w.heap.size + 1 + 1 + 1, 0, none⟩ = some (.int .i64 0) := by rw [hW0]; simp [go_sem]
  have z1 : W0.cell? ⟨w.heap.size + 1 + 1 + 1, 1, none⟩ = some (.slice none 0 0) := by rw [hW0]; simp [go_sem]
  have z2 : W0.cell? ⟨w.heap.size + 1 + 1 + 1, 2, none⟩ = some (.slice none 0 0) := by rw [hW0]; simp [go_sem]
  have zf : ∀ i, W0.frozen? ⟨w.heap.size + 1 + 1 + 1, i, none⟩ = false := by intro i; rw [hW0]; simp [go_sem]
  have HF : Hid (Calls Tryz.prog 108 #[.agg #[.int .i64 x.k, .slice x.a x.l.length x.c], .agg #[.int .i64 y.k, .slice y.a y.l.length y.c]] W0 fun e w' => e = .returned (.bool (relY escFits x.ty y.ty)) ∧ Below W0.heap.size W0 w') := fits_whole x y W0 (hx.below hb0) (hy.below hb0) hh hs
  have HJ : Hid (∀ w1, Below W0.heap.size W0 w1 → Calls Tryz.prog 71 #[.agg #[.int .i64 x.k, .slice x.a x.l.length x.c], .agg #[.int .i64 y.k, .slice y.a y.l.length y.c]] w1 fun e w' => ∃ t : Tr, e = .returned (.agg #[.int .i64 t.k, .slice t.a t.l.length t.c]) ∧ t.ty = joinY x.ty y.ty ∧ t.In w' ∧ t.Bl (w1.heap.size ≤ ·) ∧ Below w1.heap.size w1 w') :=
    fun w1 h1 => join_whole x y w1 ((hx.below hb0).below h1) ((hy.below hb0).below h1) rx ry hh
  clear hx hy rx ry hh hs
  go_enter Tryz.func105, Tryz.ntmps105
  go_wp2_with fail
  rw [← hW0]
  clear hW0
  refine HF.out.mono ?_
  rintro e w1 ⟨rfl, h1⟩
  clear HF
  replace HJ := HJ.out w1 h1
  have hs1 := h1.size
  replace c0 := cell_later h1 c0
  replace c1 := cell_later h1 c1
  replace x0 := cell_later h1 x0
  replace x1 := cell_later h1 x1
  replace y0 := cell_later h1 y0
  replace y1 := cell_later h1 y1
  replace z0 := cell_later h1 z0
  replace z1 := cell_later h1 z1
  replace z2 := cell_later h1 z2
  replace zf : ∀ i, w1.frozen? ⟨w.heap.size + 1 + 1 + 1, i, none⟩ = false := fun i => (h1.frozen (p := ⟨w.heap.size + 1 + 1 + 1, i, none⟩) (by simp; omega)).trans (zf i)
  have f0 := zf 0
  have f1 := zf 1
  have f2 := zf 2
  have hbw : Below w.heap.size w w1 := hb0.trans (h1.mono (by omega))
  cases hr : relY escFits x.ty y.ty with
  | false =>
    have HE : Hid (Below w.heap.size w (((w1.setCell ⟨w.heap.size + 1 + 1 + 1, 0, none⟩ (.int .i64 0)).setCell ⟨w.heap.size + 1 + 1 + 1, 1, none⟩ (.slice none 0 0)).setCell ⟨w.heap.size + 1 + 1 + 1, 2, none⟩ (.slice none 0 0))) := ((hbw.setCell (by simp; omega) _).setCell (by simp; omega) _).setCell (by simp; omega) _
    have HR : Hid (relY escFits x.ty y.ty = false) := hr
    clear hbw hb0 h1 hr HJ
    go_wp2_with fail
    refine bodyPost_ret (v := .tuple #[.agg #[.int .i64 0, .slice none 0 0, .slice none 0 0], .bool false]) ?_ rfl ⟨HE.out, .inl ⟨HR.out, rfl⟩⟩
    simp [results, Tryz.results105, go_sem, z0, z1, z2]
  | true =>
    have HB : Hid (Below w.heap.size w w1 ∧ W0.heap.size ≤ w1.heap.size ∧ W0.heap.size = w.heap.size + 1 + 1 + 1 + 1) := ⟨hbw, hs1, hs0⟩
    have HR : Hid (relY escFits x.ty y.ty = true) := hr
    clear hbw hb0 h1 hr
    go_wp2_with fail
    refine HJ.mono ?_
    rintro e w2 ⟨t, rfl, ht, hin, hbl, h2⟩
    have hs2 := h2.size
    replace c0 := cell_later h2 c0
    replace c1 := cell_later h2 c1
    replace z0 := cell_later h2 z0
    replace z1 := cell_later h2 z1
    replace z2 := cell_later h2 z2
    replace zf : ∀ i, w2.frozen? ⟨w.heap.size + 1 + 1 + 1, i, none⟩ = false := fun i => (h2.frozen (p := ⟨w.heap.size + 1 + 1 + 1, i, none⟩) (by simp; omega)).trans (zf i)
    replace f0 := zf 0
    replace f1 := zf 1
    replace f2 := zf 2
    have hbw : Below w.heap.size w w2 := HB.out.1.trans (h2.mono (HB.out.1.size))
    have l3 : w.heap.size + 1 + 1 + 1 < w2.heap.size := World.block_lt_of_cell? _ _ z0
    have hbX : ∀ X, Below w2.heap.size w2 (w2.alloc X) := fun X => (Below.refl _ _).alloc (Nat.le_refl _) _
    have v0 := fun X => cell_later (hbX X) c0
    have v1 := fun X => cell_later (hbX X) c1
    have hbY : ∀ X Y, Below w2.heap.size w2 ((w2.alloc X).alloc Y) := fun X Y => (hbX X).alloc (by simp) _
    have v2 := fun X Y => cell_later (hbY X Y) z0
    have v3 := fun X Y => cell_later (hbY X Y) z1
    have v4 := fun X Y => cell_later (hbY X Y) z2
    have v5 : ∀ X Y i, ((w2.alloc X).alloc Y).frozen? ⟨w.heap.size + 1 + 1 + 1, i, none⟩ = false := fun X Y i => ((hbY X Y).frozen (p := ⟨w.heap.size + 1 + 1 + 1, i, none⟩) l3).trans (zf i)
    clear hbY
    clear hbX
    have hin3 := hin.below ((Below.refl w2.heap.size w2).alloc (Nat.le_refl _) (.cells #[.int .i64 t.k, .slice t.a t.l.length t.c] 24))
    have HT : Hid (t.ty = joinY x.ty y.ty ∧ t.In w2 ∧ t.Bl (w1.heap.size ≤ ·) ∧ Below w.heap.size w w2 ∧ w1.heap.size ≤ w2.heap.size) := ⟨ht, hin, hbl, hbw, hs2⟩
    clear x0 x1 y0 y1 zf HJ ht hin hbl hbw hs2 h2 hin3
    go_wp2_with fail
    obtain ⟨X, hX⟩ : ∃ X, X = Obj.cells #[.int .i64 t.k, .slice t.a t.l.length t.c] 24 := ⟨_, rfl⟩
    have g0 : ∀ i, ((w2.alloc X).alloc (Obj.cells #[.int .i64 c.k, .slice c.a c.l.length c.c, .int .i64 t.k, .slice t.a t.l.length t.c, .int .i64 t.k, .slice t.a t.l.length t.c] 24)).cell? ⟨w2.heap.size + 1, i, none⟩ = #[Value.int .i64 c.k, .slice c.a c.l.length c.c, .int .i64 t.k, .slice t.a t.l.length t.c, .int .i64 t.k, .slice t.a t.l.length t.c][i]? := by
      intro i; simp [go_sem]
    have hbW : Below w2.heap.size w2 ((w2.alloc X).alloc (Obj.cells #[.int .i64 c.k, .slice c.a c.l.length c.c, .int .i64 t.k, .slice t.a t.l.length t.c, .int .i64 t.k, .slice t.a t.l.length t.c] 24)) := ((Below.refl _ _).alloc (Nat.le_refl _) _).alloc (by simp) _
    have e0 := v2 X (Obj.cells #[.int .i64 c.k, .slice c.a c.l.length c.c, .int .i64 t.k, .slice t.a t.l.length t.c, .int .i64 t.k, .slice t.a t.l.length t.c] 24)
    have e1 := v3 X (Obj.cells #[.int .i64 c.k, .slice c.a c.l.length c.c, .int .i64 t.k, .slice t.a t.l.length t.c, .int .i64 t.k, .slice t.a t.l.length t.c] 24)
    have e2 := v4 X (Obj.cells #[.int .i64 c.k, .slice c.a c.l.length c.c, .int .i64 t.k, .slice t.a t.l.length t.c, .int .i64 t.k, .slice t.a t.l.length t.c] 24)
    rw [← hX]
    clear v0 v1 v2 v3 v4 v5 hX
    generalize (w2.alloc X).alloc (Obj.cells #[.int .i64 c.k, .slice c.a c.l.length c.c, .int .i64 t.k, .slice t.a t.l.length t.c, .int .i64 t.k, .slice t.a t.l.length t.c] 24) = W3 at *
    obtain ⟨ht, hin, hbl, hbw, hs2⟩ := HT.out
    have hsb := HB.out
    have nP : w2.heap.size + 1 ≠ w.heap.size + 1 + 1 + 1 := by omega
    have G : ∀ i, (((W3.setCell ⟨w.heap.size + 1 + 1 + 1, 0, none⟩ (.int .i64 t.k)).setCell ⟨w.heap.size + 1 + 1 + 1, 1, none⟩ (.slice t.a t.l.length t.c)).setCell ⟨w.heap.size + 1 + 1 + 1, 2, none⟩ (.slice (some ⟨w2.heap.size + 1, 0, none⟩) 3 3)).cell? ⟨w2.heap.size + 1, i, none⟩ = #[Value.int .i64 c.k, .slice c.a c.l.length c.c, .int .i64 t.k, .slice t.a t.l.length t.c, .int .i64 t.k, .slice t.a t.l.length t.c][i]? := by
      intro i
      rw [World.cell?_setCell_other _ _ _ _ (by simp), World.cell?_setCell_other _ _ _ _ (by simp), World.cell?_setCell_other _ _ _ _ (by simp)]
      exact g0 i
    have T : t.In (((W3.setCell ⟨w.heap.size + 1 + 1 + 1, 0, none⟩ (.int .i64 t.k)).setCell ⟨w.heap.size + 1 + 1 + 1, 1, none⟩ (.slice t.a t.l.length t.c)).setCell ⟨w.heap.size + 1 + 1 + 1, 2, none⟩ (.slice (some ⟨w2.heap.size + 1, 0, none⟩) 3 3)) := by
      refine Tr.In.congr (P := fun b => w1.heap.size ≤ b) (fun b hb o => ?_) hbl (hin.below hbW)
      have hb' : w1.heap.size ≤ b := hb
      have nb : b ≠ w.heap.size + 1 + 1 + 1 := by omega
      rw [World.cell?_setCell_other _ _ _ _ (by simp), World.cell?_setCell_other _ _ _ _ (by simp), World.cell?_setCell_other _ _ _ _ (by simp)]
    have E : Below w.heap.size w (((W3.setCell ⟨w.heap.size + 1 + 1 + 1, 0, none⟩ (.int .i64 t.k)).setCell ⟨w.heap.size + 1 + 1 + 1, 1, none⟩ (.slice t.a t.l.length t.c)).setCell ⟨w.heap.size + 1 + 1 + 1, 2, none⟩ (.slice (some ⟨w2.heap.size + 1, 0, none⟩) 3 3)) :=
      (((hbw.trans (hbW.mono hbw.size)).setCell (by simp; omega) _).setCell (by simp; omega) _).setCell (by simp; omega) _
    refine bodyPost_ret (v := .tuple #[.agg #[.int .i64 t.k, .slice t.a t.l.length t.c, .slice (some ⟨w2.heap.size + 1, 0, none⟩) 3 3], .bool true]) ?_ rfl ⟨E, .inr ⟨HR.out, t, w2.heap.size + 1, by have := hbw.size; omega, ht, T, hbl.mono fun b hb => by omega, rfl, G 0, G 1, G 2, G 3, G 4, G 5⟩⟩
    simp [results, Tryz.results105, go_sem, e0, e1, e2]
theorem ruleOfIf_any (Q : Nat → Prop) (c x y : Tr) (w : World) (hc : c.In w) (hx : x.In w) (hy : y.In w) (rx : x.right) (ry : y.right) (hh : x.hgt ≤ 1000) (hs : x.sm) (hQ : ∀ b, w.heap.size ≤ b → Q b) (bc : c.Bl Q) :
    Calls Tryz.prog 105 #[.agg #[.int .i64 c.k, .slice c.a c.l.length c.c], .agg #[.int .i64 x.k, .slice x.a x.l.length x.c], .agg #[.int .i64 y.k, .slice y.a y.l.length y.c]] w (RuOut Q w (ifY c.ty x.ty y.ty)) := by
  refine (ruleOfIf_cells c x y w hx hy rx ry hh hs).mono ?_
  rintro e w' ⟨hb, ⟨hr, rfl⟩ | ⟨hr, t, g, hg, ht, hin, hbl, rfl, c0, c1, c2, c3, c4, c5⟩⟩
  · exact ⟨hb, .inl ⟨by simp [ifY, hr], rfl⟩⟩
  · have hbt : t.Bl Q := hbl.mono fun b h => hQ b h
    refine ⟨hb, .inr ⟨t, ⟨0, some ⟨g, 0, none⟩, 3, [c, t, t]⟩, ?_, rfl, hin, In_three c0 c1 c2 c3 c4 c5 (hc.below hb) hin hin, hbt, ?_⟩⟩
    · simp [ifY, hr, ht]
    · refine Tr.Bl_mk.2 ⟨fun _ x hx => ?_, fun q hq => ?_⟩
      · cases hx; exact hQ g hg
      · simp only [List.mem_cons, List.not_mem_nil, or_false] at hq
        rcases hq with rfl | rfl | rfl
        · exact bc
        · exact hbt
        · exact hbt
theorem ruleOfCall_any (Q : Nat → Prop) (x : Tr) (w : World) (hx : x.In w) (rx : x.right) (hQ : ∀ b, w.heap.size ≤ b → Q b) (bx : x.Bl Q) :
    Calls Tryz.prog 107 #[.agg #[.int .i64 x.k, .slice x.a x.l.length x.c]] w (RuOut Q w (callY x.ty)) := by
  obtain ⟨k, a, c, l⟩ := x
  by_cases h0 : k = 0
  · subst h0
    refine (ruleOfCall_open a l.length c w).mono ?_
    rintro e w' ⟨b, g, hb1, hg1, rfl, d0, d1, d2, d3, g0, g1, g2, g3, hb⟩
    have iF : (Tr.mk 3 (some ⟨b, 0, none⟩) 2 [leaf 0, leaf 0]).In w' := Tr.In_two d0 d1 d2 d3 (leaf_in _ _) (leaf_in _ _)
    refine ⟨hb, .inr ⟨leaf 0, ⟨0, some ⟨g, 0, none⟩, 2, [⟨3, some ⟨b, 0, none⟩, 2, [leaf 0, leaf 0]⟩, leaf 0]⟩, ?_, rfl, leaf_in _ _, Tr.In_two g0 g1 g2 g3 iF (leaf_in _ _), leaf_bl _ _, ?_⟩⟩
    · simp [callY, Tr.ty_mk, leaf]
    · exact Tr.Bl_two (hQ g hg1) (Tr.Bl_two (hQ b hb1) (leaf_bl _ _) (leaf_bl _ _)) (leaf_bl _ _)
  · by_cases h3 : k = 3
    · subst h3
      rcases Tr.right.cases rx with ⟨_, hk⟩ | ⟨x, y, hl, _, _, _⟩
      · simp at hk
      · dsimp only at hl
        subst hl
        obtain ⟨b, o, ha, p0, p1, ix⟩ := hx.at 0 (by simp)
        obtain ⟨b', o', ha', q0, q1, iy⟩ := hx.at 1 (by simp)
        subst ha
        cases ha'
        refine (ruleOfCall_fun b o c x y w (by simpa using p0) (by simpa using p1) (by simpa using q0) (by simpa using q1)).mono ?_
        rintro e w' ⟨g, hg, rfl, g0, g1, g2, g3, hb⟩
        obtain ⟨bo, bl⟩ := Tr.Bl_mk.1 bx
        refine ⟨hb, .inr ⟨y, ⟨0, some ⟨g, 0, none⟩, 2, [⟨3, some ⟨b, o, none⟩, c, [x, y]⟩, x]⟩, ?_, rfl, iy.below hb, Tr.In_two g0 g1 g2 g3 (hx.below hb) (ix.below hb), bl y (by simp), ?_⟩⟩
        · simp [callY, Tr.ty_mk]
        · exact Tr.Bl_two (hQ g hg) bx (bl x (by simp))
    · refine (ruleOfCall_none k (by simpa using h0) (by simpa using h3) a l.length c w).mono ?_
      rintro e w' ⟨rfl, hb⟩
      exact ⟨hb, .inl ⟨by simp [callY, Tr.ty_mk, h0, h3], rfl⟩⟩
end Go.Proofs.YtnddkmccagiclabGreatDoor

/-
  What the call of check's ruleOf answers at the kinds that ask for no other function.
-/
namespace Go.Proofs.YtnddkmccagiclabGreatDoor
open Go.RowKit
set_option maxRecDepth 20000 in
set_option maxHeartbeats 1000000 in
theorem ruleOf_2 (x : TT) (pa ta : Option Addr) (pm pc tm tc : Nat) (w : World) :
    Calls Tryz.prog 67 #[.agg #[.int .i64 2, .int .i64 x.n, .int .i64 x.t.k, .slice x.t.a x.t.l.length x.t.c, .int .i64 x.f.k, .slice x.f.a x.f.l.length x.f.c, .slice x.a x.l.length x.c], .slice pa pm pc, .slice ta tm tc] w fun e w' => e = .returned (.tuple #[.agg #[.int .i64 1, .slice none 0 0, .slice none 0 0], .bool true]) ∧ Below w.heap.size w w' := by
  go_enter Tryz.func67, Tryz.ntmps67
  go_wp2_with fail
  refine bodyPost_ret (v := .tuple #[.agg #[.int .i64 1, .slice none 0 0, .slice none 0 0], .bool true]) (by simp [results, Tryz.results67, go_sem]) rfl ⟨rfl, ?_⟩
  repeat (first | exact Below.refl _ _ | refine Below.drew ?_ | refine Below.setCell ?_ (by first | (simp; done) | (simp; omega) | omega) _ | refine Below.alloc ?_ (by first | (simp; done) | (simp; omega) | omega) _)
set_option maxRecDepth 20000 in
set_option maxHeartbeats 1000000 in
theorem ruleOf_3 (x : TT) (pa ta : Option Addr) (pm pc tm tc : Nat) (w : World) :
    Calls Tryz.prog 67 #[.agg #[.int .i64 3, .int .i64 x.n, .int .i64 x.t.k, .slice x.t.a x.t.l.length x.t.c, .int .i64 x.f.k, .slice x.f.a x.f.l.length x.f.c, .slice x.a x.l.length x.c], .slice pa pm pc, .slice ta tm tc] w fun e w' => e = .returned (.tuple #[.agg #[.int .i64 2, .slice none 0 0, .slice none 0 0], .bool true]) ∧ Below w.heap.size w w' := by
  go_enter Tryz.func67, Tryz.ntmps67
  go_wp2_with fail
  refine bodyPost_ret (v := .tuple #[.agg #[.int .i64 2, .slice none 0 0, .slice none 0 0], .bool true]) (by simp [results, Tryz.results67, go_sem]) rfl ⟨rfl, ?_⟩
  repeat (first | exact Below.refl _ _ | refine Below.drew ?_ | refine Below.setCell ?_ (by first | (simp; done) | (simp; omega) | omega) _ | refine Below.alloc ?_ (by first | (simp; done) | (simp; omega) | omega) _)
set_option maxRecDepth 20000 in
set_option maxHeartbeats 1000000 in
theorem ruleOf_4 (x : TT) (pa ta : Option Addr) (pm pc tm tc : Nat) (w : World) :
    Calls Tryz.prog 67 #[.agg #[.int .i64 4, .int .i64 x.n, .int .i64 x.t.k, .slice x.t.a x.t.l.length x.t.c, .int .i64 x.f.k, .slice x.f.a x.f.l.length x.f.c, .slice x.a x.l.length x.c], .slice pa pm pc, .slice ta tm tc] w fun e w' => ∃ g, w.heap.size ≤ g ∧ e = .returned (.tuple #[.agg #[.int .i64 1, .slice none 0 0, .slice (some ⟨g, 0, none⟩) 2 2], .bool true]) ∧ w'.cell? ⟨g, 0, none⟩ = some (.int .i64 1) ∧ w'.cell? ⟨g, 1, none⟩ = some (.slice none 0 0) ∧ w'.cell? ⟨g, 2, none⟩ = some (.int .i64 1) ∧ w'.cell? ⟨g, 3, none⟩ = some (.slice none 0 0) ∧ Below w.heap.size w w' := by
  go_enter Tryz.func67, Tryz.ntmps67
  go_wp2_with fail
  refine bodyPost_ret (v := .tuple #[.agg #[.int .i64 1, .slice none 0 0, .slice (some ⟨w.heap.size + 1 + 1 + 1 + 1, 0, none⟩) 2 2], .bool true]) (by simp [results, Tryz.results67, go_sem]) rfl ⟨w.heap.size + 1 + 1 + 1 + 1, by omega, rfl, by simp [go_sem], by simp [go_sem], by simp [go_sem], by simp [go_sem], ?_⟩
  repeat (first | exact Below.refl _ _ | refine Below.drew ?_ | refine Below.setCell ?_ (by first | (simp; done) | (simp; omega) | omega) _ | refine Below.alloc ?_ (by first | (simp; done) | (simp; omega) | omega) _)
set_option maxRecDepth 20000 in
set_option maxHeartbeats 1000000 in
theorem ruleOf_5 (x : TT) (pa ta : Option Addr) (pm pc tm tc : Nat) (w : World) :
    Calls Tryz.prog 67 #[.agg #[.int .i64 5, .int .i64 x.n, .int .i64 x.t.k, .slice x.t.a x.t.l.length x.t.c, .int .i64 x.f.k, .slice x.f.a x.f.l.length x.f.c, .slice x.a x.l.length x.c], .slice pa pm pc, .slice ta tm tc] w fun e w' => ∃ g, w.heap.size ≤ g ∧ e = .returned (.tuple #[.agg #[.int .i64 2, .slice none 0 0, .slice (some ⟨g, 0, none⟩) 2 2], .bool true]) ∧ w'.cell? ⟨g, 0, none⟩ = some (.int .i64 1) ∧ w'.cell? ⟨g, 1, none⟩ = some (.slice none 0 0) ∧ w'.cell? ⟨g, 2, none⟩ = some (.int .i64 1) ∧ w'.cell? ⟨g, 3, none⟩ = some (.slice none 0 0) ∧ Below w.heap.size w w' := by
  go_enter Tryz.func67, Tryz.ntmps67
  go_wp2_with fail
  refine bodyPost_ret (v := .tuple #[.agg #[.int .i64 2, .slice none 0 0, .slice (some ⟨w.heap.size + 1 + 1 + 1 + 1, 0, none⟩) 2 2], .bool true]) (by simp [results, Tryz.results67, go_sem]) rfl ⟨w.heap.size + 1 + 1 + 1 + 1, by omega, rfl, by simp [go_sem], by simp [go_sem], by simp [go_sem], by simp [go_sem], ?_⟩
  repeat (first | exact Below.refl _ _ | refine Below.drew ?_ | refine Below.setCell ?_ (by first | (simp; done) | (simp; omega) | omega) _ | refine Below.alloc ?_ (by first | (simp; done) | (simp; omega) | omega) _)
set_option maxRecDepth 20000 in
set_option maxHeartbeats 1000000 in
theorem ruleOf_9 (x : TT) (pa ta : Option Addr) (pm pc tm tc : Nat) (w : World) :
    Calls Tryz.prog 67 #[.agg #[.int .i64 9, .int .i64 x.n, .int .i64 x.t.k, .slice x.t.a x.t.l.length x.t.c, .int .i64 x.f.k, .slice x.f.a x.f.l.length x.f.c, .slice x.a x.l.length x.c], .slice pa pm pc, .slice ta tm tc] w fun e w' => ∃ g, w.heap.size ≤ g ∧ e = .returned (.tuple #[.agg #[.int .i64 x.t.k, .slice x.t.a x.t.l.length x.t.c, .slice (some ⟨g, 0, none⟩) 1 1], .bool true]) ∧ w'.cell? ⟨g, 0, none⟩ = some (.int .i64 x.t.k) ∧ w'.cell? ⟨g, 1, none⟩ = some (.slice x.t.a x.t.l.length x.t.c) ∧ Below w.heap.size w w' := by
  go_enter Tryz.func67, Tryz.ntmps67
  go_wp2_with fail
  refine bodyPost_ret (v := .tuple #[.agg #[.int .i64 x.t.k, .slice x.t.a x.t.l.length x.t.c, .slice (some ⟨w.heap.size + 1 + 1 + 1 + 1, 0, none⟩) 1 1], .bool true]) (by simp [results, Tryz.results67, go_sem]) rfl ⟨w.heap.size + 1 + 1 + 1 + 1, by omega, rfl, by simp [go_sem], by simp [go_sem], ?_⟩
  repeat (first | exact Below.refl _ _ | refine Below.drew ?_ | refine Below.setCell ?_ (by first | (simp; done) | (simp; omega) | omega) _ | refine Below.alloc ?_ (by first | (simp; done) | (simp; omega) | omega) _)
/-- Behind the entry: the term, the rule, the two types. -/
def wRule (k : Int) (x : TT) (w : World) : World :=
  (((w.alloc (Obj.cells #[.int .i64 k, .int .i64 x.n, .int .i64 x.t.k, .slice x.t.a x.t.l.length x.t.c, .int .i64 x.f.k, .slice x.f.a x.f.l.length x.f.c, .slice x.a x.l.length x.c] 27)).alloc (Obj.cells #[.int .i64 0, .slice none 0 0, .slice none 0 0] 119)).alloc (Obj.cells #[.int .i64 1, .slice none 0 0] 24)).alloc (Obj.cells #[.int .i64 2, .slice none 0 0] 24)
theorem wRule_below (k : Int) (x : TT) (w : World) : Below w.heap.size w (wRule k x w) := ((((Below.refl _ _).alloc (Nat.le_refl _) _).alloc (by simp) _).alloc (by simp; omega) _).alloc (by simp; omega) _
structure WR (k : Int) (x : TT) (H : Nat) (W : World) : Prop where
  t : At7 W H 0 { x with k := k }
  r0 : W.cell? ⟨H + 1, 0, none⟩ = some (.int .i64 0)
  r1 : W.cell? ⟨H + 1, 1, none⟩ = some (.slice none 0 0)
  r2 : W.cell? ⟨H + 1, 2, none⟩ = some (.slice none 0 0)
  rf : ∀ i, W.frozen? ⟨H + 1, i, none⟩ = false
  n0 : W.cell? ⟨H + 1 + 1, 0, none⟩ = some (.int .i64 1)
  n1 : W.cell? ⟨H + 1 + 1, 1, none⟩ = some (.slice none 0 0)
  b0 : W.cell? ⟨H + 1 + 1 + 1, 0, none⟩ = some (.int .i64 2)
  b1 : W.cell? ⟨H + 1 + 1 + 1, 1, none⟩ = some (.slice none 0 0)
theorem WR.below {k : Int} {x : TT} {H : Nat} {W W' : World} (h : WR k x H W) (hb : Below W.heap.size W W') : WR k x H W' :=
  ⟨h.t.below hb, cell_later hb h.r0, cell_later hb h.r1, cell_later hb h.r2, fun i => (hb.frozen (p := ⟨H + 1, i, none⟩) (show (⟨H + 1, 0, none⟩ : Addr).block < W.heap.size from World.block_lt_of_cell? _ _ h.r0)).trans (h.rf i), cell_later hb h.n0, cell_later hb h.n1, cell_later hb h.b0, cell_later hb h.b1⟩
theorem wRule_ok (k : Int) (x : TT) (w : World) : WR k x w.heap.size (wRule k x w) := by
  refine ⟨⟨?_, ?_, ?_, ?_, ?_, ?_, ?_⟩, ?_, ?_, ?_, ?_, ?_, ?_, ?_, ?_⟩
  all_goals simp [wRule, go_sem]
theorem wRule_size (k : Int) (x : TT) (w : World) : (wRule k x w).heap.size = w.heap.size + 1 + 1 + 1 + 1 := by simp [wRule]
set_option maxRecDepth 20000 in
set_option maxHeartbeats 1000000 in
theorem ruleOf_1 (x : TT) (n : Nat) (hx : x.n = (n : Int)) (pa : Option Addr) (pm pc tb tq tm tc : Nat) (h : n < tm) (t : Tr) (w : World) (c0 : w.cell? ⟨tb, tq + n * 2, none⟩ = some (.int .i64 t.k)) (c1 : w.cell? ⟨tb, tq + n * 2 + 1, none⟩ = some (.slice t.a t.l.length t.c)) :
    Calls Tryz.prog 67 #[.agg #[.int .i64 1, .int .i64 (n : Int), .int .i64 x.t.k, .slice x.t.a x.t.l.length x.t.c, .int .i64 x.f.k, .slice x.f.a x.f.l.length x.f.c, .slice x.a x.l.length x.c], .slice pa pm pc, .slice (some ⟨tb, tq, none⟩) tm tc] w fun e w' => e = .returned (.tuple #[.agg #[.int .i64 t.k, .slice t.a t.l.length t.c, .slice none 0 0], .bool true]) ∧ Below w.heap.size w w' := by
  have lt : tb < w.heap.size := World.block_lt_of_cell? _ _ c0
  have i1 : (n : Int) < (tm : Int) := by omega
  have d0 := cell_later (wRule_below 1 x w) c0
  have d1 := cell_later (wRule_below 1 x w) c1
  unfold wRule at d0 d1
  rw [hx] at d0 d1
  go_enter Tryz.func67, Tryz.ntmps67
  go_wp2_with fail
  refine bodyPost_ret (v := .tuple #[.agg #[.int .i64 t.k, .slice t.a t.l.length t.c, .slice none 0 0], .bool true]) (by simp [results, Tryz.results67, go_sem]) rfl ⟨rfl, ?_⟩
  repeat (first | exact Below.refl _ _ | refine Below.drew ?_ | refine Below.setCell ?_ (by first | (simp; done) | (simp; omega) | omega) _ | refine Below.alloc ?_ (by first | (simp; done) | (simp; omega) | omega) _)
end Go.Proofs.YtnddkmccagiclabGreatDoor

/-
  What the call of check's ruleOf answers at If, Fn and Call.
-/
namespace Go.Proofs.YtnddkmccagiclabGreatDoor
open Go.RowKit
/-- The rule is written to its place: what it is still lies there. -/
theorem RuOut.store {Q : Nat → Prop} {k : Int} {x : TT} {w w1 : World} {I U : Tr} (hb : Below w.heap.size w w1) (hw : WR k x w.heap.size w1) (hI : I.In w1) (hU : U.In w1) (bI : I.Bl fun b => Q b ∧ b ≠ w.heap.size + 1) (bU : U.Bl fun b => Q b ∧ b ≠ w.heap.size + 1) :
    ∃ W, W = (((w1.setCell ⟨w.heap.size + 1, 0, none⟩ (.int .i64 I.k)).setCell ⟨w.heap.size + 1, 1, none⟩ (.slice I.a I.l.length I.c)).setCell ⟨w.heap.size + 1, 2, none⟩ (.slice U.a U.l.length U.c)) ∧ Below w.heap.size w W ∧ I.In W ∧ U.In W ∧ I.Bl Q ∧ U.Bl Q ∧
      W.cell? ⟨w.heap.size + 1, 0, none⟩ = some (.int .i64 I.k) ∧ W.cell? ⟨w.heap.size + 1, 1, none⟩ = some (.slice I.a I.l.length I.c) ∧ W.cell? ⟨w.heap.size + 1, 2, none⟩ = some (.slice U.a U.l.length U.c) := by
  have hc : ∀ b, (Q b ∧ b ≠ w.heap.size + 1) → ∀ o, (((w1.setCell ⟨w.heap.size + 1, 0, none⟩ (.int .i64 I.k)).setCell ⟨w.heap.size + 1, 1, none⟩ (.slice I.a I.l.length I.c)).setCell ⟨w.heap.size + 1, 2, none⟩ (.slice U.a U.l.length U.c)).cell? ⟨b, o, none⟩ = w1.cell? ⟨b, o, none⟩ := by
    intro b hb o
    have nb := hb.2
    rw [World.cell?_setCell_other _ _ _ _ (by simp), World.cell?_setCell_other _ _ _ _ (by simp), World.cell?_setCell_other _ _ _ _ (by simp)]
  refine ⟨_, rfl, ((hb.setCell (by simp) _).setCell (by simp) _).setCell (by simp) _, hI.congr hc bI, hU.congr hc bU, bI.mono fun b h => h.1, bU.mono fun b h => h.1, ?_, ?_, ?_⟩
  · simpa using set_get (j := 2) (v := .slice U.a U.l.length U.c) (set_get (j := 1) (v := .slice I.a I.l.length I.c) (set_get (j := 0) (v := .int .i64 I.k) hw.r0))
  · simpa using set_get (j := 2) (v := .slice U.a U.l.length U.c) (set_get (j := 1) (v := .slice I.a I.l.length I.c) (set_get (j := 0) (v := .int .i64 I.k) hw.r1))
  · simpa using set_get (j := 2) (v := .slice U.a U.l.length U.c) (set_get (j := 1) (v := .slice I.a I.l.length I.c) (set_get (j := 0) (v := .int .i64 I.k) hw.r2))
set_option maxRecDepth 20000 in
set_option maxHeartbeats 1000000 in
theorem ruleOf_8 (Q : Nat → Prop) (x : TT) (p : Tr) (pb po pm pc : Nat) (ta : Option Addr) (tm tc : Nat) (w : World) (hm : 0 < pm) (c0 : w.cell? ⟨pb, po, none⟩ = some (.int .i64 p.k)) (c1 : w.cell? ⟨pb, po + 1, none⟩ = some (.slice p.a p.l.length p.c)) (hp : p.In w) (rp : p.right) (hQ : ∀ b, w.heap.size ≤ b → Q b) (bp : p.Bl Q) :
    Calls Tryz.prog 67 #[.agg #[.int .i64 8, .int .i64 x.n, .int .i64 x.t.k, .slice x.t.a x.t.l.length x.t.c, .int .i64 x.f.k, .slice x.f.a x.f.l.length x.f.c, .slice x.a x.l.length x.c], .slice (some ⟨pb, po, none⟩) pm pc, .slice ta tm tc] w (RuOut Q w (callY p.ty)) := by
  have hb0 := wRule_below 8 x w
  have hw0 := wRule_ok 8 x w
  have hz := wRule_size 8 x w
  have HC : Hid (Calls Tryz.prog 107 #[.agg #[.int .i64 p.k, .slice p.a p.l.length p.c]] (wRule 8 x w) (RuOut (fun b => Q b ∧ b ≠ w.heap.size + 1) (wRule 8 x w) (callY p.ty))) :=
    ruleOfCall_any _ p (wRule 8 x w) (hp.below hb0) rp (fun b hb => ⟨hQ b (by omega), by omega⟩) (bp.and (hp.bl.mono fun b hb => by omega))
  have d0 := cell_later hb0 c0
  have d1 := cell_later hb0 c1
  have i1 : (0 : Int) < (pm : Int) := by omega
  obtain ⟨W0, hW0⟩ : ∃ W0, W0 = wRule 8 x w := ⟨_, rfl⟩
  rw [← hW0] at hb0 hw0 hz HC
  unfold wRule at d0 d1 hW0
  clear c0 c1 hp rp bp
  go_enter Tryz.func67, Tryz.ntmps67
  go_wp2_with fail
  rw [← hW0]
  clear hW0 d0 d1
  refine HC.out.mono ?_
  rintro e w1 ⟨h1, ⟨hr, rfl⟩ | ⟨I, U, hr, rfl, iI, iU, bI, bU⟩⟩
  · have hw1 := hw0.below h1
    obtain ⟨_, r0, r1, r2, rf, _, _, _, _⟩ := hw1
    have f0 := rf 0
    have f1 := rf 1
    have f2 := rf 2
    have HE : Hid (RuOut Q w (callY p.ty) (.returned (.tuple #[.agg #[.int .i64 0, .slice none 0 0, .slice none 0 0], .bool false])) (((w1.setCell ⟨w.heap.size + 1, 0, none⟩ (.int .i64 0)).setCell ⟨w.heap.size + 1, 1, none⟩ (.slice none 0 0)).setCell ⟨w.heap.size + 1, 2, none⟩ (.slice none 0 0))) :=
      ⟨(((hb0.trans (h1.mono (by omega))).setCell (by simp) _).setCell (by simp) _).setCell (by simp) _, .inl ⟨hr, rfl⟩⟩
    clear hb0 h1 hz hr HC hw0
    go_wp2_with fail
    refine bodyPost_ret (v := .tuple #[.agg #[.int .i64 0, .slice none 0 0, .slice none 0 0], .bool false]) ?_ rfl HE.out
    simp [results, Tryz.results67, go_sem, r0, r1, r2]
  · have hw1 := hw0.below h1
    have HS : Hid _ := RuOut.store (Q := Q) (hb0.trans (h1.mono (by omega))) hw1 iI iU bI bU
    obtain ⟨_, r0, r1, r2, rf, _, _, _, _⟩ := hw1
    have f0 := rf 0
    have f1 := rf 1
    have f2 := rf 2
    have HR : Hid (callY p.ty = some (I.ty, U.l.map Tr.ty)) := hr
    clear hb0 h1 hz hr HC hw0 iI iU bI bU
    go_wp2_with fail
    obtain ⟨W, hW, e1, e2, e3, e4, e5, e6, e7, e8⟩ := HS.out
    rw [← hW]
    clear hW
    refine bodyPost_ret (v := .tuple #[.agg #[.int .i64 I.k, .slice I.a I.l.length I.c, .slice U.a U.l.length U.c], .bool true]) ?_ rfl ⟨e1, .inr ⟨I, U, HR.out, rfl, e2, e3, e4, e5⟩⟩
    simp [results, Tryz.results67, go_sem, e6, e7, e8]
end Go.Proofs.YtnddkmccagiclabGreatDoor

/-
  What the calls of kind.goodWithin and kind.Good answer, at whatever tree lies in memory.
-/
namespace Go.Proofs.YtnddkmccagiclabGreatDoor
open Go.RowKit
set_option maxHeartbeats 400000 in
theorem within_zero (k : Int) (a : Option Addr) (c : Nat) (l : List Tr) (w : World) :
    Calls Tryz.prog 159 #[.agg #[.int .i64 k, .slice a l.length c], .int .i64 0] w fun e w' => e = .returned (.bool false) ∧ Below w.heap.size w w' := by
  go_enter Tryz.func159, Tryz.ntmps159
  go_wp2_with fail
  go_ret
  exact ⟨rfl, (Below.refl _ _).alloc (Nat.le_refl _) _⟩
set_option maxHeartbeats 400000 in
theorem within_leaf (n : Nat) (hn : n ≤ 1000) (k : Int) (hk : k = 0 ∨ k = 1 ∨ k = 2) (a : Option Addr) (c : Nat) (m : Nat) (w : World) :
    Calls Tryz.prog 159 #[.agg #[.int .i64 k, .slice a m c], .int .i64 ((n : Int) + 1)] w fun e w' => e = .returned (.bool ((m : Int) == 0)) ∧ Below w.heap.size w w' := by
  have h1 : (((n : Int) + 1) == 0) = false := by simp; omega
  rcases hk with rfl | rfl | rfl <;>
  · go_enter Tryz.func159, Tryz.ntmps159
    go_wp2_with fail
    go_ret
    exact ⟨rfl, (Below.refl _ _).alloc (Nat.le_refl _) _⟩
set_option maxHeartbeats 400000 in
theorem within_other (n : Nat) (hn : n ≤ 1000) (k : Int) (h0 : (k == 0) = false) (h1 : (k == 1) = false) (h2 : (k == 2) = false) (h3 : (k == 3) = false) (a : Option Addr) (c : Nat) (m : Nat) (w : World) :
    Calls Tryz.prog 159 #[.agg #[.int .i64 k, .slice a m c], .int .i64 ((n : Int) + 1)] w fun e w' => e = .returned (.bool false) ∧ Below w.heap.size w w' := by
  have hz : (((n : Int) + 1) == 0) = false := by simp; omega
  go_enter Tryz.func159, Tryz.ntmps159
  go_wp2_with fail
  go_ret
  exact ⟨rfl, (Below.refl _ _).alloc (Nat.le_refl _) _⟩
set_option maxHeartbeats 400000 in
theorem within_fun_no (n : Nat) (hn : n ≤ 1000) (a : Option Addr) (c : Nat) (m : Nat) (hm : ((m : Int) == 2) = false) (w : World) :
    Calls Tryz.prog 159 #[.agg #[.int .i64 3, .slice a m c], .int .i64 ((n : Int) + 1)] w fun e w' => e = .returned (.bool false) ∧ Below w.heap.size w w' := by
  have hz : (((n : Int) + 1) == 0) = false := by simp; omega
  go_enter Tryz.func159, Tryz.ntmps159
  go_wp2_with fail
  go_ret
  exact ⟨rfl, (Below.refl _ _).alloc (Nat.le_refl _) _⟩
set_option maxHeartbeats 400000 in
theorem within_fun (n : Nat) (hn : n ≤ 1000) (b o c : Nat) (kx ky : Int) (ax ay : Option Addr) (mx my cx cy : Nat) (gx gy : Bool) (w : World)
    (x0 : w.cell? ⟨b, o, none⟩ = some (.int .i64 kx)) (x1 : w.cell? ⟨b, o + 1, none⟩ = some (.slice ax mx cx))
    (y0 : w.cell? ⟨b, o + 2, none⟩ = some (.int .i64 ky)) (y1 : w.cell? ⟨b, o + 3, none⟩ = some (.slice ay my cy))
    (hx : Hid (∀ w', Below w.heap.size w w' → Calls Tryz.prog 159 #[.agg #[.int .i64 kx, .slice ax mx cx], .int .i64 (n : Int)] w' fun e w'' => e = .returned (.bool gx) ∧ Below w'.heap.size w' w''))
    (hy : Hid (∀ w', Below w.heap.size w w' → Calls Tryz.prog 159 #[.agg #[.int .i64 ky, .slice ay my cy], .int .i64 (n : Int)] w' fun e w'' => e = .returned (.bool gy) ∧ Below w'.heap.size w' w'')) :
    Calls Tryz.prog 159 #[.agg #[.int .i64 3, .slice (some ⟨b, o, none⟩) 2 c], .int .i64 ((n : Int) + 1)] w fun e w' => e = .returned (.bool (gx && gy)) ∧ Below w.heap.size w w' := by
  have hz : (((n : Int) + 1) == 0) = false := by simp; omega
  have lb : b < w.heap.size := World.block_lt_of_cell? _ _ x0
  cases gx
  · go_enter Tryz.func159, Tryz.ntmps159
    go_wp2_with fail
    refine (hx.out _ ((Below.refl _ _).alloc (Nat.le_refl _) _)).mono ?_
    rintro e w1 ⟨rfl, hb1⟩
    go_wp2_with fail
    go_ret
    exact ⟨rfl, ((Below.refl _ _).alloc (Nat.le_refl _) _).trans (hb1.mono (by simp))⟩
  · go_enter Tryz.func159, Tryz.ntmps159
    go_wp2_with fail
    refine (hx.out _ ((Below.refl _ _).alloc (Nat.le_refl _) _)).mono ?_
    rintro e w1 ⟨rfl, hb1⟩
    have hbw : Below w.heap.size w w1 := ((Below.refl _ _).alloc (Nat.le_refl _) _).trans (hb1.mono (by simp))
    have b1 : w1.cell? ⟨w.heap.size, 1, none⟩ = some (.slice (some ⟨b, o, none⟩) 2 c) := cell_later hb1 (by simp [go_sem])
    have y0' := cell_later hbw y0
    have y1' := cell_later hbw y1
    go_wp2_with fail
    refine (hy.out _ hbw).mono ?_
    rintro e w2 ⟨rfl, hb2⟩
    go_wp2_with fail
    go_ret
    exact ⟨by simp, hbw.trans (hb2.mono hbw.size)⟩
theorem within_zero' (t : Tr) (w : World) : Calls Tryz.prog 159 #[.agg #[.int .i64 t.k, .slice t.a t.l.length t.c], .int .i64 0] w fun e w' => e = .returned (.bool (goodT 0 t)) ∧ Below w.heap.size w w' := by
  refine (within_zero t.k t.a t.c t.l w).mono ?_
  rintro e w' ⟨rfl, hb⟩
  exact ⟨by simp [goodT], hb⟩
theorem within_any (n : Nat) : n ≤ 1000 → ∀ (t : Tr) (w : World), t.In w →
    Calls Tryz.prog 159 #[.agg #[.int .i64 t.k, .slice t.a t.l.length t.c], .int .i64 (n : Int)] w fun e w' => e = .returned (.bool (goodT n t)) ∧ Below w.heap.size w w' := by
  induction n with
  | zero =>
    intro _ t w _
    have e : ((0 : Nat) : Int) = 0 := rfl
    rw [e]
    exact within_zero' t w
  | succ n ih =>
    intro hn ⟨k, a, c, l⟩ w hin
    have e : ((n + 1 : Nat) : Int) = (n : Int) + 1 := by omega
    rw [e]
    dsimp only
    by_cases hk : k = 0 ∨ k = 1 ∨ k = 2
    · refine (within_leaf n (by omega) k hk a c l.length w).mono ?_
      rintro e w' ⟨rfl, hb⟩
      refine ⟨?_, hb⟩
      have e3 : (k == 3) = false := by simp; omega
      have eo : (k == 0 || k == 1 || k == 2) = true := by simpa [or_assoc] using hk
      match l with
      | [] => simp [goodT, eo]
      | [x] => simp [goodT]
      | [x, y] => simp [goodT, e3]
      | x :: y :: z :: r => simp [goodT]; omega
    · have h0 : (k == 0) = false := by simp; omega
      have h1 : (k == 1) = false := by simp; omega
      have h2 : (k == 2) = false := by simp; omega
      by_cases h3 : k = 3
      · subst h3
        match l, hin with
        | [], hin => exact within_fun_no n (by omega) a c 0 (by decide) w
        | [x], hin => exact within_fun_no n (by omega) a c 1 (by decide) w
        | x :: y :: z :: r, hin =>
          refine (within_fun_no n (by omega) a c (x :: y :: z :: r).length (by simp; omega) w).mono ?_
          rintro e w' ⟨rfl, hb⟩
          exact ⟨by simp [goodT], hb⟩
        | [x, y], hin =>
          obtain ⟨b, o, e0, x0, x1, hx⟩ := hin.at 0 (by simp)
          obtain ⟨b', o', e1, y0, y1, hy⟩ := hin.at 1 (by simp)
          rw [e0] at e1
          obtain ⟨rfl, rfl⟩ : b = b' ∧ o = o' := by simpa using e1
          subst e0
          refine (within_fun n (by omega) b o c x.k y.k x.a y.a x.l.length y.l.length x.c y.c (goodT n x) (goodT n y) w (by simpa using x0) (by simpa using x1) (by simpa using y0) (by simpa using y1)
            (fun w' hb => ih (by omega) x w' (hx.below hb)) (fun w' hb => ih (by omega) y w' (hy.below hb))).mono ?_
          rintro e w' ⟨rfl, hb⟩
          exact ⟨by simp [goodT], hb⟩
      · refine (within_other n (by omega) k h0 h1 h2 (by simpa using h3) a c l.length w).mono ?_
        rintro e w' ⟨rfl, hb⟩
        refine ⟨?_, hb⟩
        have e3 : (k == 3) = false := by simpa using h3
        match l with
        | [] => simp [goodT, h0, h1, h2]
        | [x] => simp [goodT]
        | [x, y] => simp [goodT, e3]
        | x :: y :: z :: r => simp [goodT]
set_option maxHeartbeats 400000 in
/-- kind.Good. -/
theorem good_any (t : Tr) (w : World) (hin : t.In w) :
    Calls Tryz.prog 118 #[.agg #[.int .i64 t.k, .slice t.a t.l.length t.c]] w fun e w' => e = .returned (.bool (goodT 4 t)) ∧ Below w.heap.size w w' := by
  have hw := within_any 4 (by omega) t
  have HW : Hid (∀ (w : World), t.In w → Calls Tryz.prog 159 #[.agg #[.int .i64 t.k, .slice t.a t.l.length t.c], .int .i64 4] w fun e w' => e = .returned (.bool (goodT 4 t)) ∧ Below w.heap.size w w') := hw
  clear hw
  go_enter Tryz.func118, Tryz.ntmps118
  go_wp2_with fail
  refine (HW.out _ (hin.below ((Below.refl _ _).alloc (Nat.le_refl _) _))).mono ?_
  rintro e w1 ⟨rfl, hb1⟩
  go_wp2_with fail
  go_ret
  exact ⟨rfl, ((Below.refl _ _).alloc (Nat.le_refl _) _).trans (hb1.mono (by simp))⟩
end Go.Proofs.YtnddkmccagiclabGreatDoor
