/-
  What the call of kind.Join answers at two right trees of which the first has at most a thousand levels.
-/
import Derived.Test.YtaaplpcpifdnfaaJoinAll
namespace Go.Proofs.Ytaaplpcpifdnfaa
open Go.RowKit

/-- The list that is put off, and what is joined: the one pair, or none. -/
def OffJ (R : Nat) (x y : Tr) (k : Nat) (wr : World) : Prop :=
  wr.frozen? ⟨R + 1, 0, none⟩ = false ∧ wr.frozen? ⟨R, 0, none⟩ = false ∧ wr.frozen? ⟨R, 1, none⟩ = false ∧
  ((k = 1 ∧ wr.cell? ⟨R, 0, none⟩ = some (.int .i64 0) ∧ wr.cell? ⟨R, 1, none⟩ = some (.slice none 0 0) ∧ ∃ g cap, wr.cell? ⟨R + 1, 0, none⟩ = some (.slice (some ⟨g, 0, none⟩) 1 cap) ∧ wr.ownsRow (R + 2) 41 5 (.slice (some ⟨g, 0, none⟩) 1 cap) 1 [.int .i64 x.k, .slice x.a x.l.length x.c, .int .i64 y.k, .slice y.a y.l.length y.c, .pointer (some ⟨R, 0, none⟩)])
    ∨ (k = 0 ∧ (∃ t : Tr, t.ty = joinY x.ty y.ty ∧ t.In wr ∧ t.Bl (R < ·) ∧ wr.cell? ⟨R, 0, none⟩ = some (.int .i64 t.k) ∧ wr.cell? ⟨R, 1, none⟩ = some (.slice t.a t.l.length t.c)) ∧ ∃ a cap, wr.cell? ⟨R + 1, 0, none⟩ = some (.slice a 0 cap)))

set_option maxHeartbeats 1000000 in
/-- kind.Join. -/
theorem join_whole (x y : Tr) (w : World) (hx : x.In w) (hy : y.In w) (rx : x.right) (ry : y.right) (hh : x.hgt ≤ 1000) :
    Calls Try.prog 21 #[.agg #[.int .i64 x.k, .slice x.a x.l.length x.c], .agg #[.int .i64 y.k, .slice y.a y.l.length y.c]] w fun e w' => ∃ t : Tr, e = .returned (.agg #[.int .i64 t.k, .slice t.a t.l.length t.c]) ∧ t.ty = joinY x.ty y.ty ∧ t.In w' ∧ t.Bl (w.heap.size ≤ ·) ∧ Below w.heap.size w w' := by
  have HC : Hid (∀ (rp : Option Addr) (ib io : Nat) (w : World), x.In w → y.In w → w.cell? ⟨ib, io, none⟩ = some (.int .i64 0) → w.cell? ⟨ib, io + 1, none⟩ = some (.slice none 0 0) → w.frozen? ⟨ib, io, none⟩ = false → w.frozen? ⟨ib, io + 1, none⟩ = false →
    Calls Try.prog 36 #[.agg #[.int .i64 x.k, .slice x.a x.l.length x.c, .int .i64 y.k, .slice y.a y.l.length y.c, .pointer (some ⟨ib, io, none⟩)], .int .i64 1000, .pointer rp] w fun e w' => e = .returned (.tuple #[]) ∧ Joined x y ib io w w') := fun rp ib io w h1 h2 => join_any 1000 (Nat.le_refl _) x y rp ib io w h1 h2 rx ry hh
  go_enter Try.func21, Try.ntmps21
  go_wp2_with fail
  obtain ⟨W0, hW0⟩ : ∃ W0, W0 = (((w.alloc (Obj.cells #[.int .i64 x.k, .slice x.a x.l.length x.c] 24)).alloc (Obj.cells #[.int .i64 y.k, .slice y.a y.l.length y.c] 24)).alloc (Obj.cells #[.int .i64 0, .slice none 0 0] 24)) := ⟨_, rfl⟩
  have hs0 : W0.heap.size = w.heap.size + 1 + 1 + 1 := by rw [hW0]; simp
  have hbw0 : Below w.heap.size w W0 := by rw [hW0]; exact (((Below.refl _ _).alloc (Nat.le_refl _) _).alloc (by simp) _).alloc (by simp; omega) _
  have r0 : W0.cell? ⟨w.heap.size + 1 + 1, 0, none⟩ = some (.int .i64 0) := by rw [hW0]; simp [go_sem]
  have r1 : W0.cell? ⟨w.heap.size + 1 + 1, 1, none⟩ = some (.slice none 0 0) := by rw [hW0]; simp [go_sem]
  have r2 : ∀ o, W0.frozen? ⟨w.heap.size + 1 + 1, o, none⟩ = false := by intro o; rw [hW0]; simp [go_sem]
  rw [← hW0]
  clear hW0
  have u0 : ((W0.alloc (Obj.cells #[.int .i64 0, .slice none 0 0] 24)).alloc (Obj.cells #[.slice none 0 0] 37)).cell? ⟨w.heap.size + 1 + 1 + 1, 0, none⟩ = some (.int .i64 0) := by rw [← hs0]; simp [go_sem]
  have u1 : ((W0.alloc (Obj.cells #[.int .i64 0, .slice none 0 0] 24)).alloc (Obj.cells #[.slice none 0 0] 37)).cell? ⟨w.heap.size + 1 + 1 + 1, 1, none⟩ = some (.slice none 0 0) := by rw [← hs0]; simp [go_sem]
  have u2 : ∀ o, ((W0.alloc (Obj.cells #[.int .i64 0, .slice none 0 0] 24)).alloc (Obj.cells #[.slice none 0 0] 37)).frozen? ⟨w.heap.size + 1 + 1 + 1, o, none⟩ = false := by intro o; rw [← hs0]; simp [go_sem]
  refine (put_any (w.heap.size + 1 + 1 + 1 + 1) (.slice none 0 0) 0 [] x.k y.k x.a y.a x.l.length y.l.length x.c y.c (some ⟨w.heap.size + 1 + 1 + 1, 0, none⟩) _ (by rw [← hs0]; simp [go_sem]) (by rw [← hs0]; simp [go_sem]) (World.ownsRow_nil _ _ _ _) (by omega)).mono ?_
  rintro e w1 ⟨rfl, g, cap, hc1, hf1, ho1, _, hk1⟩
  have hb1 : Below (w.heap.size + 1 + 1 + 1) W0 w1 := by
    have h := hk1.below (by simp [Value.ownBlock]) (by simp [hs0])
    have h' : Below W0.heap.size W0 ((W0.alloc (Obj.cells #[.int .i64 0, .slice none 0 0] 24)).alloc (Obj.cells #[.slice none 0 0] 37)) := ((Below.refl _ _).alloc (Nat.le_refl _) _).alloc (by simp) _
    rw [hs0] at h'
    exact h'.trans (h.mono (by omega))
  have hblk := hk1.below (by simp [Value.ownBlock]) (by simp [hs0])
  have HO : Hid (OffJ (w.heap.size + 1 + 1 + 1) x y 1 w1) :=
    ⟨hf1, (hblk.frozen (p := ⟨w.heap.size + 1 + 1 + 1, 0, none⟩) (by simp)).trans (u2 0), (hblk.frozen (p := ⟨w.heap.size + 1 + 1 + 1, 1, none⟩) (by simp)).trans (u2 1), .inl ⟨rfl, (hblk.cell (p := ⟨w.heap.size + 1 + 1 + 1, 0, none⟩) (by simp)).trans u0, (hblk.cell (p := ⟨w.heap.size + 1 + 1 + 1, 1, none⟩) (by simp)).trans u1, g, cap, by simpa using hc1, by simpa using ho1⟩⟩
  clear hc1 hf1 ho1 hk1 u0 u1 u2 hblk
  have HR0 : Hid (W0.cell? ⟨w.heap.size + 1 + 1, 0, none⟩ = some (.int .i64 0) ∧ W0.cell? ⟨w.heap.size + 1 + 1, 1, none⟩ = some (.slice none 0 0) ∧ ∀ o, W0.frozen? ⟨w.heap.size + 1 + 1, o, none⟩ = false) := ⟨r0, r1, r2⟩
  have HS0 : Hid (W0.heap.size = w.heap.size + 1 + 1 + 1) := hs0
  clear r0 r1 r2 hs0
  go_wp2_with fail
  go_loopg [] 1 (fun k wr => Hid (OffJ (w.heap.size + 1 + 1 + 1) x y k wr) ∧ Below (w.heap.size + 1 + 1 + 1) W0 wr)
  case atStart => exact ⟨HO, hb1⟩
  case round =>
    obtain ⟨HR, hbr⟩ := hrel
    have hbwr : Below w.heap.size w wr := hbw0.trans (hbr.mono (by omega))
    obtain ⟨hfr, g0, g1, ⟨rfl, z0, z1, g, cap, hc, ho⟩ | ⟨rfl, ⟨t, ht, hin, hbl, t0, t1⟩, a, cap, hc⟩⟩ := HR.out
    · have c0 := ho.cellAt 0 (by omega)
      have c1 := ho.cellAt 1 (by omega)
      have c2 := ho.cellAt 2 (by omega)
      have c3 := ho.cellAt 3 (by omega)
      have c4 := ho.cellAt 4 (by omega)
      simp only [List.getElem?_cons_zero, List.getElem?_cons_succ] at c0 c1 c2 c3 c4
      have hcap : 1 ≤ cap := by
        rcases ho.2 with ⟨h, _⟩ | ⟨g', cap', cur, h, _, _, h1, _⟩
        · cases h
        · cases h; exact h1
      have hlr : w.heap.size + 1 + 1 + 1 + 1 < wr.heap.size := World.block_lt_of_cell? _ _ hc
      clear ho HR HO
      go_wp2_with fail
      refine (empty_any (w.heap.size + 1 + 1 + 1 + 1) (some ⟨g, 0, none⟩) 1 cap _ hc).mono ?_
      rintro e w' ⟨rfl, rfl⟩
      go_wp2_with fail
      refine (take_any (w.heap.size + 1 + 1 + 1 + 1) g 0 cap x.k y.k x.a y.a x.l.length y.l.length x.c y.c (some ⟨w.heap.size + 1 + 1 + 1, 0, none⟩) _ (by simpa using hc) hfr (by omega) (by omega) (by simpa using c0) (by simpa using c1) (by simpa using c2) (by simpa using c3) (by simpa using c4)).mono ?_
      rintro e w' ⟨rfl, rfl⟩
      go_wp2_with fail
      obtain ⟨WT, hWT⟩ : ∃ WT, WT = ((w'.setCell ⟨w.heap.size + 1 + 1 + 1 + 1, 0, none⟩ (.slice (some ⟨g, 0, none⟩) 0 cap)).alloc (.cells #[.int .i64 x.k, .slice x.a x.l.length x.c, .int .i64 y.k, .slice y.a y.l.length y.c, .pointer (some ⟨w.heap.size + 1 + 1 + 1, 0, none⟩)] 41)).alloc (.cells #[.int .i64 x.k, .slice x.a x.l.length x.c, .int .i64 y.k, .slice y.a y.l.length y.c, .pointer (some ⟨w.heap.size + 1 + 1 + 1, 0, none⟩)] 41) := ⟨_, rfl⟩
      have hbt : Below (w.heap.size + 1 + 1 + 1 + 1) w' WT := by
        rw [hWT]
        exact (((Below.refl _ _).setCell (by simp) _).alloc (by simp [World.setCell]; omega) _).alloc (by simp [World.setCell]; omega) _
      have hsT : w'.heap.size ≤ WT.heap.size := hbt.size
      have hcT : WT.cell? ⟨w.heap.size + 1 + 1 + 1 + 1, 0, none⟩ = some (.slice (some ⟨g, 0, none⟩) 0 cap) := by
        rw [hWT]
        exact cell_later (((Below.refl _ _).alloc (Nat.le_refl _) _).alloc (by simp) _) (World.cell?_setCell_same _ _ _ hc)
      have hfT : WT.frozen? ⟨w.heap.size + 1 + 1 + 1 + 1, 0, none⟩ = false := by
        rw [hWT]
        simp [frozen?_alloc_cells, hfr]
      rw [← hWT]
      have hbT : Below w.heap.size w WT := hbwr.trans (hbt.mono (by omega))
      refine (HC.out _ (w.heap.size + 1 + 1 + 1) 0 WT (hx.below hbT) (hy.below hbT) ((hbt.cell (p := ⟨w.heap.size + 1 + 1 + 1, 0, none⟩) (by simp)).trans z0) ((hbt.cell (p := ⟨w.heap.size + 1 + 1 + 1, 1, none⟩) (by simp)).trans z1) ((hbt.frozen (p := ⟨w.heap.size + 1 + 1 + 1, 0, none⟩) (by simp)).trans g0) ((hbt.frozen (p := ⟨w.heap.size + 1 + 1 + 1, 1, none⟩) (by simp)).trans g1)).mono ?_
      rintro e w5 ⟨rfl, t, ht, hin, hbl, t0, t1, hw⟩
      have hbl' : w5.heap[w.heap.size + 1 + 1 + 1 + 1]? = WT.heap[w.heap.size + 1 + 1 + 1 + 1]? := hw.block _ (by omega) (by omega)
      have HO5 : Hid (OffJ (w.heap.size + 1 + 1 + 1) x y 0 w5) :=
        ⟨(World.frozen?_of_block (a := ⟨w.heap.size + 1 + 1 + 1 + 1, 0, none⟩) hbl').trans hfT, (hw.frozen 0).trans ((hbt.frozen (p := ⟨w.heap.size + 1 + 1 + 1, 0, none⟩) (by simp)).trans g0), (hw.frozen 1).trans ((hbt.frozen (p := ⟨w.heap.size + 1 + 1 + 1, 1, none⟩) (by simp)).trans g1),
          .inr ⟨rfl, ⟨t, ht, hin, hbl.mono fun b hb => by omega, t0, t1⟩, _, _, (World.cell?_of_block (a := ⟨w.heap.size + 1 + 1 + 1 + 1, 0, none⟩) hbl').trans hcT⟩⟩
      have hb5 : Below (w.heap.size + 1 + 1 + 1) W0 w5 := hbr.trans ((hbt.mono (by omega)).trans (hw.under (by omega)))
      clear hWT hbt hcT hfT hbT ht hin hbl t0 t1 hw hbl' z0 z1 g0 g1 hfr hc c0 c1 c2 c3 c4
      go_wp2_with fail
      go_roundg 0
      case measure => omega
      case rel => exact ⟨HO5, hb5⟩
    · go_wp2_with fail
      refine (empty_any (w.heap.size + 1 + 1 + 1 + 1) a 0 cap _ hc).mono ?_
      rintro e w' ⟨rfl, rfl⟩
      have v0 := (hbr.cell (p := ⟨w.heap.size + 1 + 1, 0, none⟩) (by simp)).trans HR0.out.1
      have v1 := (hbr.cell (p := ⟨w.heap.size + 1 + 1, 1, none⟩) (by simp)).trans HR0.out.2.1
      have v2 := (hbr.frozen (p := ⟨w.heap.size + 1 + 1, 0, none⟩) (by simp)).trans (HR0.out.2.2 0)
      have v3 := (hbr.frozen (p := ⟨w.heap.size + 1 + 1, 1, none⟩) (by simp)).trans (HR0.out.2.2 1)
      have HT : Hid (t.ty = joinY x.ty y.ty) := ht
      clear ht HR HO hc hfr g0 g1
      go_wp2_with fail
      refine bodyPost_ret (v := .agg #[.int .i64 t.k, .slice t.a t.l.length t.c]) ?_ rfl ⟨t, rfl, HT.out, set_keeps hin (hbl.mono fun b hb => by omega), hbl.mono fun b hb => by omega, (hbwr.setCell (by simp; omega) _).setCell (by simp; omega) _⟩
      have hh := set_cells (u := .int .i64 t.k) (v := .slice t.a t.l.length t.c) v0 v1
      simp [results, Try.results21, go_sem, hh.1, hh.2]
end Go.Proofs.Ytaaplpcpifdnfaa
