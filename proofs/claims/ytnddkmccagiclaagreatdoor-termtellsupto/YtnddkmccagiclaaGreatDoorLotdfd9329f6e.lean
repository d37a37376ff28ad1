/-
  What the call of check's castAll answers: the parts' terms in a row of their own, cast to what they are used as.
-/
import Derived.Test.YtnddkmccagiclaaGreatDoorLot5f25f64792
import Derived.Test.YtnddkmccagiclaaGreatDoorLot383c3897c4
namespace Go.Proofs.YtnddkmccagiclaaGreatDoor
open Go.RowKit

theorem Tryz.info27c : (Tryz.prog.info? 27).map (fun i => (i.zero, i.size, i.bytes)) = some (some (.agg #[.int .i64 0, .int .i64 0, .int .i64 0, .slice none 0 0, .int .i64 0, .slice none 0 0, .slice none 0 0]), 7, 104) := by kernel_rfl

theorem makeT (n : Nat) (hn : n ≤ 1000) (w : World) : (Instr.makeSlice 25 (.int .i64 (n : Int)) (.int .i64 (n : Int))).run Tryz.prog w = .ok (.slice (some ⟨w.heap.size, 0, none⟩) n n) (w.alloc (.cells (madeCells #[.int .i64 0, .int .i64 0, .int .i64 0, .slice none 0 0, .int .i64 0, .slice none 0 0, .slice none 0 0] (n * 7)) 27)) := by
  obtain ⟨i0, hi0, hz0, hz1, hz2⟩ := info_parts Tryz.info27c
  have h := run_make (P := Tryz.prog) w 25 27 i0 _ Tryz.underlying25 hi0 hz0 .i64 .i64 (n : Int) (n : Int) (by omega) (by omega) (by rw [hz2]; omega) (by omega)
  rw [h, hz1]
  rfl

set_option maxRecDepth 20000 in
set_option maxHeartbeats 4000000 in
/-- castAll. -/
theorem castAll_any (Q : Nat → Prop) (rs : List Rd) (a : Option Addr) (c : Nat) (U : Tr) (w : World) (hr : RL w a rs) (hU : U.In w) (hl : rs.length = U.l.length) (h3 : rs.length ≤ 1000) (hok : ∀ r, r ∈ rs → r.i.right ∧ r.i.hgt ≤ 1000 ∧ r.i.sm) (hu : ∀ u, u ∈ U.l → u.right ∧ u.hgt ≤ 1000)
    (hQ : ∀ b, w.heap.size ≤ b → Q b) (hyQ : ∀ r, r ∈ rs → r.y.Bl Q) :
    Calls Tryz.prog 68 #[.slice a rs.length c, .slice U.a U.l.length U.c] w fun e w' => ∃ zs : List TT, e = .returned (.slice (some ⟨w.heap.size, 0, none⟩) rs.length rs.length) ∧ TmRow Q w w.heap.size rs.length zs w' ∧ zs.length = rs.length ∧ ∀ q (h : q < zs.length) (h1 : q < rs.length) (h2 : q < U.l.length), zs[q].tm = castY rs[q].n rs[q].y.tm rs[q].i.ty U.l[q].ty := by
  have hmk := makeT rs.length h3
  have HF : Hid (∀ j (h : j < rs.length) (h' : j < U.l.length) (W : World), rs[j].y.In W → rs[j].i.In W → U.l[j].In W → Calls Tryz.prog 106 #[.agg #[.int .i64 rs[j].n, .int .i64 rs[j].y.k, .int .i64 rs[j].y.n, .int .i64 rs[j].y.t.k, .slice rs[j].y.t.a rs[j].y.t.l.length rs[j].y.t.c, .int .i64 rs[j].y.f.k, .slice rs[j].y.f.a rs[j].y.f.l.length rs[j].y.f.c, .slice rs[j].y.a rs[j].y.l.length rs[j].y.c, .int .i64 rs[j].i.k, .slice rs[j].i.a rs[j].i.l.length rs[j].i.c], .agg #[.int .i64 U.l[j].k, .slice U.l[j].a U.l[j].l.length U.l[j].c]] W (CPost rs[j] U.l[j] W)) :=
    fun j h h' W h0 h1 h2 => cast_any _ _ W h2 h1 h0 (hok _ (List.getElem_mem h)).2.1 (hok _ (List.getElem_mem h)).2.2 (hok _ (List.getElem_mem h)).1 (hu _ (List.getElem_mem h')).1 (hu _ (List.getElem_mem h')).2
  have HR : Hid (RL w a rs) := hr
  have HU : Hid (U.In w) := hU
  have HL : Hid (rs.length = U.l.length) := hl
  have HQ0 : Hid ((∀ b, w.heap.size ≤ b → Q b) ∧ ∀ r, r ∈ rs → r.y.Bl Q) := ⟨hQ, hyQ⟩
  have HT : Hid (TmRow Q w w.heap.size rs.length [] (w.alloc (.cells (madeCells #[.int .i64 0, .int .i64 0, .int .i64 0, .slice none 0 0, .int .i64 0, .slice none 0 0, .slice none 0 0] (rs.length * 7)) 27))) := TmRow.start Q w rs.length
  clear hr hU hl hok hu hQ hyQ
  go_enter Tryz.func68, Tryz.ntmps68
  go_wp2_with fail
  go_loopg [13] rs.length (fun g i wr => ∃ (j : Nat) (zs : List TT), g + j = rs.length ∧ i = .int .i64 (j : Int) ∧ Hid (TmRow Q w w.heap.size rs.length zs wr ∧ zs.length = j ∧ ∀ q (h : q < zs.length) (h1 : q < rs.length) (h2 : q < U.l.length), zs[q].tm = castY rs[q].n rs[q].y.tm rs[q].i.ty U.l[q].ty))
  case atStart => exact ⟨0, [], by omega, rfl, HT.out, rfl, fun q h => absurd h (by simp)⟩
  case round =>
    obtain ⟨j, zs, hj, rfl, HQ⟩ := hrel
    by_cases hlt : j < rs.length
    · have hlt' : j < U.l.length := HL.out ▸ hlt
      obtain ⟨b, o, ea, h10, hy, hi⟩ := HR.out j hlt
      obtain ⟨b', o', eb, u0, u1, hu⟩ := HU.out.part j hlt'
      have hb := HQ.out.1.bel
      have hb'l : b' < w.heap.size := World.block_lt_of_cell? _ _ u0
      have h11 := h10.below hb
      obtain ⟨d0, ⟨d1, d2, d3, d4, d5, d6, d7⟩, d8, d9⟩ := h11
      replace u0 := cell_later hb u0
      replace u1 := cell_later hb u1
      have i1 : (j : Int) < (rs.length : Int) := by omega
      have i2 : (j : Int) < (U.l.length : Int) := by omega
      have i0 : (0 : Int) ≤ (j : Int) := by omega
      have HEA : Hid (a = some ⟨b, o, none⟩) := ea
      have HEB : Hid (U.a = some ⟨b', o', none⟩) := eb
      rw [ea, eb]
      clear ea eb
      obtain ⟨r, hre⟩ : ∃ r, rs[j] = r := ⟨_, rfl⟩
      obtain ⟨u, hue⟩ : ∃ u, U.l[j] = u := ⟨_, rfl⟩
      have HC := HF.out j hlt hlt'
      have hyl := hy.bl
      have hyq := HQ0.out.2 _ (List.getElem_mem hlt)
      rw [hre] at d0 d1 d2 d3 d4 d5 d6 d7 d8 d9 hy hi HC hyl hyq
      rw [hue] at u0 u1 hu HC
      have HRE : Hid (rs[j] = r ∧ U.l[j] = u) := ⟨hre, hue⟩
      obtain ⟨OX, hOX⟩ : ∃ O, O = Obj.cells #[.int .i64 r.n, .int .i64 r.y.k, .int .i64 r.y.n, .int .i64 r.y.t.k, .slice r.y.t.a r.y.t.l.length r.y.t.c, .int .i64 r.y.f.k, .slice r.y.f.a r.y.f.l.length r.y.f.c, .slice r.y.a r.y.l.length r.y.c, .int .i64 r.i.k, .slice r.i.a r.i.l.length r.i.c] 71 := ⟨_, rfl⟩
      have hbA : Below wr.heap.size wr (wr.alloc OX) := (Below.refl _ _).alloc (Nat.le_refl _) _
      have b0 : (wr.alloc OX).cell? ⟨wr.heap.size, 0, none⟩ = some (.int .i64 r.n) := by subst hOX; simp [go_sem]
      have b1 : (wr.alloc OX).cell? ⟨wr.heap.size, 1, none⟩ = some (.int .i64 r.y.k) := by subst hOX; simp [go_sem]
      have b2 : (wr.alloc OX).cell? ⟨wr.heap.size, 2, none⟩ = some (.int .i64 r.y.n) := by subst hOX; simp [go_sem]
      have b3 : (wr.alloc OX).cell? ⟨wr.heap.size, 3, none⟩ = some (.int .i64 r.y.t.k) := by subst hOX; simp [go_sem]
      have b4 : (wr.alloc OX).cell? ⟨wr.heap.size, 4, none⟩ = some (.slice r.y.t.a r.y.t.l.length r.y.t.c) := by subst hOX; simp [go_sem]
      have b5 : (wr.alloc OX).cell? ⟨wr.heap.size, 5, none⟩ = some (.int .i64 r.y.f.k) := by subst hOX; simp [go_sem]
      have b6 : (wr.alloc OX).cell? ⟨wr.heap.size, 6, none⟩ = some (.slice r.y.f.a r.y.f.l.length r.y.f.c) := by subst hOX; simp [go_sem]
      have b7 : (wr.alloc OX).cell? ⟨wr.heap.size, 7, none⟩ = some (.slice r.y.a r.y.l.length r.y.c) := by subst hOX; simp [go_sem]
      have b8 : (wr.alloc OX).cell? ⟨wr.heap.size, 8, none⟩ = some (.int .i64 r.i.k) := by subst hOX; simp [go_sem]
      have b9 : (wr.alloc OX).cell? ⟨wr.heap.size, 9, none⟩ = some (.slice r.i.a r.i.l.length r.i.c) := by subst hOX; simp [go_sem]
      have v0 := cell_later hbA u0
      have v1 := cell_later hbA u1
      have hbE : Below w.heap.size w (wr.alloc OX) := hb.trans (hbA.mono hb.size)
      have HTA : Hid (TmRow Q w w.heap.size rs.length zs (wr.alloc OX)) := HQ.out.1.below hbA
      have HZ : Hid (zs.length = j ∧ ∀ q (h : q < zs.length) (h1 : q < rs.length) (h2 : q < U.l.length), zs[q].tm = castY rs[q].n rs[q].y.tm rs[q].i.ty U.l[q].ty) := HQ.out.2
      have HI : Hid (r.y.In (wr.alloc OX) ∧ r.i.In (wr.alloc OX) ∧ u.In (wr.alloc OX) ∧ r.y.Bl (fun b => b ≠ w.heap.size ∧ Q b)) := ⟨hy.below hbE, hi.below hbE, hu.below hbE, (hyl.and hyq).mono fun b hb => ⟨by omega, hb.2⟩⟩
      have HCC : Hid (∀ (W : World), r.y.In W → r.i.In W → u.In W → Calls Tryz.prog 106 #[.agg #[.int .i64 r.n, .int .i64 r.y.k, .int .i64 r.y.n, .int .i64 r.y.t.k, .slice r.y.t.a r.y.t.l.length r.y.t.c, .int .i64 r.y.f.k, .slice r.y.f.a r.y.f.l.length r.y.f.c, .slice r.y.a r.y.l.length r.y.c, .int .i64 r.i.k, .slice r.i.a r.i.l.length r.i.c], .agg #[.int .i64 u.k, .slice u.a u.l.length u.c]] W (CPost r u W)) := HC
      have hwl : w.heap.size < wr.heap.size := HQ.out.1.lt
      have nw : wr.heap.size ≠ w.heap.size := by omega
      have nw2 : b' ≠ w.heap.size := by omega
      have HJ : Hid (j < rs.length ∧ w.heap.size < (wr.alloc OX).heap.size) := ⟨hlt, HTA.out.lt⟩
      clear hbA u0 u1 hi hu h10 hy HQ hbE hyl hyq HC hre hue hwl hb
      subst hOX
      go_wp2_with fail
      clear d0 d1 d2 d3 d4 d5 d6 d7 d8 d9
      generalize (wr.alloc (.cells #[.int .i64 r.n, .int .i64 r.y.k, .int .i64 r.y.n, .int .i64 r.y.t.k, .slice r.y.t.a r.y.t.l.length r.y.t.c, .int .i64 r.y.f.k, .slice r.y.f.a r.y.f.l.length r.y.f.c, .slice r.y.a r.y.l.length r.y.c, .int .i64 r.i.k, .slice r.i.a r.i.l.length r.i.c] 71)) = WA at *
      have HS : Hid (∀ w2, Below WA.drew.heap.size WA.drew w2 → w2.cell? ⟨wr.heap.size, 0, none⟩ = some (.int .i64 r.n) ∧ w2.cell? ⟨wr.heap.size, 1, none⟩ = some (.int .i64 r.y.k) ∧ w2.cell? ⟨wr.heap.size, 2, none⟩ = some (.int .i64 r.y.n) ∧ w2.cell? ⟨wr.heap.size, 3, none⟩ = some (.int .i64 r.y.t.k) ∧ w2.cell? ⟨wr.heap.size, 4, none⟩ = some (.slice r.y.t.a r.y.t.l.length r.y.t.c) ∧ w2.cell? ⟨wr.heap.size, 5, none⟩ = some (.int .i64 r.y.f.k) ∧ w2.cell? ⟨wr.heap.size, 6, none⟩ = some (.slice r.y.f.a r.y.f.l.length r.y.f.c) ∧ w2.cell? ⟨wr.heap.size, 7, none⟩ = some (.slice r.y.a r.y.l.length r.y.c) ∧ w2.cell? ⟨wr.heap.size, 8, none⟩ = some (.int .i64 r.i.k) ∧ w2.cell? ⟨wr.heap.size, 9, none⟩ = some (.slice r.i.a r.i.l.length r.i.c) ∧ w2.cell? ⟨b', o' + j * 2, none⟩ = some (.int .i64 u.k) ∧ w2.cell? ⟨b', o' + j * 2 + 1, none⟩ = some (.slice u.a u.l.length u.c)) :=
        fun w2 hb2 => ⟨cell_later hb2 b0, cell_later hb2 b1, cell_later hb2 b2, cell_later hb2 b3, cell_later hb2 b4, cell_later hb2 b5, cell_later hb2 b6, cell_later hb2 b7, cell_later hb2 b8, cell_later hb2 b9, cell_later hb2 v0, cell_later hb2 v1⟩
      have HAN : Hid (∀ w2, Below WA.drew.heap.size WA.drew w2 → (∃ v, w2.cell? ⟨w.heap.size, j * 7, none⟩ = some v) ∧ (∃ v, w2.cell? ⟨w.heap.size, j * 7 + 1, none⟩ = some v) ∧ (∃ v, w2.cell? ⟨w.heap.size, j * 7 + 2, none⟩ = some v) ∧ (∃ v, w2.cell? ⟨w.heap.size, j * 7 + 3, none⟩ = some v) ∧ (∃ v, w2.cell? ⟨w.heap.size, j * 7 + 4, none⟩ = some v) ∧ (∃ v, w2.cell? ⟨w.heap.size, j * 7 + 5, none⟩ = some v) ∧ (∃ v, w2.cell? ⟨w.heap.size, j * 7 + 6, none⟩ = some v) ∧ w2.frozen? ⟨w.heap.size, j * 7, none⟩ = false ∧ w2.frozen? ⟨w.heap.size, j * 7 + 1, none⟩ = false ∧ w2.frozen? ⟨w.heap.size, j * 7 + 2, none⟩ = false ∧ w2.frozen? ⟨w.heap.size, j * 7 + 3, none⟩ = false ∧ w2.frozen? ⟨w.heap.size, j * 7 + 4, none⟩ = false ∧ w2.frozen? ⟨w.heap.size, j * 7 + 5, none⟩ = false ∧ w2.frozen? ⟨w.heap.size, j * 7 + 6, none⟩ = false ∧ Hid (TmRow Q w w.heap.size rs.length zs w2)) := by
        intro w2 hb2
        have hT2 := HTA.out.below (((Below.refl _ _).drew).trans (hb2.mono (Nat.le_refl _)))
        have hj7 : j * 7 + 6 < rs.length * 7 := by have := HJ.out.1; omega
        exact ⟨hT2.any _ (by omega), hT2.any _ (by omega), hT2.any _ (by omega), hT2.any _ (by omega), hT2.any _ (by omega), hT2.any _ (by omega), hT2.any _ (by omega), hT2.fz _, hT2.fz _, hT2.fz _, hT2.fz _, hT2.fz _, hT2.fz _, hT2.fz _, hT2⟩
      have HS0 : Hid (WA.cell? ⟨wr.heap.size, 0, none⟩ = some (.int .i64 r.n) ∧ WA.cell? ⟨wr.heap.size, 1, none⟩ = some (.int .i64 r.y.k) ∧ WA.cell? ⟨wr.heap.size, 2, none⟩ = some (.int .i64 r.y.n) ∧ WA.cell? ⟨wr.heap.size, 3, none⟩ = some (.int .i64 r.y.t.k) ∧ WA.cell? ⟨wr.heap.size, 4, none⟩ = some (.slice r.y.t.a r.y.t.l.length r.y.t.c) ∧ WA.cell? ⟨wr.heap.size, 5, none⟩ = some (.int .i64 r.y.f.k) ∧ WA.cell? ⟨wr.heap.size, 6, none⟩ = some (.slice r.y.f.a r.y.f.l.length r.y.f.c) ∧ WA.cell? ⟨wr.heap.size, 7, none⟩ = some (.slice r.y.a r.y.l.length r.y.c) ∧ WA.cell? ⟨wr.heap.size, 8, none⟩ = some (.int .i64 r.i.k) ∧ WA.cell? ⟨wr.heap.size, 9, none⟩ = some (.slice r.i.a r.i.l.length r.i.c) ∧ WA.cell? ⟨b', o' + j * 2, none⟩ = some (.int .i64 u.k) ∧ WA.cell? ⟨b', o' + j * 2 + 1, none⟩ = some (.slice u.a u.l.length u.c)) := ⟨b0, b1, b2, b3, b4, b5, b6, b7, b8, b9, v0, v1⟩
      have HS1 : Hid (WA.drew.cell? ⟨wr.heap.size, 0, none⟩ = some (.int .i64 r.n) ∧ WA.drew.cell? ⟨wr.heap.size, 1, none⟩ = some (.int .i64 r.y.k) ∧ WA.drew.cell? ⟨wr.heap.size, 2, none⟩ = some (.int .i64 r.y.n) ∧ WA.drew.cell? ⟨wr.heap.size, 3, none⟩ = some (.int .i64 r.y.t.k) ∧ WA.drew.cell? ⟨wr.heap.size, 4, none⟩ = some (.slice r.y.t.a r.y.t.l.length r.y.t.c) ∧ WA.drew.cell? ⟨wr.heap.size, 5, none⟩ = some (.int .i64 r.y.f.k) ∧ WA.drew.cell? ⟨wr.heap.size, 6, none⟩ = some (.slice r.y.f.a r.y.f.l.length r.y.f.c) ∧ WA.drew.cell? ⟨wr.heap.size, 7, none⟩ = some (.slice r.y.a r.y.l.length r.y.c) ∧ WA.drew.cell? ⟨wr.heap.size, 8, none⟩ = some (.int .i64 r.i.k) ∧ WA.drew.cell? ⟨wr.heap.size, 9, none⟩ = some (.slice r.i.a r.i.l.length r.i.c) ∧ WA.drew.cell? ⟨b', o' + j * 2, none⟩ = some (.int .i64 u.k) ∧ WA.drew.cell? ⟨b', o' + j * 2 + 1, none⟩ = some (.slice u.a u.l.length u.c)) := ⟨b0, b1, b2, b3, b4, b5, b6, b7, b8, b9, v0, v1⟩
      have HSP : Hid (∀ w2 a0 a1 a2 a3 a4 a5 a6, Below WA.drew.heap.size WA.drew w2 → (((((((w2.setCell ⟨w.heap.size, j * 7, none⟩ a0).setCell ⟨w.heap.size, j * 7 + 1, none⟩ a1).setCell ⟨w.heap.size, j * 7 + 2, none⟩ a2).setCell ⟨w.heap.size, j * 7 + 3, none⟩ a3).setCell ⟨w.heap.size, j * 7 + 4, none⟩ a4).setCell ⟨w.heap.size, j * 7 + 5, none⟩ a5).setCell ⟨w.heap.size, j * 7 + 6, none⟩ a6).cell? ⟨wr.heap.size, 0, none⟩ = some (.int .i64 r.n) ∧ (((((((w2.setCell ⟨w.heap.size, j * 7, none⟩ a0).setCell ⟨w.heap.size, j * 7 + 1, none⟩ a1).setCell ⟨w.heap.size, j * 7 + 2, none⟩ a2).setCell ⟨w.heap.size, j * 7 + 3, none⟩ a3).setCell ⟨w.heap.size, j * 7 + 4, none⟩ a4).setCell ⟨w.heap.size, j * 7 + 5, none⟩ a5).setCell ⟨w.heap.size, j * 7 + 6, none⟩ a6).cell? ⟨wr.heap.size, 1, none⟩ = some (.int .i64 r.y.k) ∧ (((((((w2.setCell ⟨w.heap.size, j * 7, none⟩ a0).setCell ⟨w.heap.size, j * 7 + 1, none⟩ a1).setCell ⟨w.heap.size, j * 7 + 2, none⟩ a2).setCell ⟨w.heap.size, j * 7 + 3, none⟩ a3).setCell ⟨w.heap.size, j * 7 + 4, none⟩ a4).setCell ⟨w.heap.size, j * 7 + 5, none⟩ a5).setCell ⟨w.heap.size, j * 7 + 6, none⟩ a6).cell? ⟨wr.heap.size, 2, none⟩ = some (.int .i64 r.y.n) ∧ (((((((w2.setCell ⟨w.heap.size, j * 7, none⟩ a0).setCell ⟨w.heap.size, j * 7 + 1, none⟩ a1).setCell ⟨w.heap.size, j * 7 + 2, none⟩ a2).setCell ⟨w.heap.size, j * 7 + 3, none⟩ a3).setCell ⟨w.heap.size, j * 7 + 4, none⟩ a4).setCell ⟨w.heap.size, j * 7 + 5, none⟩ a5).setCell ⟨w.heap.size, j * 7 + 6, none⟩ a6).cell? ⟨wr.heap.size, 3, none⟩ = some (.int .i64 r.y.t.k) ∧ (((((((w2.setCell ⟨w.heap.size, j * 7, none⟩ a0).setCell ⟨w.heap.size, j * 7 + 1, none⟩ a1).setCell ⟨w.heap.size, j * 7 + 2, none⟩ a2).setCell ⟨w.heap.size, j * 7 + 3, none⟩ a3).setCell ⟨w.heap.size, j * 7 + 4, none⟩ a4).setCell ⟨w.heap.size, j * 7 + 5, none⟩ a5).setCell ⟨w.heap.size, j * 7 + 6, none⟩ a6).cell? ⟨wr.heap.size, 4, none⟩ = some (.slice r.y.t.a r.y.t.l.length r.y.t.c) ∧ (((((((w2.setCell ⟨w.heap.size, j * 7, none⟩ a0).setCell ⟨w.heap.size, j * 7 + 1, none⟩ a1).setCell ⟨w.heap.size, j * 7 + 2, none⟩ a2).setCell ⟨w.heap.size, j * 7 + 3, none⟩ a3).setCell ⟨w.heap.size, j * 7 + 4, none⟩ a4).setCell ⟨w.heap.size, j * 7 + 5, none⟩ a5).setCell ⟨w.heap.size, j * 7 + 6, none⟩ a6).cell? ⟨wr.heap.size, 5, none⟩ = some (.int .i64 r.y.f.k) ∧ (((((((w2.setCell ⟨w.heap.size, j * 7, none⟩ a0).setCell ⟨w.heap.size, j * 7 + 1, none⟩ a1).setCell ⟨w.heap.size, j * 7 + 2, none⟩ a2).setCell ⟨w.heap.size, j * 7 + 3, none⟩ a3).setCell ⟨w.heap.size, j * 7 + 4, none⟩ a4).setCell ⟨w.heap.size, j * 7 + 5, none⟩ a5).setCell ⟨w.heap.size, j * 7 + 6, none⟩ a6).cell? ⟨wr.heap.size, 6, none⟩ = some (.slice r.y.f.a r.y.f.l.length r.y.f.c) ∧ (((((((w2.setCell ⟨w.heap.size, j * 7, none⟩ a0).setCell ⟨w.heap.size, j * 7 + 1, none⟩ a1).setCell ⟨w.heap.size, j * 7 + 2, none⟩ a2).setCell ⟨w.heap.size, j * 7 + 3, none⟩ a3).setCell ⟨w.heap.size, j * 7 + 4, none⟩ a4).setCell ⟨w.heap.size, j * 7 + 5, none⟩ a5).setCell ⟨w.heap.size, j * 7 + 6, none⟩ a6).cell? ⟨wr.heap.size, 7, none⟩ = some (.slice r.y.a r.y.l.length r.y.c) ∧ (((((((w2.setCell ⟨w.heap.size, j * 7, none⟩ a0).setCell ⟨w.heap.size, j * 7 + 1, none⟩ a1).setCell ⟨w.heap.size, j * 7 + 2, none⟩ a2).setCell ⟨w.heap.size, j * 7 + 3, none⟩ a3).setCell ⟨w.heap.size, j * 7 + 4, none⟩ a4).setCell ⟨w.heap.size, j * 7 + 5, none⟩ a5).setCell ⟨w.heap.size, j * 7 + 6, none⟩ a6).cell? ⟨wr.heap.size, 8, none⟩ = some (.int .i64 r.i.k) ∧ (((((((w2.setCell ⟨w.heap.size, j * 7, none⟩ a0).setCell ⟨w.heap.size, j * 7 + 1, none⟩ a1).setCell ⟨w.heap.size, j * 7 + 2, none⟩ a2).setCell ⟨w.heap.size, j * 7 + 3, none⟩ a3).setCell ⟨w.heap.size, j * 7 + 4, none⟩ a4).setCell ⟨w.heap.size, j * 7 + 5, none⟩ a5).setCell ⟨w.heap.size, j * 7 + 6, none⟩ a6).cell? ⟨wr.heap.size, 9, none⟩ = some (.slice r.i.a r.i.l.length r.i.c) ∧ (((((((w2.setCell ⟨w.heap.size, j * 7, none⟩ a0).setCell ⟨w.heap.size, j * 7 + 1, none⟩ a1).setCell ⟨w.heap.size, j * 7 + 2, none⟩ a2).setCell ⟨w.heap.size, j * 7 + 3, none⟩ a3).setCell ⟨w.heap.size, j * 7 + 4, none⟩ a4).setCell ⟨w.heap.size, j * 7 + 5, none⟩ a5).setCell ⟨w.heap.size, j * 7 + 6, none⟩ a6).cell? ⟨b', o' + j * 2, none⟩ = some (.int .i64 u.k) ∧ (((((((w2.setCell ⟨w.heap.size, j * 7, none⟩ a0).setCell ⟨w.heap.size, j * 7 + 1, none⟩ a1).setCell ⟨w.heap.size, j * 7 + 2, none⟩ a2).setCell ⟨w.heap.size, j * 7 + 3, none⟩ a3).setCell ⟨w.heap.size, j * 7 + 4, none⟩ a4).setCell ⟨w.heap.size, j * 7 + 5, none⟩ a5).setCell ⟨w.heap.size, j * 7 + 6, none⟩ a6).cell? ⟨b', o' + j * 2 + 1, none⟩ = some (.slice u.a u.l.length u.c)) := by
        intro w2 a0 a1 a2 a3 a4 a5 a6 hb2
        have hp : ∀ k o, k ≠ w.heap.size → (((((((w2.setCell ⟨w.heap.size, j * 7, none⟩ a0).setCell ⟨w.heap.size, j * 7 + 1, none⟩ a1).setCell ⟨w.heap.size, j * 7 + 2, none⟩ a2).setCell ⟨w.heap.size, j * 7 + 3, none⟩ a3).setCell ⟨w.heap.size, j * 7 + 4, none⟩ a4).setCell ⟨w.heap.size, j * 7 + 5, none⟩ a5).setCell ⟨w.heap.size, j * 7 + 6, none⟩ a6).cell? ⟨k, o, none⟩ = w2.cell? ⟨k, o, none⟩ := by
          intro k o hk
          have hk' : w.heap.size ≠ k := fun e => hk e.symm
          rw [World.cell?_setCell_other _ _ _ _ (fun e => hk' (congrArg Addr.block e)), World.cell?_setCell_other _ _ _ _ (fun e => hk' (congrArg Addr.block e)), World.cell?_setCell_other _ _ _ _ (fun e => hk' (congrArg Addr.block e)), World.cell?_setCell_other _ _ _ _ (fun e => hk' (congrArg Addr.block e)), World.cell?_setCell_other _ _ _ _ (fun e => hk' (congrArg Addr.block e)), World.cell?_setCell_other _ _ _ _ (fun e => hk' (congrArg Addr.block e)), World.cell?_setCell_other _ _ _ _ (fun e => hk' (congrArg Addr.block e))]
        have hq := HS.out _ hb2
        exact ⟨(hp _ _ nw).trans hq.1, (hp _ _ nw).trans hq.2.1, (hp _ _ nw).trans hq.2.2.1, (hp _ _ nw).trans hq.2.2.2.1, (hp _ _ nw).trans hq.2.2.2.2.1, (hp _ _ nw).trans hq.2.2.2.2.2.1, (hp _ _ nw).trans hq.2.2.2.2.2.2.1, (hp _ _ nw).trans hq.2.2.2.2.2.2.2.1, (hp _ _ nw).trans hq.2.2.2.2.2.2.2.2.1, (hp _ _ nw).trans hq.2.2.2.2.2.2.2.2.2.1, (hp _ _ nw2).trans hq.2.2.2.2.2.2.2.2.2.2.1, (hp _ _ nw2).trans hq.2.2.2.2.2.2.2.2.2.2.2⟩
      clear b0 b1 b2 b3 b4 b5 b6 b7 b8 b9 v0 v1
      go_region_held3 (fun w' => w'.cell? ⟨wr.heap.size, 0, none⟩ = some (.int .i64 r.n) ∧ w'.cell? ⟨wr.heap.size, 1, none⟩ = some (.int .i64 r.y.k) ∧ w'.cell? ⟨wr.heap.size, 2, none⟩ = some (.int .i64 r.y.n) ∧ w'.cell? ⟨wr.heap.size, 3, none⟩ = some (.int .i64 r.y.t.k) ∧ w'.cell? ⟨wr.heap.size, 4, none⟩ = some (.slice r.y.t.a r.y.t.l.length r.y.t.c) ∧ w'.cell? ⟨wr.heap.size, 5, none⟩ = some (.int .i64 r.y.f.k) ∧ w'.cell? ⟨wr.heap.size, 6, none⟩ = some (.slice r.y.f.a r.y.f.l.length r.y.f.c) ∧ w'.cell? ⟨wr.heap.size, 7, none⟩ = some (.slice r.y.a r.y.l.length r.y.c) ∧ w'.cell? ⟨wr.heap.size, 8, none⟩ = some (.int .i64 r.i.k) ∧ w'.cell? ⟨wr.heap.size, 9, none⟩ = some (.slice r.i.a r.i.l.length r.i.c) ∧ w'.cell? ⟨b', o' + j * 2, none⟩ = some (.int .i64 u.k) ∧ w'.cell? ⟨b', o' + j * 2 + 1, none⟩ = some (.slice u.a u.l.length u.c))
        (first | (with_reducible exact HS0.out) | (with_reducible exact HS1.out) | (with_reducible exact HS.out _ hb2) | (with_reducible exact HSP.out _ _ _ _ _ _ _ _ hb2))
        (first | (go_at_call 106; refine (HCC.out _ (HI.out.1.below ((Below.refl _ _).drew)) (HI.out.2.1.below ((Below.refl _ _).drew)) (HI.out.2.2.1.below ((Below.refl _ _).drew))).mono ?_; rintro e w2 ⟨z, rfl, hz, hzi, hzb, hb2⟩; obtain ⟨⟨y0, x0⟩, ⟨y1, x1⟩, ⟨y2, x2⟩, ⟨y3, x3⟩, ⟨y4, x4⟩, ⟨y5, x5⟩, ⟨y6, x6⟩, f0, f1, f2, f3, f4, f5, f6, HT2⟩ := HAN.out w2 hb2))
      have HN : Hid (TmRow Q w w.heap.size rs.length (zs ++ [z]) (put7at w2 w.heap.size (j * 7) z) ∧ (zs ++ [z]).length = j + 1 ∧ ∀ q (h : q < (zs ++ [z]).length) (h1 : q < rs.length) (h2 : q < U.l.length), (zs ++ [z])[q].tm = castY rs[q].n rs[q].y.tm rs[q].i.ty U.l[q].ty) := by
        have hst := HT2.out.step (z := z) (Nat.le_refl _) hzi (hzb _ (fun b hb => ⟨by have := HJ.out.2; have : w.heap.size < WA.drew.heap.size := this; omega, HQ0.out.1 b (by have := HJ.out.2; have : w.heap.size < WA.drew.heap.size := this; omega)⟩) HI.out.2.2.2) (by rw [HZ.out.1]; exact HJ.out.1)
        rw [HZ.out.1] at hst
        refine ⟨hst, by simp [HZ.out.1], fun q hq h1 h2 => ?_⟩
        by_cases e : q = j
        · subst e
          have : (zs ++ [z])[q] = z := by
            rw [List.getElem_append_right (by rw [HZ.out.1]; exact Nat.le_refl _)]
            simp [HZ.out.1]
          rw [this, hz, HRE.out.1, HRE.out.2]
        · have hq' : q < zs.length := by rw [List.length_append, List.length_singleton] at hq; have := HZ.out.1; omega
          rw [List.getElem_append_left hq']
          exact HZ.out.2 q hq' h1 h2
      clear hz hzi hzb hb2 HTA HZ HI HCC HS HS0 HS1 HSP HT2 x0 x1 x2 x3 x4 x5 x6 f0 f1 f2 f3 f4 f5 f6
      go_wp2_with fail
      rw [← HEA.out, ← HEB.out]
      go_roundg (rs.length - (j + 1))
      case measure => omega
      case rel => exact ⟨j + 1, zs ++ [z], by omega, by go_num, HN⟩
    · have HE := HQ
      clear HQ
      have HJ : Hid (j = rs.length) := by show j = rs.length; omega
      go_wp2_with fail
      go_ret
      exact ⟨zs, rfl, HE.out.1, HE.out.2.1.trans HJ.out, HE.out.2.2⟩
end Go.Proofs.YtnddkmccagiclaaGreatDoor

/-
  Small things for the walk of check's read: its frame, its boxes, what its parts make together; no program's run in it.
-/
namespace Go.Proofs.YtnddkmccagiclaaGreatDoor
open Go.RowKit

/-- The term's box, and the place of the answer. -/
structure RF (H : Nat) (x : TT) (W : World) : Prop where
  at7 : At7 W H 0 x
  z0 : W.cell? ⟨H + 1, 0, none⟩ = some (.int .i64 0)
  z1 : W.cell? ⟨H + 1, 1, none⟩ = some (.int .i64 0)
  z2 : W.cell? ⟨H + 1, 2, none⟩ = some (.int .i64 0)
  z3 : W.cell? ⟨H + 1, 3, none⟩ = some (.int .i64 0)
  z4 : W.cell? ⟨H + 1, 4, none⟩ = some (.slice none 0 0)
  z5 : W.cell? ⟨H + 1, 5, none⟩ = some (.int .i64 0)
  z6 : W.cell? ⟨H + 1, 6, none⟩ = some (.slice none 0 0)
  z7 : W.cell? ⟨H + 1, 7, none⟩ = some (.slice none 0 0)
  z8 : W.cell? ⟨H + 1, 8, none⟩ = some (.int .i64 0)
  z9 : W.cell? ⟨H + 1, 9, none⟩ = some (.slice none 0 0)
  fz : ∀ i, W.frozen? ⟨H + 1, i, none⟩ = false

theorem RF.lt {H : Nat} {x : TT} {W : World} (h : RF H x W) : H + 1 < W.heap.size := World.block_lt_of_cell? _ _ h.z0

theorem RF.kept {H R : Nat} {x : TT} {W W' : World} (h : RF H x W) (hk : Kept R none W W') (h1 : H ≠ R) (h2 : H + 1 ≠ R) : RF H x W' :=
  ⟨h.at7.keptR hk h1, hk.cell h.z0 h2, hk.cell h.z1 h2, hk.cell h.z2 h2, hk.cell h.z3 h2, hk.cell h.z4 h2, hk.cell h.z5 h2, hk.cell h.z6 h2, hk.cell h.z7 h2, hk.cell h.z8 h2, hk.cell h.z9 h2, fun i => hk.fz (h.fz i) h.lt h2⟩

theorem RF.below {H : Nat} {x : TT} {W W' : World} (h : RF H x W) (hb : Below W.heap.size W W') : RF H x W' :=
  ⟨h.at7.below hb, cell_later hb h.z0, cell_later hb h.z1, cell_later hb h.z2, cell_later hb h.z3, cell_later hb h.z4, cell_later hb h.z5, cell_later hb h.z6, cell_later hb h.z7, cell_later hb h.z8, cell_later hb h.z9, fun i => (hb.frozen (p := ⟨H + 1, i, none⟩) h.lt).trans (h.fz i)⟩

theorem RF.start (x : TT) (w : World) : RF w.heap.size x ((w.alloc (.cells #[.int .i64 x.k, .int .i64 x.n, .int .i64 x.t.k, .slice x.t.a x.t.l.length x.t.c, .int .i64 x.f.k, .slice x.f.a x.f.l.length x.f.c, .slice x.a x.l.length x.c] 27)).alloc (.cells #[.int .i64 0, .int .i64 0, .int .i64 0, .int .i64 0, .slice none 0 0, .int .i64 0, .slice none 0 0, .slice none 0 0, .int .i64 0, .slice none 0 0] 71)) := by
  refine ⟨⟨?_, ?_, ?_, ?_, ?_, ?_, ?_⟩, ?_, ?_, ?_, ?_, ?_, ?_, ?_, ?_, ?_, ?_, fun i => ?_⟩
  all_goals simp [go_sem]

def put10 (w : World) (J : Nat) (v0 v1 v2 v3 v4 v5 v6 v7 v8 v9 : Value) : World :=
  (((((((((w.setCell ⟨J, 0, none⟩ v0).setCell ⟨J, 1, none⟩ v1).setCell ⟨J, 2, none⟩ v2).setCell ⟨J, 3, none⟩ v3).setCell ⟨J, 4, none⟩ v4).setCell ⟨J, 5, none⟩ v5).setCell ⟨J, 6, none⟩ v6).setCell ⟨J, 7, none⟩ v7).setCell ⟨J, 8, none⟩ v8).setCell ⟨J, 9, none⟩ v9

theorem put10_get {w : World} {J i : Nat} {u v0 v1 v2 v3 v4 v5 v6 v7 v8 v9 : Value} (hu : w.cell? ⟨J, i, none⟩ = some u) : (put10 w J v0 v1 v2 v3 v4 v5 v6 v7 v8 v9).cell? ⟨J, i, none⟩ = some (if i = 9 then v9 else if i = 8 then v8 else if i = 7 then v7 else if i = 6 then v6 else if i = 5 then v5 else if i = 4 then v4 else if i = 3 then v3 else if i = 2 then v2 else if i = 1 then v1 else if i = 0 then v0 else u) :=
  set_get (set_get (set_get (set_get (set_get (set_get (set_get (set_get (set_get (set_get hu)))))))))

theorem put10_kept {w : World} {J : Nat} {v0 v1 v2 v3 v4 v5 v6 v7 v8 v9 : Value} : Kept J none w (put10 w J v0 v1 v2 v3 v4 v5 v6 v7 v8 v9) :=
  setR_kept.trans (setR_kept.trans (setR_kept.trans (setR_kept.trans (setR_kept.trans (setR_kept.trans (setR_kept.trans (setR_kept.trans (setR_kept.trans setR_kept))))))))

theorem RF.put {H : Nat} {x : TT} {W : World} (h : RF H x W) (v0 v1 v2 v3 v4 v5 v6 v7 v8 v9 : Value) :
    (put10 W (H + 1) v0 v1 v2 v3 v4 v5 v6 v7 v8 v9).cell? ⟨H + 1, 0, none⟩ = some v0 ∧ (put10 W (H + 1) v0 v1 v2 v3 v4 v5 v6 v7 v8 v9).cell? ⟨H + 1, 1, none⟩ = some v1 ∧ (put10 W (H + 1) v0 v1 v2 v3 v4 v5 v6 v7 v8 v9).cell? ⟨H + 1, 2, none⟩ = some v2 ∧ (put10 W (H + 1) v0 v1 v2 v3 v4 v5 v6 v7 v8 v9).cell? ⟨H + 1, 3, none⟩ = some v3 ∧ (put10 W (H + 1) v0 v1 v2 v3 v4 v5 v6 v7 v8 v9).cell? ⟨H + 1, 4, none⟩ = some v4 ∧ (put10 W (H + 1) v0 v1 v2 v3 v4 v5 v6 v7 v8 v9).cell? ⟨H + 1, 5, none⟩ = some v5 ∧ (put10 W (H + 1) v0 v1 v2 v3 v4 v5 v6 v7 v8 v9).cell? ⟨H + 1, 6, none⟩ = some v6 ∧ (put10 W (H + 1) v0 v1 v2 v3 v4 v5 v6 v7 v8 v9).cell? ⟨H + 1, 7, none⟩ = some v7 ∧ (put10 W (H + 1) v0 v1 v2 v3 v4 v5 v6 v7 v8 v9).cell? ⟨H + 1, 8, none⟩ = some v8 ∧ (put10 W (H + 1) v0 v1 v2 v3 v4 v5 v6 v7 v8 v9).cell? ⟨H + 1, 9, none⟩ = some v9 := by
  refine ⟨?_, ?_, ?_, ?_, ?_, ?_, ?_, ?_, ?_, ?_⟩
  · simpa using put10_get (v0 := v0) (v1 := v1) (v2 := v2) (v3 := v3) (v4 := v4) (v5 := v5) (v6 := v6) (v7 := v7) (v8 := v8) (v9 := v9) h.z0
  · simpa using put10_get (v0 := v0) (v1 := v1) (v2 := v2) (v3 := v3) (v4 := v4) (v5 := v5) (v6 := v6) (v7 := v7) (v8 := v8) (v9 := v9) h.z1
  · simpa using put10_get (v0 := v0) (v1 := v1) (v2 := v2) (v3 := v3) (v4 := v4) (v5 := v5) (v6 := v6) (v7 := v7) (v8 := v8) (v9 := v9) h.z2
  · simpa using put10_get (v0 := v0) (v1 := v1) (v2 := v2) (v3 := v3) (v4 := v4) (v5 := v5) (v6 := v6) (v7 := v7) (v8 := v8) (v9 := v9) h.z3
  · simpa using put10_get (v0 := v0) (v1 := v1) (v2 := v2) (v3 := v3) (v4 := v4) (v5 := v5) (v6 := v6) (v7 := v7) (v8 := v8) (v9 := v9) h.z4
  · simpa using put10_get (v0 := v0) (v1 := v1) (v2 := v2) (v3 := v3) (v4 := v4) (v5 := v5) (v6 := v6) (v7 := v7) (v8 := v8) (v9 := v9) h.z5
  · simpa using put10_get (v0 := v0) (v1 := v1) (v2 := v2) (v3 := v3) (v4 := v4) (v5 := v5) (v6 := v6) (v7 := v7) (v8 := v8) (v9 := v9) h.z6
  · simpa using put10_get (v0 := v0) (v1 := v1) (v2 := v2) (v3 := v3) (v4 := v4) (v5 := v5) (v6 := v6) (v7 := v7) (v8 := v8) (v9 := v9) h.z7
  · simpa using put10_get (v0 := v0) (v1 := v1) (v2 := v2) (v3 := v3) (v4 := v4) (v5 := v5) (v6 := v6) (v7 := v7) (v8 := v8) (v9 := v9) h.z8
  · simpa using put10_get (v0 := v0) (v1 := v1) (v2 := v2) (v3 := v3) (v4 := v4) (v5 := v5) (v6 := v6) (v7 := v7) (v8 := v8) (v9 := v9) h.z9

/-- Three cells that are new and not yet written. -/
def ZB3 (V : World) (b : Nat) : Prop := V.cell? ⟨b, 0, none⟩ = some (.int .i64 0) ∧ V.cell? ⟨b, 1, none⟩ = some (.slice none 0 0) ∧ V.cell? ⟨b, 2, none⟩ = some (.slice none 0 0) ∧ V.frozen? ⟨b, 0, none⟩ = false ∧ V.frozen? ⟨b, 1, none⟩ = false ∧ V.frozen? ⟨b, 2, none⟩ = false
theorem ZB3.new (U : World) : ZB3 (U.alloc (.cells #[.int .i64 0, .slice none 0 0, .slice none 0 0] 115)) U.heap.size := by
  refine ⟨?_, ?_, ?_, ?_, ?_, ?_⟩ <;> simp [go_sem]
theorem ZB3.later {V w : World} {b : Nat} (hb : Below V.heap.size V w) (h : ZB3 V b) : ZB3 w b := by
  obtain ⟨h0, h1, h2, f0, f1, f2⟩ := h
  have hl : b < V.heap.size := World.block_lt_of_cell? _ _ h0
  exact ⟨cell_later hb h0, cell_later hb h1, cell_later hb h2, (hb.frozen (p := ⟨b, 0, none⟩) hl).trans f0, (hb.frozen (p := ⟨b, 1, none⟩) hl).trans f1, (hb.frozen (p := ⟨b, 2, none⟩) hl).trans f2⟩

/-- The rule's box. -/
structure At3 (W : World) (G : Nat) (I U : Tr) : Prop where
  k : W.cell? ⟨G, 0, none⟩ = some (.int .i64 I.k)
  l : W.cell? ⟨G, 1, none⟩ = some (.slice I.a I.l.length I.c)
  u : W.cell? ⟨G, 2, none⟩ = some (.slice U.a U.l.length U.c)

theorem ZB3.put {W : World} {G : Nat} (h : ZB3 W G) (I U : Tr) : At3 (((W.setCell ⟨G, 0, none⟩ (.int .i64 I.k)).setCell ⟨G, 1, none⟩ (.slice I.a I.l.length I.c)).setCell ⟨G, 2, none⟩ (.slice U.a U.l.length U.c)) G I U := by
  obtain ⟨h0, h1, h2, _⟩ := h
  exact ⟨by simpa using set_get (j := 2) (v := .slice U.a U.l.length U.c) (set_get (j := 1) (v := .slice I.a I.l.length I.c) (set_get (j := 0) (v := .int .i64 I.k) h0)), by simpa using set_get (j := 2) (v := .slice U.a U.l.length U.c) (set_get (j := 1) (v := .slice I.a I.l.length I.c) (set_get (j := 0) (v := .int .i64 I.k) h1)), by simpa using set_get (j := 2) (v := .slice U.a U.l.length U.c) (set_get (j := 1) (v := .slice I.a I.l.length I.c) (set_get (j := 0) (v := .int .i64 I.k) h2))⟩

theorem At3.new (W : World) (I U : Tr) : At3 (W.alloc (.cells #[.int .i64 I.k, .slice I.a I.l.length I.c, .slice U.a U.l.length U.c] 115)) W.heap.size I U := by
  refine ⟨?_, ?_, ?_⟩ <;> simp [go_sem]

theorem At3.below {W W' : World} {G : Nat} {I U : Tr} (h : At3 W G I U) (hb : Below W.heap.size W W') : At3 W' G I U := ⟨cell_later hb h.k, cell_later hb h.l, cell_later hb h.u⟩
theorem At3.lt {W : World} {G : Nat} {I U : Tr} (h : At3 W G I U) : G < W.heap.size := World.block_lt_of_cell? _ _ h.k

/-- Seven cells that are new and not yet written. -/
def ZB7 (V : World) (b : Nat) : Prop :=
  (V.cell? ⟨b, 0, none⟩ = some (.int .i64 0) ∧ V.cell? ⟨b, 1, none⟩ = some (.int .i64 0) ∧ V.cell? ⟨b, 2, none⟩ = some (.int .i64 0) ∧ V.cell? ⟨b, 3, none⟩ = some (.slice none 0 0) ∧ V.cell? ⟨b, 4, none⟩ = some (.int .i64 0) ∧ V.cell? ⟨b, 5, none⟩ = some (.slice none 0 0) ∧ V.cell? ⟨b, 6, none⟩ = some (.slice none 0 0)) ∧
    V.frozen? ⟨b, 0, none⟩ = false ∧ V.frozen? ⟨b, 1, none⟩ = false ∧ V.frozen? ⟨b, 2, none⟩ = false ∧ V.frozen? ⟨b, 3, none⟩ = false ∧ V.frozen? ⟨b, 4, none⟩ = false ∧ V.frozen? ⟨b, 5, none⟩ = false ∧ V.frozen? ⟨b, 6, none⟩ = false
theorem ZB7.box {V : World} {b : Nat} (h : ZB7 V b) : Box7 V b (tleaf 0 0) := by
  obtain ⟨⟨h0, h1, h2, h3, h4, h5, h6⟩, f0, f1, f2, f3, f4, f5, f6⟩ := h
  refine ⟨⟨h0, h1, h2, h3, h4, h5, h6⟩, fun i hi => ?_⟩
  obtain rfl | rfl | rfl | rfl | rfl | rfl | rfl : i = 0 ∨ i = 1 ∨ i = 2 ∨ i = 3 ∨ i = 4 ∨ i = 5 ∨ i = 6 := by omega
  · exact f0
  · exact f1
  · exact f2
  · exact f3
  · exact f4
  · exact f5
  · exact f6
theorem ZB7.lt {V : World} {b : Nat} (h : ZB7 V b) : b < V.heap.size := World.block_lt_of_cell? _ _ h.1.1
theorem ZB7.new (U : World) : ZB7 (U.alloc (.cells #[.int .i64 0, .int .i64 0, .int .i64 0, .slice none 0 0, .int .i64 0, .slice none 0 0, .slice none 0 0] 27)) U.heap.size := by
  refine ⟨⟨?_, ?_, ?_, ?_, ?_, ?_, ?_⟩, ?_, ?_, ?_, ?_, ?_, ?_, ?_⟩ <;> simp [go_sem]
theorem ZB7.later {V w : World} {b : Nat} (hb : Below V.heap.size V w) (h : ZB7 V b) : ZB7 w b := by
  have hl := h.lt
  obtain ⟨⟨h0, h1, h2, h3, h4, h5, h6⟩, f0, f1, f2, f3, f4, f5, f6⟩ := h
  exact ⟨⟨cell_later hb h0, cell_later hb h1, cell_later hb h2, cell_later hb h3, cell_later hb h4, cell_later hb h5, cell_later hb h6⟩, (hb.frozen (p := ⟨b, 0, none⟩) hl).trans f0, (hb.frozen (p := ⟨b, 1, none⟩) hl).trans f1, (hb.frozen (p := ⟨b, 2, none⟩) hl).trans f2, (hb.frozen (p := ⟨b, 3, none⟩) hl).trans f3, (hb.frozen (p := ⟨b, 4, none⟩) hl).trans f4, (hb.frozen (p := ⟨b, 5, none⟩) hl).trans f5, (hb.frozen (p := ⟨b, 6, none⟩) hl).trans f6⟩

theorem At7.new (W : World) (x : TT) : At7 (W.alloc (.cells #[.int .i64 x.k, .int .i64 x.n, .int .i64 x.t.k, .slice x.t.a x.t.l.length x.t.c, .int .i64 x.f.k, .slice x.f.a x.f.l.length x.f.c, .slice x.a x.l.length x.c] 27)) W.heap.size 0 x := by
  refine ⟨?_, ?_, ?_, ?_, ?_, ?_, ?_⟩ <;> simp [go_sem]

/-- The casts, one by one, are castL's. -/
theorem castL_of : ∀ (rs : List Rd) (us : List Tr) (zs : List TT), zs.length = rs.length → rs.length = us.length → (∀ r, r ∈ rs → 0 ≤ r.n) →
    (∀ q (h : q < zs.length) (h1 : q < rs.length) (h2 : q < us.length), zs[q].tm = castY rs[q].n rs[q].y.tm rs[q].i.ty us[q].ty) → zs.map TT.tm = castL (rs.map tri) (us.map Tr.ty)
  | [], [], [], _, _, _, _ => rfl
  | r :: rs, u :: us, z :: zs, h1, h2, hn, h => by
    have h0 := h 0 (by simp) (by simp) (by simp)
    have ih := castL_of rs us zs (by simpa using h1) (by simpa using h2) (fun q hq => hn q (by simp [hq])) fun q a b d => h (q + 1) (by simpa using a) (by simpa using b) (by simpa using d)
    have e : (r.n.toNat : Int) = r.n := Int.toNat_of_nonneg (hn r (by simp))
    simp only [List.getElem_cons_zero] at h0
    simp [castL, tri, e, h0, ih]
  | [], _ :: _, _, _, h, _, _ => by simp at h
  | _ :: _, [], _, _, h, _, _ => by simp at h
  | [], [], _ :: _, h, _, _, _ => by simp at h
  | _ :: _, _ :: _, [], h, _, _, _ => by simp at h

theorem tri_types (rs : List Rd) : (rs.map tri).map (fun p => p.2.2) = rs.map fun r => r.i.ty := by
  rw [List.map_map]; rfl

/-- What is known of the parts' types. -/
theorem parts_good {x : TT} {takes : List Ty} {c : Nat} {rs : List Rd} (hok : okTm x.tm takes.length) (hT : ∀ u, u ∈ takes → goodY 4 u = true) (hsz : x.sz ≤ 900) (h : readL (x.l.map TT.tm) (takesIn x.k x.t.ty takes) (c + 1) = some (rs.map tri)) :
    rs.length = x.l.length ∧ ∀ r, r ∈ rs → goodT ((x.l.map TT.sz).sum + 4) r.i = true := by
  obtain ⟨k, n, t, f, a, cc, l⟩ := x
  rw [TT.tm_mk] at hok
  obtain ⟨h0, h1⟩ := okTm_mk.1 hok
  obtain ⟨k1, k9, hl, _, ht, _, _⟩ := okTop_all h0
  have hlen := readL_length _ _ _ _ h
  simp only [List.length_map] at hlen
  refine ⟨hlen, fun r hr => ?_⟩
  obtain ⟨j, hj, rfl⟩ := List.getElem_of_mem hr
  have := readL_all (Q := fun x _ _ i => goodY (x.sz + 4) i = true) (l.map TT.tm) _ _ h (fun x hx c y i hr => read_good x _ c y i (by rw [takesIn_length]; exact h1 x hx) (takesIn_good ht hT) hr) j (by simpa using hj) (by simp; omega)
  have hs := sz_mem (l.map TT.tm) ((l.map TT.tm)[j]'(by simp; omega)) (List.getElem_mem _)
  rw [sz_map] at hs
  rw [goodT_eq]
  have g := goodY_more _ ((l.map TT.sz).sum + 4) _ (by omega) this
  simpa [tri] using g

theorem good_facts {n : Nat} (hn : n ≤ 1000) {t : Tr} (h : goodT n t = true) : t.right ∧ t.hgt ≤ 1000 ∧ t.sm := ⟨Tr.right_good n t h, Nat.le_trans (Tr.hgt_good n t h) hn, Tr.sm_good n t h⟩

/-- No type. -/
theorem readS_none1 {x : TT} {takes : List Ty} {c : Nat} (h : readL (x.l.map TT.tm) (takesIn x.k x.t.ty takes) (c + 1) = none) : readS x.tm takes c = none := by
  obtain ⟨k, n, t, f, a, cc, l⟩ := x
  rw [TT.tm_mk, readS_mk]
  simp only at h
  rw [h]; rfl
theorem readS_none2 {x : TT} {takes : List Ty} {c : Nat} {rs : List Rd} (h : readL (x.l.map TT.tm) (takesIn x.k x.t.ty takes) (c + 1) = some (rs.map tri)) (h2 : ruleY x.k x.n x.t.ty (rs.map fun r => r.i.ty) (takesIn x.k x.t.ty takes) = none) : readS x.tm takes c = none := by
  obtain ⟨k, n, t, f, a, cc, l⟩ := x
  rw [TT.tm_mk, readS_mk]
  simp only at h h2
  rw [h]
  simp only [Option.bind_some, tri_types, h2]; rfl
theorem readS_none3 {x : TT} {takes : List Ty} {c : Nat} {rs : List Rd} {i : Ty} {us : List Ty} (h : readL (x.l.map TT.tm) (takesIn x.k x.t.ty takes) (c + 1) = some (rs.map tri)) (h2 : ruleY x.k x.n x.t.ty (rs.map fun r => r.i.ty) (takesIn x.k x.t.ty takes) = some (i, us)) (h3 : fitL (rs.map fun r => r.i.ty) us = false) : readS x.tm takes c = none := by
  obtain ⟨k, n, t, f, a, cc, l⟩ := x
  rw [TT.tm_mk, readS_mk]
  simp only at h h2
  rw [h]
  simp only [Option.bind_some, tri_types, h2, h3]
  rfl
theorem readS_yes {x : TT} {takes : List Ty} {c : Nat} {rs : List Rd} {i : Ty} {us : List Ty} (h : readL (x.l.map TT.tm) (takesIn x.k x.t.ty takes) (c + 1) = some (rs.map tri)) (h2 : ruleY x.k x.n x.t.ty (rs.map fun r => r.i.ty) (takesIn x.k x.t.ty takes) = some (i, us)) (h3 : fitL (rs.map fun r => r.i.ty) us = true) : readS x.tm takes c = some (⟨x.k, x.n, x.t.ty, anyY, castL (rs.map tri) us⟩, i) := by
  obtain ⟨k, n, t, f, a, cc, l⟩ := x
  rw [TT.tm_mk, readS_mk]
  simp only at h h2
  rw [h]
  simp only [Option.bind_some, tri_types, h2, h3]
  rfl
end Go.Proofs.YtnddkmccagiclaaGreatDoor
