/-
  What the call of chaperoneref.JoinOf answers at two right trees that lie in memory.
-/
import Derived.Test.YtaaplpcpifdnfaaRefJoin
import Derived.Test.YtaaplpcpifdnfaaGenTwo
namespace Go.Proofs.Ytaaplpcpifdnfaa
open Go.RowKit

/-- What a call that makes a tree leaves. -/
def Made (T : Ty) (w : World) (e : Ending) (w' : World) : Prop :=
  ∃ t : Tr, e = .returned (.agg #[.int .i64 t.k, .slice t.a t.l.length t.c]) ∧ t.ty = T ∧ t.In w' ∧ t.Bl (w.heap.size ≤ ·) ∧ Below w.heap.size w w'

theorem made_two {w W0 w3 : World} {t0 t1 : Tr} {N : Nat} (hN : w.heap.size + 1 + 1 < N) (hb0 : Below w.heap.size w W0) (hb : Below N W0 w3) (hs : N ≤ W0.heap.size) (i0 : t0.In w3) (i1 : t1.In w3) (b0 : t0.Bl (N ≤ ·)) (b1 : t1.Bl (N ≤ ·)) (u v : Value) {W : World} (hW : W = ((w3.setCell ⟨w.heap.size + 1 + 1, 0, none⟩ u).setCell ⟨w.heap.size + 1 + 1, 1, none⟩ v).alloc (.cells #[.int .i64 t0.k, .slice t0.a t0.l.length t0.c, .int .i64 t1.k, .slice t1.a t1.l.length t1.c] 24)) :
    (Tr.mk 3 (some ⟨w3.heap.size, 0, none⟩) 2 [t0, t1]).In W ∧ (Tr.mk 3 (some ⟨w3.heap.size, 0, none⟩) 2 [t0, t1]).Bl (w.heap.size ≤ ·) ∧ Below w.heap.size w W := by
  have hs3 := hb.size
  have hs0 := hb0.size
  have hsz : ((w3.setCell ⟨w.heap.size + 1 + 1, 0, none⟩ u).setCell ⟨w.heap.size + 1 + 1, 1, none⟩ v).heap.size = w3.heap.size := by simp [World.setCell]
  have k0 : t0.In ((w3.setCell ⟨w.heap.size + 1 + 1, 0, none⟩ u).setCell ⟨w.heap.size + 1 + 1, 0 + 1, none⟩ v) := set_keeps i0 (b0.mono fun b h => by omega)
  have k1 : t1.In ((w3.setCell ⟨w.heap.size + 1 + 1, 0, none⟩ u).setCell ⟨w.heap.size + 1 + 1, 0 + 1, none⟩ v) := set_keeps i1 (b1.mono fun b h => by omega)
  have hbb : Below w.heap.size w ((w3.setCell ⟨w.heap.size + 1 + 1, 0, none⟩ u).setCell ⟨w.heap.size + 1 + 1, 1, none⟩ v) := ((hb0.trans (hb.mono (by omega))).setCell (by simp; omega) _).setCell (by simp; omega) _
  subst hW
  refine ⟨?_, Tr.Bl_two (by omega) (b0.mono fun b h => by omega) (b1.mono fun b h => by omega), hbb.alloc (by omega) _⟩
  generalize ((w3.setCell ⟨w.heap.size + 1 + 1, 0, none⟩ u).setCell ⟨w.heap.size + 1 + 1, 1, none⟩ v) = X at *
  have hba : ∀ Y, Below X.heap.size X (X.alloc Y) := fun Y => (Below.refl _ _).alloc (Nat.le_refl _) _
  rw [← hsz]
  exact Tr.In_two (by simp [go_sem]) (by simp [go_sem]) (by simp [go_sem]) (by simp [go_sem]) (k0.below (hba _)) (k1.below (hba _))

set_option maxHeartbeats 1000000 in
theorem joinOf_two (bx ox by' oy c c' : Nat) (x0 x1 y0 y1 : Tr) (w : World)
    (cx0 : w.cell? ⟨bx, ox, none⟩ = some (.int .i64 x0.k)) (cx1 : w.cell? ⟨bx, ox + 1, none⟩ = some (.slice x0.a x0.l.length x0.c)) (cx2 : w.cell? ⟨bx, ox + 2, none⟩ = some (.int .i64 x1.k)) (cx3 : w.cell? ⟨bx, ox + 3, none⟩ = some (.slice x1.a x1.l.length x1.c))
    (cy0 : w.cell? ⟨by', oy, none⟩ = some (.int .i64 y0.k)) (cy1 : w.cell? ⟨by', oy + 1, none⟩ = some (.slice y0.a y0.l.length y0.c)) (cy2 : w.cell? ⟨by', oy + 2, none⟩ = some (.int .i64 y1.k)) (cy3 : w.cell? ⟨by', oy + 3, none⟩ = some (.slice y1.a y1.l.length y1.c))
    (H0 : Hid (∀ W : World, Below w.heap.size w W → Calls Try.prog 22 #[.agg #[.int .i64 x0.k, .slice x0.a x0.l.length x0.c], .agg #[.int .i64 y0.k, .slice y0.a y0.l.length y0.c]] W (Made (joinY x0.ty y0.ty) W)))
    (H1 : Hid (∀ W : World, Below w.heap.size w W → Calls Try.prog 22 #[.agg #[.int .i64 x1.k, .slice x1.a x1.l.length x1.c], .agg #[.int .i64 y1.k, .slice y1.a y1.l.length y1.c]] W (Made (joinY x1.ty y1.ty) W))) :
    Calls Try.prog 22 #[.agg #[.int .i64 3, .slice (some ⟨bx, ox, none⟩) 2 c], .agg #[.int .i64 3, .slice (some ⟨by', oy, none⟩) 2 c']] w (Made ⟨3, [joinY x0.ty y0.ty, joinY x1.ty y1.ty]⟩ w) := by
  obtain ⟨W0, hW0⟩ : ∃ W0, W0 = (((w.alloc (Obj.cells #[.int .i64 3, .slice (some ⟨bx, ox, none⟩) 2 c] 24)).alloc (Obj.cells #[.int .i64 3, .slice (some ⟨by', oy, none⟩) 2 c'] 24)).alloc (Obj.cells #[.int .i64 0, .slice none 0 0] 24)) := ⟨_, rfl⟩
  have hs0 : W0.heap.size = w.heap.size + 1 + 1 + 1 := by rw [hW0]; simp
  have hbw0 : Below w.heap.size w W0 := by rw [hW0]; exact (((Below.refl _ _).alloc (Nat.le_refl _) _).alloc (by simp) _).alloc (by simp; omega) _
  have r0 : W0.drew.cell? ⟨w.heap.size + 1 + 1, 0, none⟩ = some (.int .i64 0) := by rw [hW0]; simp [go_sem]
  have r1 : W0.drew.cell? ⟨w.heap.size + 1 + 1, 1, none⟩ = some (.slice none 0 0) := by rw [hW0]; simp [go_sem]
  have r2 : W0.drew.frozen? ⟨w.heap.size + 1 + 1, 0, none⟩ = false := by rw [hW0]; simp [go_sem]
  have r3 : W0.drew.frozen? ⟨w.heap.size + 1 + 1, 1, none⟩ = false := by rw [hW0]; simp [go_sem]
  have q0 : W0.cell? ⟨w.heap.size, 0, none⟩ = some (.int .i64 3) := by rw [hW0]; simp [go_sem]
  have q1 : W0.cell? ⟨w.heap.size, 1, none⟩ = some (.slice (some ⟨bx, ox, none⟩) 2 c) := by rw [hW0]; simp [go_sem]
  have q2 : W0.cell? ⟨w.heap.size + 1, 0, none⟩ = some (.int .i64 3) := by rw [hW0]; simp [go_sem]
  have q3 : W0.cell? ⟨w.heap.size + 1, 1, none⟩ = some (.slice (some ⟨by', oy, none⟩) 2 c') := by rw [hW0]; simp [go_sem]
  have lx : bx < w.heap.size := World.block_lt_of_cell? _ _ cx0
  have ly : by' < w.heap.size := World.block_lt_of_cell? _ _ cy0
  replace cx0 := cell_later hbw0 cx0
  replace cx1 := cell_later hbw0 cx1
  replace cx2 := cell_later hbw0 cx2
  replace cx3 := cell_later hbw0 cx3
  replace cy0 := cell_later hbw0 cy0
  replace cy1 := cell_later hbw0 cy1
  replace cy2 := cell_later hbw0 cy2
  replace cy3 := cell_later hbw0 cy3
  have HK : Hid (∀ w' : World, Below (w.heap.size + 1 + 1) W0 w' → (w'.cell? ⟨w.heap.size, 0, none⟩ = some (.int .i64 3) ∧ w'.cell? ⟨w.heap.size, 1, none⟩ = some (.slice (some ⟨bx, ox, none⟩) 2 c) ∧ w'.cell? ⟨w.heap.size + 1, 1, none⟩ = some (.slice (some ⟨by', oy, none⟩) 2 c') ∧ w'.cell? ⟨bx, ox, none⟩ = some (.int .i64 x0.k) ∧ w'.cell? ⟨bx, ox + 1, none⟩ = some (.slice x0.a x0.l.length x0.c) ∧ w'.cell? ⟨bx, ox + 2, none⟩ = some (.int .i64 x1.k) ∧ w'.cell? ⟨bx, ox + 3, none⟩ = some (.slice x1.a x1.l.length x1.c) ∧ w'.cell? ⟨by', oy, none⟩ = some (.int .i64 y0.k) ∧ w'.cell? ⟨by', oy + 1, none⟩ = some (.slice y0.a y0.l.length y0.c) ∧ w'.cell? ⟨by', oy + 2, none⟩ = some (.int .i64 y1.k) ∧ w'.cell? ⟨by', oy + 3, none⟩ = some (.slice y1.a y1.l.length y1.c))) := by
    intro w' h
    have t : ∀ b i, b < w.heap.size + 1 + 1 → w'.cell? ⟨b, i, none⟩ = W0.cell? ⟨b, i, none⟩ := fun b i hb => h.cell (p := ⟨b, i, none⟩) hb
    exact ⟨(t _ _ (by omega)).trans q0, (t _ _ (by omega)).trans q1, (t _ _ (by omega)).trans q3, (t _ _ (by omega)).trans cx0, (t _ _ (by omega)).trans cx1, (t _ _ (by omega)).trans cx2, (t _ _ (by omega)).trans cx3, (t _ _ (by omega)).trans cy0, (t _ _ (by omega)).trans cy1, (t _ _ (by omega)).trans cy2, (t _ _ (by omega)).trans cy3⟩
  have hbn : Below (w.heap.size + 1 + 1) W0 W0.drew := (Below.refl _ _).drew
  have hbm : Below (w.heap.size + 1 + 1 + 1) W0 W0.drew := (Below.refl _ _).drew
  go_enter Try.func22, Try.ntmps22
  go_wp2_with fail
  rw [← hW0]
  clear hW0 q0 q1 q2 q3 cx0 cx1 cx2 cx3 cy0 cy1 cy2 cy3
  go_region_held3 (fun w' => w'.cell? ⟨w.heap.size, 0, none⟩ = some (.int .i64 3) ∧ w'.cell? ⟨w.heap.size, 1, none⟩ = some (.slice (some ⟨bx, ox, none⟩) 2 c) ∧ w'.cell? ⟨w.heap.size + 1, 1, none⟩ = some (.slice (some ⟨by', oy, none⟩) 2 c') ∧ w'.cell? ⟨bx, ox, none⟩ = some (.int .i64 x0.k) ∧ w'.cell? ⟨bx, ox + 1, none⟩ = some (.slice x0.a x0.l.length x0.c) ∧ w'.cell? ⟨bx, ox + 2, none⟩ = some (.int .i64 x1.k) ∧ w'.cell? ⟨bx, ox + 3, none⟩ = some (.slice x1.a x1.l.length x1.c) ∧ w'.cell? ⟨by', oy, none⟩ = some (.int .i64 y0.k) ∧ w'.cell? ⟨by', oy + 1, none⟩ = some (.slice y0.a y0.l.length y0.c) ∧ w'.cell? ⟨by', oy + 2, none⟩ = some (.int .i64 y1.k) ∧ w'.cell? ⟨by', oy + 3, none⟩ = some (.slice y1.a y1.l.length y1.c))
    (first
      | exact HK.out _ hbn
      | exact HK.out _ (hbn.alloc (by have := hbn.size; omega) _)
      | exact HK.out _ (((hbn.setCell (by simp) _).setCell (by simp) _).alloc (by have := hbn.size; simp [World.setCell]; omega) _)
      | go_keep)
    (first
      | (go_at_call 22; refine (H0.out _ (hbw0.trans (hbn.mono (by omega)))).mono ?_; rintro e w2 ⟨t0, rfl, ht0, hin0, hbl0, hb2⟩; replace r0 := cell_later hb2 r0; replace r1 := cell_later hb2 r1; replace r2 := (hb2.frozen (p := ⟨w.heap.size + 1 + 1, 0, none⟩) (by have := hbm.size; show w.heap.size + 1 + 1 < _; omega)).trans r2; replace r3 := (hb2.frozen (p := ⟨w.heap.size + 1 + 1, 1, none⟩) (by have := hbm.size; show w.heap.size + 1 + 1 < _; omega)).trans r3; replace hbn := hbn.trans (hb2.mono (by have := hbn.size; omega)); replace hbm := hbm.trans (hb2.mono (by have := hbm.size; omega)); clear H0)
      | (go_at_call 22; refine (H1.out _ (hbw0.trans (hbn.mono (by omega)))).mono ?_; rintro e w3 ⟨t1, rfl, ht1, hin1, hbl1, hb3⟩; replace r0 := cell_later hb3 r0; replace r1 := cell_later hb3 r1; replace r2 := (hb3.frozen (p := ⟨w.heap.size + 1 + 1, 0, none⟩) (by have := hbm.size; show w.heap.size + 1 + 1 < _; omega)).trans r2; replace r3 := (hb3.frozen (p := ⟨w.heap.size + 1 + 1, 1, none⟩) (by have := hbm.size; show w.heap.size + 1 + 1 < _; omega)).trans r3; replace hbn := hbn.trans (hb3.mono (by have := hbn.size; omega)); replace hbm := hbm.trans (hb3.mono (by have := hbm.size; omega)); clear H1; have hl3 : w.heap.size + 1 + 1 < w3.heap.size := World.block_lt_of_cell? _ _ r0; have hn3 : w.heap.size + 1 + 1 ≠ w3.heap.size := Nat.ne_of_lt hl3; have ra0 : ∀ Y, (w3.alloc Y).cell? ⟨w.heap.size + 1 + 1, 0, none⟩ = some (.int .i64 0) := fun Y => cell_later ((Below.refl _ _).alloc (Nat.le_refl _) Y) r0; have ra1 : ∀ Y, (w3.alloc Y).cell? ⟨w.heap.size + 1 + 1, 1, none⟩ = some (.slice none 0 0) := fun Y => cell_later ((Below.refl _ _).alloc (Nat.le_refl _) Y) r1))
  have HF : Hid (t0.ty = joinY x0.ty y0.ty ∧ t1.ty = joinY x1.ty y1.ty) := ⟨ht0, ht1⟩
  have HM := made_two (w := w) (W0 := W0) (w3 := w3) (N := w.heap.size + 1 + 1 + 1) (by omega) hbw0 hbm (by omega) (hin0.below hb3) hin1 (hbl0.mono fun b hb => Nat.le_trans (show _ ≤ W0.heap.size by omega) hb) (hbl1.mono fun b hb => Nat.le_trans (show _ ≤ W0.heap.size by omega) (Nat.le_trans (show W0.drew.heap.size ≤ _ from hb2.size) hb)) (.int .i64 3) (.slice (some ⟨w3.heap.size, 0, none⟩) 2 2) rfl
  have HMM : Hid _ := HM
  clear HM ht0 ht1 hin0 hin1 hbl0 hbl1
  go_wp2_with fail
  refine bodyPost_ret (v := .agg #[.int .i64 3, .slice (some ⟨w3.heap.size, 0, none⟩) 2 2]) ?_ rfl ⟨_, rfl, ?_, HMM.out.1, HMM.out.2.1, HMM.out.2.2⟩
  · have hc := set_cells (io := 0) (u := .int .i64 3) (v := .slice (some ⟨w3.heap.size, 0, none⟩) 2 2) r0 r1
    have hc0 := cell_later ((Below.refl _ _).alloc (Nat.le_refl _) (.cells #[.int .i64 t0.k, .slice t0.a t0.l.length t0.c, .int .i64 t1.k, .slice t1.a t1.l.length t1.c] 24)) hc.1
    have hc1 := cell_later ((Below.refl _ _).alloc (Nat.le_refl _) (.cells #[.int .i64 t0.k, .slice t0.a t0.l.length t0.c, .int .i64 t1.k, .slice t1.a t1.l.length t1.c] 24)) hc.2
    simp only [Nat.zero_add] at hc0 hc1
    simp [results, Try.results22, go_sem, hc0, hc1]
  · rw [Tr.ty_mk, ← HF.out.1, ← HF.out.2]
    rfl

/-- chaperoneref.JoinOf. -/
theorem joinOf_any (n : Nat) : ∀ (x y : Tr) (w : World), x.In w → y.In w → x.right → y.right → x.hgt ≤ n → Calls Try.prog 22 #[.agg #[.int .i64 x.k, .slice x.a x.l.length x.c], .agg #[.int .i64 y.k, .slice y.a y.l.length y.c]] w (Made (joinY x.ty y.ty) w) := by
  induction n with
  | zero =>
    intro x y w _ _ _ _ h
    have := x.hgt_pos
    omega
  | succ n ih =>
    intro x y w hx hy rx ry hh
    by_cases hk : x.k = y.k
    · rcases rx.cases with ⟨lx, kx⟩ | ⟨x0, x1, lx, kx, r0, r1⟩
      · rcases ry.cases with ⟨ly, ky⟩ | ⟨y0, y1, ly, ky, _, _⟩
        · have hl1 : x.l.length = 0 := by simp [lx]
          have hl2 : y.l.length = 0 := by simp [ly]
          rw [hl1, hl2, ← hk]
          refine (joinOf_leaf x.k x.a y.a x.c y.c w).mono ?_
          rintro e w' ⟨rfl, hb⟩
          refine ⟨leaf x.k, rfl, ?_, leaf_in _ _, leaf_bl _ _, hb⟩
          obtain ⟨k, a, c, l⟩ := x
          obtain ⟨k', a', c', l'⟩ := y
          dsimp only at lx ly hk
          subst lx ly hk
          simp [leaf, Tr.ty_mk, joinY_mk, joinL]
        · omega
      · rcases ry.cases with ⟨ly, ky⟩ | ⟨y0, y1, ly, ky, q0, q1⟩
        · omega
        · obtain ⟨bx, ox, ax, cx0, cx1, hx0⟩ := hx.part 0 (by simp [lx])
          obtain ⟨bx', ox', ax', cx2, cx3, hx1⟩ := hx.part 1 (by simp [lx])
          obtain ⟨by', oy, ay, cy0, cy1, hy0⟩ := hy.part 0 (by simp [ly])
          obtain ⟨by'', oy', ay', cy2, cy3, hy1⟩ := hy.part 1 (by simp [ly])
          have hg0 := Tr.hgt_part hh 0 (by simp [lx])
          have hg1 := Tr.hgt_part hh 1 (by simp [lx])
          rw [ax] at ax'
          rw [ay] at ay'
          obtain ⟨rfl, rfl⟩ : bx = bx' ∧ ox = ox' := by simpa using ax'
          obtain ⟨rfl, rfl⟩ : by' = by'' ∧ oy = oy' := by simpa using ay'
          simp only [lx, List.getElem_cons_zero, List.getElem_cons_succ] at cx0 cx1 cx2 cx3 hx0 hx1 hg0 hg1
          simp only [ly, List.getElem_cons_zero, List.getElem_cons_succ] at cy0 cy1 cy2 cy3 hy0 hy1
          have hl1 : x.l.length = 2 := by simp [lx]
          have hl2 : y.l.length = 2 := by simp [ly]
          rw [join_parts lx ly kx ky, ax, ay, hl1, hl2, kx, ky]
          exact joinOf_two bx ox by' oy x.c y.c x0 x1 y0 y1 w (by simpa using cx0) (by simpa using cx1) (by simpa using cx2) (by simpa using cx3) (by simpa using cy0) (by simpa using cy1) (by simpa using cy2) (by simpa using cy3)
            (fun W hb => ih x0 y0 W (hx0.below hb) (hy0.below hb) r0 q0 hg0) (fun W hb => ih x1 y1 W (hx1.below hb) (hy1.below hb) r1 q1 hg1)
    · refine (joinOf_diff x y (by simpa using hk) w).mono ?_
      rintro e w' ⟨rfl, hb⟩
      refine ⟨leaf 0, rfl, ?_, leaf_in _ _, leaf_bl _ _, hb⟩
      obtain ⟨k, a, c, l⟩ := x
      obtain ⟨k', a', c', l'⟩ := y
      dsimp only at hk
      simp [leaf, Tr.ty_mk, joinY_mk, if_neg hk]
end Go.Proofs.Ytaaplpcpifdnfaa
