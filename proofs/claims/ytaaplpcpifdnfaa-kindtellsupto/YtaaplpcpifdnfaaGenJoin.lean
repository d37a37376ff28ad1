/-
  What the call of kind.join makes of two right trees, and which pairs it puts off.
-/
import Derived.Test.YtaaplpcpifdnfaaGenTwo
import Derived.Deep.RegionHeld3
namespace Go.Proofs.Ytaaplpcpifdnfaa
open Go.RowKit

/-- What the call of join leaves. -/
def JPost (R B n : Nat) (x y : Tr) (ib io : Nat) (ps : List Pr) (o : Option Nat) (w : World) (e : Ending) (w' : World) : Prop :=
  e = .returned (.tuple #[]) ∧ ∃ qs o' D, JoinS R B n x y ib io ps o w qs o' D w'

set_option maxHeartbeats 400000 in
theorem join_zeroG (R B ib io : Nat) (x y : Tr) (ps : List Pr) (o : Option Nat) (w : World) (hp : JPre R B ib io ps o w) (hx : x.At B w) (hy : y.At B w) (rx : x.right) (ry : y.right) (hz : ps.length + x.sz ≤ 1000000000) :
    Calls Try.prog 36 #[.agg #[.int .i64 x.k, .slice x.a x.l.length x.c, .int .i64 y.k, .slice y.a y.l.length y.c, .pointer (some ⟨ib, io, none⟩)], .int .i64 0, .pointer (some ⟨R, 0, none⟩)] w (JPost R B 0 x y ib io ps o w) := by
  have hb0 : Below w.heap.size w (w.alloc (.cells #[.int .i64 x.k, .slice x.a x.l.length x.c, .int .i64 y.k, .slice y.a y.l.length y.c, .pointer (some ⟨ib, io, none⟩)] 41)) := (Below.refl _ _).alloc (Nat.le_refl _) _
  have HL : Hid (Lst R ps o (w.alloc (.cells #[.int .i64 x.k, .slice x.a x.l.length x.c, .int .i64 y.k, .slice y.a y.l.length y.c, .pointer (some ⟨ib, io, none⟩)] 41))) := hp.l.below hb0
  have hn : ps.length + 1 ≤ 1000000000 := by have := x.sz_pos; omega
  have HP : Hid (JPre R B ib io ps o w) := hp
  clear hp
  go_enter Try.func36, Try.ntmps36
  go_wp2_with fail
  refine (put_lst R ps o ⟨x, y, some ⟨ib, io, none⟩⟩ _ HL.out hn).mono ?_
  rintro e w1 ⟨rfl, o', h1, h2, h3⟩
  have HR : Hid (JoinS R B 0 x y ib io ps o w [⟨x, y, some ⟨ib, io, none⟩⟩] o' (Two ib io) w1) := JoinS.off HP.out hx hy rx ry hb0 h1 h2 h3
  clear h1 h2 h3 HL
  go_wp2_with fail
  exact bodyPost_ret (v := .tuple #[]) (by simp [results, Try.results36, go_sem]) rfl ⟨rfl, _, _, _, HR.out⟩

/-- The two parts while they are made: what was called so far. -/
def JG (R B n : Nat) (x0 x1 y0 y1 : Tr) (P : Nat) (ps : List Pr) (o : Option Nat) (W1 : World) (j : Nat) (wr : World) : Prop :=
  (j = 0 ∧ wr = W1) ∨ (j = 1 ∧ ∃ qs o1 D, JoinS R B n x0 y0 P 0 ps o W1.drew qs o1 D wr) ∨
  (j = 2 ∧ ∃ qs0 o1 D0 wa, JoinS R B n x0 y0 P 0 ps o W1.drew qs0 o1 D0 wa ∧ ∃ qs1 o2 D1, JoinS R B n x1 y1 P 2 (ps ++ qs0) o1 wa.drew qs1 o2 D1 wr)

theorem JG.keep {R B n : Nat} {x0 x1 y0 y1 : Tr} {P : Nat} {ps : List Pr} {o : Option Nat} {W1 : World} {j : Nat} {wr : World} (h : JG R B n x0 x1 y0 y1 P ps o W1 j wr) {k : Nat} (hk : k < W1.heap.size) (h1 : k ≠ R) (h2 : some k ≠ o) (h3 : k ≠ P) : wr.heap[k]? = W1.heap[k]? := by
  rcases h with ⟨_, rfl⟩ | ⟨_, qs, o1, D, h⟩ | ⟨_, qs0, o1, D0, wa, h, qs1, o2, D1, h'⟩
  · rfl
  · exact h.k.block k hk h1 h2 h3
  · have hs : W1.heap.size ≤ wa.heap.size := h.k.size
    exact (h'.k.block k (show k < wa.heap.size by omega) h1 (h.g.ne (w := W1.drew) hk h2) h3).trans (h.k.block k hk h1 h2 h3)

theorem JG.size {R B n : Nat} {x0 x1 y0 y1 : Tr} {P : Nat} {ps : List Pr} {o : Option Nat} {W1 : World} {j : Nat} {wr : World} (h : JG R B n x0 x1 y0 y1 P ps o W1 j wr) : W1.heap.size ≤ wr.heap.size := by
  rcases h with ⟨_, rfl⟩ | ⟨_, qs, o1, D, h⟩ | ⟨_, qs0, o1, D0, wa, h, qs1, o2, D1, h'⟩
  · exact Nat.le_refl _
  · exact h.k.size
  · exact Nat.le_trans h.k.size h'.k.size

/-- What is asked ahead of the second part's call. -/
theorem JoinS.pre {R B n : Nat} {x0 y0 : Tr} {P : Nat} {ps qs : List Pr} {o o1 : Option Nat} {D : Nat → Nat → Prop} {W1 wa : World} (h : JoinS R B n x0 y0 P 0 ps o W1.drew qs o1 D wa) (hp : JPre R B P 0 ps o W1) (z0 : W1.cell? ⟨P, 2, none⟩ = some (.int .i64 0)) (z1 : W1.cell? ⟨P, 3, none⟩ = some (.slice none 0 0)) (f0 : W1.frozen? ⟨P, 2, none⟩ = false) (f1 : W1.frozen? ⟨P, 3, none⟩ = false) :
    JPre R B P 2 (ps ++ qs) o1 wa.drew :=
  ⟨h.l.below ((Below.refl _ _).drew), (h.k.cell 2 (by omega) (by omega)).trans z0, (h.k.cell 3 (by omega) (by omega)).trans z1, (h.k.frozen 2).trans f0, (h.k.frozen 3).trans f1, hp.r, h.g.ne (w := W1.drew) hp.lt hp.o, hp.b, hp.c⟩

set_option maxHeartbeats 1000000 in
theorem join_funG (n : Nat) (hn : n ≤ 1000) (R B : Nat) (bx ox by' oy ib io : Nat) (x y x0 x1 y0 y1 : Tr) (ps : List Pr) (o : Option Nat) (w : World) (hp : JPre R B ib io ps o w)
    (HXY : Hid (x.l = [x0, x1] ∧ y.l = [y0, y1] ∧ x.k = 3 ∧ y.k = 3)) (lbx : bx < B) (lby : by' < B)
    (cx0 : w.cell? ⟨bx, ox, none⟩ = some (.int .i64 x0.k)) (cx1 : w.cell? ⟨bx, ox + 1, none⟩ = some (.slice x0.a x0.l.length x0.c)) (cx2 : w.cell? ⟨bx, ox + 2, none⟩ = some (.int .i64 x1.k)) (cx3 : w.cell? ⟨bx, ox + 3, none⟩ = some (.slice x1.a x1.l.length x1.c))
    (cy0 : w.cell? ⟨by', oy, none⟩ = some (.int .i64 y0.k)) (cy1 : w.cell? ⟨by', oy + 1, none⟩ = some (.slice y0.a y0.l.length y0.c)) (cy2 : w.cell? ⟨by', oy + 2, none⟩ = some (.int .i64 y1.k)) (cy3 : w.cell? ⟨by', oy + 3, none⟩ = some (.slice y1.a y1.l.length y1.c))
    (H0 : Hid (∀ (P : Nat) (W : World), JPre R B P 0 ps o W → Below w.heap.size w W → Calls Try.prog 36 #[.agg #[.int .i64 x0.k, .slice x0.a x0.l.length x0.c, .int .i64 y0.k, .slice y0.a y0.l.length y0.c, .pointer (some ⟨P, 0, none⟩)], .int .i64 (n : Int), .pointer (some ⟨R, 0, none⟩)] W (JPost R B n x0 y0 P 0 ps o W)))
    (H1 : Hid (∀ (P : Nat) (qs : List Pr) (o1 : Option Nat) (W : World), JPre R B P 2 (ps ++ qs) o1 W → Below B w W → szs qs ≤ x0.sz → Calls Try.prog 36 #[.agg #[.int .i64 x1.k, .slice x1.a x1.l.length x1.c, .int .i64 y1.k, .slice y1.a y1.l.length y1.c, .pointer (some ⟨P, 2, none⟩)], .int .i64 (n : Int), .pointer (some ⟨R, 0, none⟩)] W (JPost R B n x1 y1 P 2 (ps ++ qs) o1 W))) :
    Calls Try.prog 36 #[.agg #[.int .i64 3, .slice (some ⟨bx, ox, none⟩) 2 x.c, .int .i64 3, .slice (some ⟨by', oy, none⟩) 2 y.c, .pointer (some ⟨ib, io, none⟩)], .int .i64 ((n : Int) + 1), .pointer (some ⟨R, 0, none⟩)] w (JPost R B (n + 1) x y ib io ps o w) := by
  have hz : (((n : Int) + 1) == 0) = false := by simp; omega
  have lb := hp.lt
  have hRl := hp.l.lt
  have hRB := hp.c
  have hmk := make2
  have hwr : IntKind.i64.wrap (n : Int) = (n : Int) := by rw [IntKind.wrap_i64]; omega
  have HP : Hid (JPre R B ib io ps o w) := hp
  obtain ⟨W1, hW1⟩ : ∃ W1, W1 = (w.alloc (.cells #[.int .i64 3, .slice (some ⟨bx, ox, none⟩) 2 x.c, .int .i64 3, .slice (some ⟨by', oy, none⟩) 2 y.c, .pointer (some ⟨ib, io, none⟩)] 41)).alloc (.cells #[.int .i64 0, .slice none 0 0, .int .i64 0, .slice none 0 0] 24) := ⟨_, rfl⟩
  have hb1 : Below w.heap.size w W1 := by rw [hW1]; exact ((Below.refl _ _).alloc (Nat.le_refl _) _).alloc (by simp) _
  have hs1 : W1.heap.size = w.heap.size + 1 + 1 := by rw [hW1]; simp
  have B0 : Hid (W1.cell? ⟨w.heap.size, 0, none⟩ = some (.int .i64 3) ∧ W1.cell? ⟨w.heap.size, 1, none⟩ = some (.slice (some ⟨bx, ox, none⟩) 2 x.c) ∧ W1.cell? ⟨w.heap.size, 3, none⟩ = some (.slice (some ⟨by', oy, none⟩) 2 y.c) ∧ W1.cell? ⟨w.heap.size, 4, none⟩ = some (.pointer (some ⟨ib, io, none⟩))) := by
    rw [hW1]; exact ⟨by simp [go_sem], by simp [go_sem], by simp [go_sem], by simp [go_sem]⟩
  have PZ : Hid (W1.cell? ⟨w.heap.size + 1, 0, none⟩ = some (.int .i64 0) ∧ W1.cell? ⟨w.heap.size + 1, 0 + 1, none⟩ = some (.slice none 0 0) ∧ W1.cell? ⟨w.heap.size + 1, 2, none⟩ = some (.int .i64 0) ∧ W1.cell? ⟨w.heap.size + 1, 3, none⟩ = some (.slice none 0 0) ∧ ∀ c, W1.frozen? ⟨w.heap.size + 1, c, none⟩ = false) := by
    rw [hW1]; exact ⟨by simp [go_sem], by simp [go_sem], by simp [go_sem], by simp [go_sem], fun c => by simp [go_sem]⟩
  have hoP : some (w.heap.size + 1) ≠ o := fun e => by have := hp.l.own _ e.symm; omega
  have hoW : some w.heap.size ≠ o := fun e => by have := hp.l.own _ e.symm; omega
  have HJP : Hid (JPre R B (w.heap.size + 1) 0 ps o W1) := ⟨hp.l.below hb1, PZ.out.1, PZ.out.2.1, PZ.out.2.2.2.2 _, PZ.out.2.2.2.2 _, by omega, hoP, by omega, hRB⟩
  have hno : ∀ k, k < B → some k ≠ o := fun k hk e => by have := hp.l.own _ e.symm; omega
  have C0 : Hid (w.cell? ⟨ib, io, none⟩ = some (.int .i64 0) ∧ w.cell? ⟨ib, io + 1, none⟩ = some (.slice none 0 0) ∧ w.frozen? ⟨ib, io, none⟩ = false ∧ w.frozen? ⟨ib, io + 1, none⟩ = false) := ⟨hp.z0, hp.z1, hp.f0, hp.f1⟩
  have hpr := hp.r
  have hpo := hp.o
  clear hp
  go_enter Try.func36, Try.ntmps36
  go_wp2_with fail
  rw [← hW1]
  clear hW1
  go_loopg [32] 2 (fun k i wr => ∃ j : Nat, k + j = 2 ∧ i = .int .i64 (j : Int) ∧ Hid (JG R B n x0 x1 y0 y1 (w.heap.size + 1) ps o W1 j wr))
  case atStart => exact ⟨0, rfl, rfl, .inl ⟨rfl, rfl⟩⟩
  case round =>
    obtain ⟨j, hj, rfl, HJ⟩ := hrel
    have hsw : W1.heap.size ≤ wr.heap.size := HJ.out.size
    have hbk : wr.heap[w.heap.size]? = W1.heap[w.heap.size]? := HJ.out.keep (by omega) (by omega) hoW (by omega)
    have q0 : wr.cell? ⟨w.heap.size, 0, none⟩ = some (.int .i64 3) := (World.cell?_of_block (a := ⟨w.heap.size, 0, none⟩) hbk).trans B0.out.1
    have q1 : wr.cell? ⟨w.heap.size, 1, none⟩ = some (.slice (some ⟨bx, ox, none⟩) 2 x.c) := (World.cell?_of_block (a := ⟨w.heap.size, 1, none⟩) hbk).trans B0.out.2.1
    have q3 : wr.cell? ⟨w.heap.size, 3, none⟩ = some (.slice (some ⟨by', oy, none⟩) 2 y.c) := (World.cell?_of_block (a := ⟨w.heap.size, 3, none⟩) hbk).trans B0.out.2.2.1
    have q4 : wr.cell? ⟨w.heap.size, 4, none⟩ = some (.pointer (some ⟨ib, io, none⟩)) := (World.cell?_of_block (a := ⟨w.heap.size, 4, none⟩) hbk).trans B0.out.2.2.2
    have hkb : ∀ k, k < B → wr.heap[k]? = w.heap[k]? := fun k hk => (HJ.out.keep (k := k) (by omega) (by omega) (hno k hk) (by omega)).trans (hb1.block k (by omega))
    have hkx : ∀ c, wr.cell? ⟨bx, c, none⟩ = w.cell? ⟨bx, c, none⟩ := fun c => World.cell?_of_block (a := ⟨bx, c, none⟩) (hkb bx lbx)
    have hky : ∀ c, wr.cell? ⟨by', c, none⟩ = w.cell? ⟨by', c, none⟩ := fun c => World.cell?_of_block (a := ⟨by', c, none⟩) (hkb by' lby)
    replace cx0 := (hkx _).trans cx0
    replace cx1 := (hkx _).trans cx1
    replace cx2 := (hkx _).trans cx2
    replace cx3 := (hkx _).trans cx3
    replace cy0 := (hky _).trans cy0
    replace cy1 := (hky _).trans cy1
    replace cy2 := (hky _).trans cy2
    replace cy3 := (hky _).trans cy3
    clear hkx hky hkb
    obtain rfl | rfl | rfl : j = 0 ∨ j = 1 ∨ j = 2 := by omega
    · have hwW : wr = W1 := by
        rcases HJ.out with ⟨_, h⟩ | ⟨h, _⟩ | ⟨h, _⟩
        · exact h
        · omega
        · omega
      subst hwW
      have HC : Hid (Calls Try.prog 36 #[.agg #[.int .i64 x0.k, .slice x0.a x0.l.length x0.c, .int .i64 y0.k, .slice y0.a y0.l.length y0.c, .pointer (some ⟨w.heap.size + 1, 0, none⟩)], .int .i64 (n : Int), .pointer (some ⟨R, 0, none⟩)] wr.drew (JPost R B n x0 y0 (w.heap.size + 1) 0 ps o wr.drew)) := by
        refine H0.out _ _ ?_ hb1.drew
        have h := HJP.out
        exact ⟨h.l.below ((Below.refl _ _).drew), h.z0, h.z1, h.f0, h.f1, h.r, h.o, h.b, h.c⟩
      have HS : Hid (∀ w2 : World, KeptJ R o (w.heap.size + 1) 0 wr.drew w2 → (w2.cell? ⟨w.heap.size, 1, none⟩ = some (.slice (some ⟨bx, ox, none⟩) 2 x.c) ∧ w2.cell? ⟨w.heap.size, 3, none⟩ = some (.slice (some ⟨by', oy, none⟩) 2 y.c) ∧ w2.cell? ⟨bx, ox, none⟩ = some (.int .i64 x0.k) ∧ w2.cell? ⟨bx, ox + 1, none⟩ = some (.slice x0.a x0.l.length x0.c) ∧ w2.cell? ⟨by', oy, none⟩ = some (.int .i64 y0.k) ∧ w2.cell? ⟨by', oy + 1, none⟩ = some (.slice y0.a y0.l.length y0.c))) := by
        intro w2 hk2
        have t : ∀ k c, k < w.heap.size + 1 → k ≠ R → some k ≠ o → w2.cell? ⟨k, c, none⟩ = wr.cell? ⟨k, c, none⟩ := fun k c h1 h2 h3 => hk2.same (w := wr.drew) (show k < wr.heap.size by omega) h2 h3 (fun e => by omega)
        exact ⟨(t _ _ (by omega) (by omega) hoW).trans q1, (t _ _ (by omega) (by omega) hoW).trans q3, (t _ _ (by omega) (by omega) (hno _ lbx)).trans cx0, (t _ _ (by omega) (by omega) (hno _ lbx)).trans cx1, (t _ _ (by omega) (by omega) (hno _ lby)).trans cy0, (t _ _ (by omega) (by omega) (hno _ lby)).trans cy1⟩
      clear q0 q4 H0 H1 hbk
      go_wp2_with fail
      go_region_held3 (fun w' => w'.cell? ⟨w.heap.size, 1, none⟩ = some (.slice (some ⟨bx, ox, none⟩) 2 x.c) ∧ w'.cell? ⟨w.heap.size, 3, none⟩ = some (.slice (some ⟨by', oy, none⟩) 2 y.c) ∧ w'.cell? ⟨bx, ox, none⟩ = some (.int .i64 x0.k) ∧ w'.cell? ⟨bx, ox + 1, none⟩ = some (.slice x0.a x0.l.length x0.c) ∧ w'.cell? ⟨by', oy, none⟩ = some (.int .i64 y0.k) ∧ w'.cell? ⟨by', oy + 1, none⟩ = some (.slice y0.a y0.l.length y0.c))
        (first
          | exact HS.out _ hj2.k
          | go_keep)
        (first
          | (go_at_call 36; refine HC.out.mono ?_; rintro e w2 ⟨rfl, qs2, o2, D2, hj2⟩))
      have HJ2 : Hid (JG R B n x0 x1 y0 y1 (w.heap.size + 1) ps o wr 1 w2) := .inr (.inl ⟨rfl, _, _, _, hj2⟩)
      clear hj2
      go_wp2_with fail
      go_roundg 1
      case measure => omega
      case rel => exact ⟨1, rfl, rfl, HJ2⟩
    · obtain ⟨qs, o1, D, HQ⟩ : ∃ qs o1 D, Hid (JoinS R B n x0 y0 (w.heap.size + 1) 0 ps o W1.drew qs o1 D wr) := by
        rcases HJ.out with ⟨h, _⟩ | ⟨_, qs, o1, D, h⟩ | ⟨h, _⟩
        · omega
        · exact ⟨qs, o1, D, h⟩
        · omega
      have HC : Hid (Calls Try.prog 36 #[.agg #[.int .i64 x1.k, .slice x1.a x1.l.length x1.c, .int .i64 y1.k, .slice y1.a y1.l.length y1.c, .pointer (some ⟨w.heap.size + 1, 2, none⟩)], .int .i64 (n : Int), .pointer (some ⟨R, 0, none⟩)] wr.drew (JPost R B n x1 y1 (w.heap.size + 1) 2 (ps ++ qs) o1 wr.drew)) := by
        refine H1.out _ qs o1 _ (HQ.out.pre HJP.out PZ.out.2.2.1 PZ.out.2.2.2.1 (PZ.out.2.2.2.2 _) (PZ.out.2.2.2.2 _)) ?_ (by have := HQ.out.s; omega)
        have h1 : Below B W1.drew wr := HQ.out.k.low (HJP.out.l.below ((Below.refl _ _).drew)) hRB (by omega)
        exact (((hb1.mono (by omega)).drew).trans h1).drew
      have ho1 : ∀ k, k < W1.heap.size → some k ≠ o → some k ≠ o1 := fun k hk h => HQ.out.g.ne (w := W1.drew) hk h
      have HS : Hid (∀ w2 : World, KeptJ R o1 (w.heap.size + 1) 2 wr.drew w2 → (w2.cell? ⟨w.heap.size, 1, none⟩ = some (.slice (some ⟨bx, ox, none⟩) 2 x.c) ∧ w2.cell? ⟨w.heap.size, 3, none⟩ = some (.slice (some ⟨by', oy, none⟩) 2 y.c) ∧ w2.cell? ⟨bx, ox + 2, none⟩ = some (.int .i64 x1.k) ∧ w2.cell? ⟨bx, ox + 3, none⟩ = some (.slice x1.a x1.l.length x1.c) ∧ w2.cell? ⟨by', oy + 2, none⟩ = some (.int .i64 y1.k) ∧ w2.cell? ⟨by', oy + 3, none⟩ = some (.slice y1.a y1.l.length y1.c))) := by
        intro w2 hk2
        have t : ∀ k c, k < w.heap.size + 1 → k ≠ R → some k ≠ o → w2.cell? ⟨k, c, none⟩ = wr.cell? ⟨k, c, none⟩ := fun k c h1 h2 h3 => hk2.same (w := wr.drew) (show k < wr.heap.size by omega) h2 (ho1 k (by omega) h3) (fun e => by omega)
        exact ⟨(t _ _ (by omega) (by omega) hoW).trans q1, (t _ _ (by omega) (by omega) hoW).trans q3, (t _ _ (by omega) (by omega) (hno _ lbx)).trans cx2, (t _ _ (by omega) (by omega) (hno _ lbx)).trans cx3, (t _ _ (by omega) (by omega) (hno _ lby)).trans cy2, (t _ _ (by omega) (by omega) (hno _ lby)).trans cy3⟩
      clear q0 q4 H0 H1 hbk ho1
      go_wp2_with fail
      go_region_held3 (fun w' => w'.cell? ⟨w.heap.size, 1, none⟩ = some (.slice (some ⟨bx, ox, none⟩) 2 x.c) ∧ w'.cell? ⟨w.heap.size, 3, none⟩ = some (.slice (some ⟨by', oy, none⟩) 2 y.c) ∧ w'.cell? ⟨bx, ox + 2, none⟩ = some (.int .i64 x1.k) ∧ w'.cell? ⟨bx, ox + 3, none⟩ = some (.slice x1.a x1.l.length x1.c) ∧ w'.cell? ⟨by', oy + 2, none⟩ = some (.int .i64 y1.k) ∧ w'.cell? ⟨by', oy + 3, none⟩ = some (.slice y1.a y1.l.length y1.c))
        (first
          | exact HS.out _ hj2.k
          | go_keep)
        (first
          | (go_at_call 36; refine HC.out.mono ?_; rintro e w2 ⟨rfl, qs2, o2, D2, hj2⟩))
      have HJ2 : Hid (JG R B n x0 x1 y0 y1 (w.heap.size + 1) ps o W1 2 w2) := .inr (.inr ⟨rfl, _, _, _, _, HQ.out, _, _, _, hj2⟩)
      clear hj2
      go_wp2_with fail
      go_roundg 0
      case measure => omega
      case rel => exact ⟨2, rfl, rfl, HJ2⟩
    · have hbi : wr.heap[ib]? = w.heap[ib]? := (HJ.out.keep (by omega) hpr hpo (by omega)).trans (hb1.block ib lb)
      have zz0 := (World.cell?_of_block (a := ⟨ib, io, none⟩) hbi).trans C0.out.1
      have zz1 := (World.cell?_of_block (a := ⟨ib, io + 1, none⟩) hbi).trans C0.out.2.1
      have ff0 := (World.frozen?_of_block (a := ⟨ib, io, none⟩) hbi).trans C0.out.2.2.1
      have ff1 := (World.frozen?_of_block (a := ⟨ib, io + 1, none⟩) hbi).trans C0.out.2.2.2
      have HF : Hid (∃ qs o' D, JoinS R B (n + 1) x y ib io ps o w qs o' D ((wr.setCell ⟨ib, io, none⟩ (.int .i64 3)).setCell ⟨ib, io + 1, none⟩ (.slice (some ⟨w.heap.size + 1, 0, none⟩) 2 2))) := by
        rcases HJ.out with ⟨h, _⟩ | ⟨h, _⟩ | ⟨_, qs0, o1, D0, wa, h, qs1, o2, D1, h'⟩
        · omega
        · omega
        · exact ⟨_, _, _, JoinS.two HP.out HXY.out.1 HXY.out.2.1 HXY.out.2.2.1 HXY.out.2.2.2 hb1 (Nat.le_succ _) (by omega) h h'⟩
      clear hbi hbk H0 H1 cx0 cx1 cx2 cx3 cy0 cy1 cy2 cy3
      go_wp2_with fail
      go_end0
      exact ⟨rfl, HF.out⟩

/-- kind.join. -/
theorem join_anyG (R B : Nat) (n : Nat) : n ≤ 1000 → ∀ (x y : Tr) (ps : List Pr) (o : Option Nat) (ib io : Nat) (w : World), JPre R B ib io ps o w → x.At B w → y.At B w → x.right → y.right → ps.length + x.sz ≤ 1000000000 →
    Calls Try.prog 36 #[.agg #[.int .i64 x.k, .slice x.a x.l.length x.c, .int .i64 y.k, .slice y.a y.l.length y.c, .pointer (some ⟨ib, io, none⟩)], .int .i64 (n : Int), .pointer (some ⟨R, 0, none⟩)] w (JPost R B n x y ib io ps o w) := by
  induction n with
  | zero =>
    intro _ x y ps o ib io w hp hx hy rx ry hz
    exact join_zeroG R B ib io x y ps o w hp hx hy rx ry hz
  | succ n ih =>
    intro hn x y ps o ib io w hp hx hy rx ry hz
    have lb := hp.lt
    have e : ((n + 1 : Nat) : Int) = (n : Int) + 1 := by omega
    rw [e]
    by_cases hk : x.k = y.k
    · rcases rx.cases with ⟨lx, kx⟩ | ⟨x0, x1, lx, kx, r0, r1⟩
      · rcases ry.cases with ⟨ly, ky⟩ | ⟨y0, y1, ly, ky, _, _⟩
        · have hl1 : x.l.length = 0 := by simp [lx]
          have hl2 : y.l.length = 0 := by simp [ly]
          rw [hl1, hl2, ← hk]
          refine (join_leaf n (by omega) x.k x.a y.a _ x.c y.c ib io w hp.z0 hp.z1 hp.f0 hp.f1).mono ?_
          rintro e w' ⟨rfl, g, c0, c1, hw⟩
          refine ⟨rfl, _, _, _, JoinS.empty hp hw (.mk x.k (some ⟨g, 0, none⟩) 0 []) ?_ rfl c0 c1⟩
          obtain ⟨k, a, c, l⟩ := x
          obtain ⟨k', a', c', l'⟩ := y
          dsimp only at lx ly hk
          subst lx ly hk
          simp [Tr.ty_mk, joinY_mk, joinL]
        · omega
      · rcases ry.cases with ⟨ly, ky⟩ | ⟨y0, y1, ly, ky, q0, q1⟩
        · omega
        · obtain ⟨bx, ox, lbx, ax, cx0, cx1, hx0⟩ := hx.part 0 (by simp [lx])
          obtain ⟨bx', ox', _, ax', cx2, cx3, hx1⟩ := hx.part 1 (by simp [lx])
          obtain ⟨by', oy, lby, ay, cy0, cy1, hy0⟩ := hy.part 0 (by simp [ly])
          obtain ⟨by'', oy', _, ay', cy2, cy3, hy1⟩ := hy.part 1 (by simp [ly])
          rw [ax] at ax'
          rw [ay] at ay'
          obtain ⟨rfl, rfl⟩ : bx = bx' ∧ ox = ox' := by simpa using ax'
          obtain ⟨rfl, rfl⟩ : by' = by'' ∧ oy = oy' := by simpa using ay'
          simp only [lx, List.getElem_cons_zero, List.getElem_cons_succ] at cx0 cx1 cx2 cx3 hx0 hx1
          simp only [ly, List.getElem_cons_zero, List.getElem_cons_succ] at cy0 cy1 cy2 cy3 hy0 hy1
          have hsz := Tr.sz_two x x0 x1 lx
          have hBs : B ≤ w.heap.size := by have := hp.c; have := hp.l.lt; omega
          have hl1 : x.l.length = 2 := by simp [lx]
          have hl2 : y.l.length = 2 := by simp [ly]
          rw [ax, ay, hl1, hl2, kx, ky]
          refine join_funG n (by omega) R B bx ox by' oy ib io x y x0 x1 y0 y1 ps o w hp ⟨lx, ly, kx, ky⟩ lbx lby (by simpa using cx0) (by simpa using cx1) (by simpa using cx2) (by simpa using cx3) (by simpa using cy0) (by simpa using cy1) (by simpa using cy2) (by simpa using cy3)
            (fun P W h hb => ih (by omega) x0 y0 ps o P 0 W h (hx0.below (hb.mono hBs)) (hy0.below (hb.mono hBs)) r0 q0 (by omega))
            (fun P qs o1 W h hb hs => ih (by omega) x1 y1 (ps ++ qs) o1 P 2 W h (hx1.below hb) (hy1.below hb) r1 q1 ?_)
          have := szs_len qs
          rw [List.length_append]
          omega
    · refine (join_diff n (by omega) x.k y.k (by simpa using hk) x.a y.a (some ⟨ib, io, none⟩) _ x.l.length y.l.length x.c y.c w).mono ?_
      rintro e w' ⟨rfl, rfl⟩
      have hb : Below w.heap.size w (w.alloc (.cells #[.int .i64 x.k, .slice x.a x.l.length x.c, .int .i64 y.k, .slice y.a y.l.length y.c, .pointer (some ⟨ib, io, none⟩)] 41)) := (Below.refl _ _).alloc (Nat.le_refl _) _
      refine ⟨rfl, _, _, _, JoinS.empty hp (Wrote.of_below hb lb) (leaf 0) ?_ rfl (cell_later hb hp.z0) (cell_later hb hp.z1)⟩
      obtain ⟨k, a, c, l⟩ := x
      obtain ⟨k', a', c', l'⟩ := y
      dsimp only at hk
      simp [leaf, Tr.ty_mk, joinY_mk, if_neg hk]
end Go.Proofs.Ytaaplpcpifdnfaa
