/-
  What the call of kind.join makes of two right trees, and which pairs it puts off.
-/
import Derived.Test.YtnddkmccagiclaaLotce0d488055
import Derived.Deep.RegionHeld3
import Derived.Test.YtnddkmccagiclaaLotc66cf61471
import Derived.Deep.LoopGhost
namespace Go.Proofs.Ytnddkmccagiclaa
open Go.RowKit

/-- What the call of join leaves. -/
def JPost (R B n : Nat) (x y : Tr) (ib io : Nat) (ps : List Pr) (o : Option Nat) (w : World) (e : Ending) (w' : World) : Prop :=
  e = .returned (.tuple #[]) ∧ ∃ qs o' D, JoinS R B n x y ib io ps o w qs o' D w'

set_option maxHeartbeats 400000 in
theorem join_zeroG (R B ib io : Nat) (x y : Tr) (ps : List Pr) (o : Option Nat) (w : World) (hp : JPre R B ib io ps o w) (hx : x.At B w) (hy : y.At B w) (rx : x.right) (ry : y.right) (hz : ps.length + x.sz ≤ 1000000000) :
    Calls Try.prog 36 #[.agg #[.int .i64 x.k, .slice x.a x.l.length x.c, .int .i64 y.k, .slice y.a y.l.length y.c, .pointer (some ⟨ib, io, none⟩)], .int .i64 0, .pointer (some ⟨R, 0, none⟩)] w (JPost R B 0 x y ib io ps o w) := by
  have hb0 : Below w.heap.size w (w.alloc (.cells #[.int .i64 x.k, .slice x.a x.l.length x.c, .int .i64 y.k, .slice y.a y.l.length y.c, .pointer (some ⟨ib, io, none⟩)] 41)) := (Below.refl _ _).alloc (Nat.le_refl _) _
  have HL : Hid (Lst R ps o (w.alloc (.cells #[.int .i64 x.k, .slice x.a x.l.length x.c, .int .i64 y.k, .slice y.a y.l.length y.c, .pointer (some ⟨ib, io, none⟩)] 41))) := hp.l.below hb0
  have hn : ps.length + 1 ≤ 1000000000 := by have := x.sz_pos; omega
  have HP : Hid (JPre R B ib io ps o w) := hp
  clear hp
  go_enter Try.func36, Try.ntmps36
  go_wp2_with fail
  refine (put_lst R ps o ⟨x, y, some ⟨ib, io, none⟩⟩ _ HL.out hn).mono ?_
  rintro e w1 ⟨rfl, o', h1, h2, h3⟩
  have HR : Hid (JoinS R B 0 x y ib io ps o w [⟨x, y, some ⟨ib, io, none⟩⟩] o' (Two ib io) w1) := JoinS.off HP.out hx hy rx ry hb0 h1 h2 h3
  clear h1 h2 h3 HL
  go_wp2_with fail
  exact bodyPost_ret (v := .tuple #[]) (by simp [results, Try.results36, go_sem]) rfl ⟨rfl, _, _, _, HR.out⟩

/-- The two parts while they are made: what was called so far. -/
def JG (R B n : Nat) (x0 x1 y0 y1 : Tr) (P : Nat) (ps : List Pr) (o : Option Nat) (W1 : World) (j : Nat) (wr : World) : Prop :=
  (j = 0 ∧ wr = W1) ∨ (j = 1 ∧ ∃ qs o1 D, JoinS R B n x0 y0 P 0 ps o W1.drew qs o1 D wr) ∨
  (j = 2 ∧ ∃ qs0 o1 D0 wa, JoinS R B n x0 y0 P 0 ps o W1.drew qs0 o1 D0 wa ∧ ∃ qs1 o2 D1, JoinS R B n x1 y1 P 2 (ps ++ qs0) o1 wa.drew qs1 o2 D1 wr)

theorem JG.keep {R B n : Nat} {x0 x1 y0 y1 : Tr} {P : Nat} {ps : List Pr} {o : Option Nat} {W1 : World} {j : Nat} {wr : World} (h : JG R B n x0 x1 y0 y1 P ps o W1 j wr) {k : Nat} (hk : k < W1.heap.size) (h1 : k ≠ R) (h2 : some k ≠ o) (h3 : k ≠ P) : wr.heap[k]? = W1.heap[k]? := by
  rcases h with ⟨_, rfl⟩ | ⟨_, qs, o1, D, h⟩ | ⟨_, qs0, o1, D0, wa, h, qs1, o2, D1, h'⟩
  · rfl
  · exact h.k.block k hk h1 h2 h3
  · have hs : W1.heap.size ≤ wa.heap.size := h.k.size
    exact (h'.k.block k (show k < wa.heap.size by omega) h1 (h.g.ne (w := W1.drew) hk h2) h3).trans (h.k.block k hk h1 h2 h3)

theorem JG.size {R B n : Nat} {x0 x1 y0 y1 : Tr} {P : Nat} {ps : List Pr} {o : Option Nat} {W1 : World} {j : Nat} {wr : World} (h : JG R B n x0 x1 y0 y1 P ps o W1 j wr) : W1.heap.size ≤ wr.heap.size := by
  rcases h with ⟨_, rfl⟩ | ⟨_, qs, o1, D, h⟩ | ⟨_, qs0, o1, D0, wa, h, qs1, o2, D1, h'⟩
  · exact Nat.le_refl _
  · exact h.k.size
  · exact Nat.le_trans h.k.size h'.k.size

/-- What is asked ahead of the second part's call. -/
theorem JoinS.pre {R B n : Nat} {x0 y0 : Tr} {P : Nat} {ps qs : List Pr} {o o1 : Option Nat} {D : Nat → Nat → Prop} {W1 wa : World} (h : JoinS R B n x0 y0 P 0 ps o W1.drew qs o1 D wa) (hp : JPre R B P 0 ps o W1) (z0 : W1.cell? ⟨P, 2, none⟩ = some (.int .i64 0)) (z1 : W1.cell? ⟨P, 3, none⟩ = some (.slice none 0 0)) (f0 : W1.frozen? ⟨P, 2, none⟩ = false) (f1 : W1.frozen? ⟨P, 3, none⟩ = false) :
    JPre R B P 2 (ps ++ qs) o1 wa.drew :=
  ⟨h.l.below ((Below.refl _ _).drew), (h.k.cell 2 (by omega) (by omega)).trans z0, (h.k.cell 3 (by omega) (by omega)).trans z1, (h.k.frozen 2).trans f0, (h.k.frozen 3).trans f1, hp.r, h.g.ne (w := W1.drew) hp.lt hp.o, hp.b, hp.c⟩

set_option maxHeartbeats 1000000 in
theorem join_funG (n : Nat) (hn : n ≤ 1000) (R B : Nat) (bx ox by' oy ib io : Nat) (x y x0 x1 y0 y1 : Tr) (ps : List Pr) (o : Option Nat) (w : World) (hp : JPre R B ib io ps o w)
    (HXY : Hid (x.l = [x0, x1] ∧ y.l = [y0, y1] ∧ x.k = 3 ∧ y.k = 3)) (lbx : bx < B) (lby : by' < B)
    (cx0 : w.cell? ⟨bx, ox, none⟩ = some (.int .i64 x0.k)) (cx1 : w.cell? ⟨bx, ox + 1, none⟩ = some (.slice x0.a x0.l.length x0.c)) (cx2 : w.cell? ⟨bx, ox + 2, none⟩ = some (.int .i64 x1.k)) (cx3 : w.cell? ⟨bx, ox + 3, none⟩ = some (.slice x1.a x1.l.length x1.c))
    (cy0 : w.cell? ⟨by', oy, none⟩ = some (.int .i64 y0.k)) (cy1 : w.cell? ⟨by', oy + 1, none⟩ = some (.slice y0.a y0.l.length y0.c)) (cy2 : w.cell? ⟨by', oy + 2, none⟩ = some (.int .i64 y1.k)) (cy3 : w.cell? ⟨by', oy + 3, none⟩ = some (.slice y1.a y1.l.length y1.c))
    (H0 : Hid (∀ (P : Nat) (W : World), JPre R B P 0 ps o W → Below w.heap.size w W → Calls Try.prog 36 #[.agg #[.int .i64 x0.k, .slice x0.a x0.l.length x0.c, .int .i64 y0.k, .slice y0.a y0.l.length y0.c, .pointer (some ⟨P, 0, none⟩)], .int .i64 (n : Int), .pointer (some ⟨R, 0, none⟩)] W (JPost R B n x0 y0 P 0 ps o W)))
    (H1 : Hid (∀ (P : Nat) (qs : List Pr) (o1 : Option Nat) (W : World), JPre R B P 2 (ps ++ qs) o1 W → Below B w W → szs qs ≤ x0.sz → Calls Try.prog 36 #[.agg #[.int .i64 x1.k, .slice x1.a x1.l.length x1.c, .int .i64 y1.k, .slice y1.a y1.l.length y1.c, .pointer (some ⟨P, 2, none⟩)], .int .i64 (n : Int), .pointer (some ⟨R, 0, none⟩)] W (JPost R B n x1 y1 P 2 (ps ++ qs) o1 W))) :
    Calls Try.prog 36 #[.agg #[.int .i64 3, .slice (some ⟨bx, ox, none⟩) 2 x.c, .int .i64 3, .slice (some ⟨by', oy, none⟩) 2 y.c, .pointer (some ⟨ib, io, none⟩)], .int .i64 ((n : Int) + 1), .pointer (some ⟨R, 0, none⟩)] w (JPost R B (n + 1) x y ib io ps o w) := by
  have hz : (((n : Int) + 1) == 0) = false := by simp; omega
  have lb := hp.lt
  have hRl := hp.l.lt
  have hRB := hp.c
  have hmk := make2
  have hwr : IntKind.i64.wrap (n : Int) = (n : Int) := by rw [IntKind.wrap_i64]; omega
  have HP : Hid (JPre R B ib io ps o w) := hp
  obtain ⟨W1, hW1⟩ : ∃ W1, W1 = (w.alloc (.cells #[.int .i64 3, .slice (some ⟨bx, ox, none⟩) 2 x.c, .int .i64 3, .slice (some ⟨by', oy, none⟩) 2 y.c, .pointer (some ⟨ib, io, none⟩)] 41)).alloc (.cells #[.int .i64 0, .slice none 0 0, .int .i64 0, .slice none 0 0] 24) := ⟨_, rfl⟩
  have hb1 : Below w.heap.size w W1 := by rw [hW1]; exact ((Below.refl _ _).alloc (Nat.le_refl _) _).alloc (by simp) _
  have hs1 : W1.heap.size = w.heap.size + 1 + 1 := by rw [hW1]; simp
  have B0 : Hid (W1.cell? ⟨w.heap.size, 0, none⟩ = some (.int .i64 3) ∧ W1.cell? ⟨w.heap.size, 1, none⟩ = some (.slice (some ⟨bx, ox, none⟩) 2 x.c) ∧ W1.cell? ⟨w.heap.size, 3, none⟩ = some (.slice (some ⟨by', oy, none⟩) 2 y.c) ∧ W1.cell? ⟨w.heap.size, 4, none⟩ = some (.pointer (some ⟨ib, io, none⟩))) := by
    rw [hW1]; exact ⟨by simp [go_sem], by simp [go_sem], by simp [go_sem], by simp [go_sem]⟩
  have PZ : Hid (W1.cell? ⟨w.heap.size + 1, 0, none⟩ = some (.int .i64 0) ∧ W1.cell? ⟨w.heap.size + 1, 0 + 1, none⟩ = some (.slice none 0 0) ∧ W1.cell? ⟨w.heap.size + 1, 2, none⟩ = some (.int .i64 0) ∧ W1.cell? ⟨w.heap.size + 1, 3, none⟩ = some (.slice none 0 0) ∧ ∀ c, W1.frozen? ⟨w.heap.size + 1, c, none⟩ = false) := by
    rw [hW1]; exact ⟨by simp [go_sem], by simp [go_sem], by simp [go_sem], by simp [go_sem], fun c => by simp [go_sem]⟩
  have hoP : some (w.heap.size + 1) ≠ o := fun e => by have := hp.l.own _ e.symm; omega
  have hoW : some w.heap.size ≠ o := fun e => by have := hp.l.own _ e.symm; omega
  have HJP : Hid (JPre R B (w.heap.size + 1) 0 ps o W1) := ⟨hp.l.below hb1, PZ.out.1, PZ.out.2.1, PZ.out.2.2.2.2 _, PZ.out.2.2.2.2 _, by omega, hoP, by omega, hRB⟩
  have hno : ∀ k, k < B → some k ≠ o := fun k hk e => by have := hp.l.own _ e.symm; omega
  have C0 : Hid (w.cell? ⟨ib, io, none⟩ = some (.int .i64 0) ∧ w.cell? ⟨ib, io + 1, none⟩ = some (.slice none 0 0) ∧ w.frozen? ⟨ib, io, none⟩ = false ∧ w.frozen? ⟨ib, io + 1, none⟩ = false) := ⟨hp.z0, hp.z1, hp.f0, hp.f1⟩
  have hpr := hp.r
  have hpo := hp.o
  clear hp
  go_enter Try.func36, Try.ntmps36
  go_wp2_with fail
  rw [← hW1]
  clear hW1
  go_loopg [32] 2 (fun k i wr => ∃ j : Nat, k + j = 2 ∧ i = .int .i64 (j : Int) ∧ Hid (JG R B n x0 x1 y0 y1 (w.heap.size + 1) ps o W1 j wr))
  case atStart => exact ⟨0, rfl, rfl, .inl ⟨rfl, rfl⟩⟩
  case round =>
    obtain ⟨j, hj, rfl, HJ⟩ := hrel
    have hsw : W1.heap.size ≤ wr.heap.size := HJ.out.size
    have hbk : wr.heap[w.heap.size]? = W1.heap[w.heap.size]? := HJ.out.keep (by omega) (by omega) hoW (by omega)
    have q0 : wr.cell? ⟨w.heap.size, 0, none⟩ = some (.int .i64 3) := (World.cell?_of_block (a := ⟨w.heap.size, 0, none⟩) hbk).trans B0.out.1
    have q1 : wr.cell? ⟨w.heap.size, 1, none⟩ = some (.slice (some ⟨bx, ox, none⟩) 2 x.c) := (World.cell?_of_block (a := ⟨w.heap.size, 1, none⟩) hbk).trans B0.out.2.1
    have q3 : wr.cell? ⟨w.heap.size, 3, none⟩ = some (.slice (some ⟨by', oy, none⟩) 2 y.c) := (World.cell?_of_block (a := ⟨w.heap.size, 3, none⟩) hbk).trans B0.out.2.2.1
    have q4 : wr.cell? ⟨w.heap.size, 4, none⟩ = some (.pointer (some ⟨ib, io, none⟩)) := (World.cell?_of_block (a := ⟨w.heap.size, 4, none⟩) hbk).trans B0.out.2.2.2
    have hkb : ∀ k, k < B → wr.heap[k]? = w.heap[k]? := fun k hk => (HJ.out.keep (k := k) (by omega) (by omega) (hno k hk) (by omega)).trans (hb1.block k (by omega))
    have hkx : ∀ c, wr.cell? ⟨bx, c, none⟩ = w.cell? ⟨bx, c, none⟩ := fun c => World.cell?_of_block (a := ⟨bx, c, none⟩) (hkb bx lbx)
    have hky : ∀ c, wr.cell? ⟨by', c, none⟩ = w.cell? ⟨by', c, none⟩ := fun c => World.cell?_of_block (a := ⟨by', c, none⟩) (hkb by' lby)
    replace cx0 := (hkx _).trans cx0
    replace cx1 := (hkx _).trans cx1
    replace cx2 := (hkx _).trans cx2
    replace cx3 := (hkx _).trans cx3
    replace cy0 := (hky _).trans cy0
    replace cy1 := (hky _).trans cy1
    replace cy2 := (hky _).trans cy2
    replace cy3 := (hky _).trans cy3
    clear hkx hky hkb
    obtain rfl | rfl | rfl : j = 0 ∨ j = 1 ∨ j = 2 := by omega
    · have hwW : wr = W1 := by
        rcases HJ.out with ⟨_, h⟩ | ⟨h, _⟩ | ⟨h, _⟩
        · exact h
        · omega
        · omega
      subst hwW
      have HC : Hid (Calls Try.prog 36 #[.agg #[.int .i64 x0.k, .slice x0.a x0.l.length x0.c, .int .i64 y0.k, .slice y0.a y0.l.length y0.c, .pointer (some ⟨w.heap.size + 1, 0, none⟩)], .int .i64 (n : Int), .pointer (some ⟨R, 0, none⟩)] wr.drew (JPost R B n x0 y0 (w.heap.size + 1) 0 ps o wr.drew)) := by
        refine H0.out _ _ ?_ hb1.drew
        have h := HJP.out
        exact ⟨h.l.below ((Below.refl _ _).drew), h.z0, h.z1, h.f0, h.f1, h.r, h.o, h.b, h.c⟩
      have HS : Hid (∀ w2 : World, KeptJ R o (w.heap.size + 1) 0 wr.drew w2 → (w2.cell? ⟨w.heap.size, 1, none⟩ = some (.slice (some ⟨bx, ox, none⟩) 2 x.c) ∧ w2.cell? ⟨w.heap.size, 3, none⟩ = some (.slice (some ⟨by', oy, none⟩) 2 y.c) ∧ w2.cell? ⟨bx, ox, none⟩ = some (.int .i64 x0.k) ∧ w2.cell? ⟨bx, ox + 1, none⟩ = some (.slice x0.a x0.l.length x0.c) ∧ w2.cell? ⟨by', oy, none⟩ = some (.int .i64 y0.k) ∧ w2.cell? ⟨by', oy + 1, none⟩ = some (.slice y0.a y0.l.length y0.c))) := by
        intro w2 hk2
        have t : ∀ k c, k < w.heap.size + 1 → k ≠ R → some k ≠ o → w2.cell? ⟨k, c, none⟩ = wr.cell? ⟨k, c, none⟩ := fun k c h1 h2 h3 => hk2.same (w := wr.drew) (show k < wr.heap.size by omega) h2 h3 (fun e => by omega)
        exact ⟨(t _ _ (by omega) (by omega) hoW).trans q1, (t _ _ (by omega) (by omega) hoW).trans q3, (t _ _ (by omega) (by omega) (hno _ lbx)).trans cx0, (t _ _ (by omega) (by omega) (hno _ lbx)).trans cx1, (t _ _ (by omega) (by omega) (hno _ lby)).trans cy0, (t _ _ (by omega) (by omega) (hno _ lby)).trans cy1⟩
      clear q0 q4 H0 H1 hbk
      go_wp2_with fail
      go_region_held3 (fun w' => w'.cell? ⟨w.heap.size, 1, none⟩ = some (.slice (some ⟨bx, ox, none⟩) 2 x.c) ∧ w'.cell? ⟨w.heap.size, 3, none⟩ = some (.slice (some ⟨by', oy, none⟩) 2 y.c) ∧ w'.cell? ⟨bx, ox, none⟩ = some (.int .i64 x0.k) ∧ w'.cell? ⟨bx, ox + 1, none⟩ = some (.slice x0.a x0.l.length x0.c) ∧ w'.cell? ⟨by', oy, none⟩ = some (.int .i64 y0.k) ∧ w'.cell? ⟨by', oy + 1, none⟩ = some (.slice y0.a y0.l.length y0.c))
        (first
          | exact HS.out _ hj2.k
          | go_keep)
        (first
          | (go_at_call 36; refine HC.out.mono ?_; rintro e w2 ⟨rfl, qs2, o2, D2, hj2⟩))
      have HJ2 : Hid (JG R B n x0 x1 y0 y1 (w.heap.size + 1) ps o wr 1 w2) := .inr (.inl ⟨rfl, _, _, _, hj2⟩)
      clear hj2
      go_wp2_with fail
      go_roundg 1
      case measure => omega
      case rel => exact ⟨1, rfl, rfl, HJ2⟩
    · obtain ⟨qs, o1, D, HQ⟩ : ∃ qs o1 D, Hid (JoinS R B n x0 y0 (w.heap.size + 1) 0 ps o W1.drew qs o1 D wr) := by
        rcases HJ.out with ⟨h, _⟩ | ⟨_, qs, o1, D, h⟩ | ⟨h, _⟩
        · omega
        · exact ⟨qs, o1, D, h⟩
        · omega
      have HC : Hid (Calls Try.prog 36 #[.agg #[.int .i64 x1.k, .slice x1.a x1.l.length x1.c, .int .i64 y1.k, .slice y1.a y1.l.length y1.c, .pointer (some ⟨w.heap.size + 1, 2, none⟩)], .int .i64 (n : Int), .pointer (some ⟨R, 0, none⟩)] wr.drew (JPost R B n x1 y1 (w.heap.size + 1) 2 (ps ++ qs) o1 wr.drew)) := by
        refine H1.out _ qs o1 _ (HQ.out.pre HJP.out PZ.out.2.2.1 PZ.out.2.2.2.1 (PZ.out.2.2.2.2 _) (PZ.out.2.2.2.2 _)) ?_ (by have := HQ.out.s; omega)
        have h1 : Below B W1.drew wr := HQ.out.k.low (HJP.out.l.below ((Below.refl _ _).drew)) hRB (by omega)
        exact (((hb1.mono (by omega)).drew).trans h1).drew
      have ho1 : ∀ k, k < W1.heap.size → some k ≠ o → some k ≠ o1 := fun k hk h => HQ.out.g.ne (w := W1.drew) hk h
      have HS : Hid (∀ w2 : World, KeptJ R o1 (w.heap.size + 1) 2 wr.drew w2 → (w2.cell? ⟨w.heap.size, 1, none⟩ = some (.slice (some ⟨bx, ox, none⟩) 2 x.c) ∧ w2.cell? ⟨w.heap.size, 3, none⟩ = some (.slice (some ⟨by', oy, none⟩) 2 y.c) ∧ w2.cell? ⟨bx, ox + 2, none⟩ = some (.int .i64 x1.k) ∧ w2.cell? ⟨bx, ox + 3, none⟩ = some (.slice x1.a x1.l.length x1.c) ∧ w2.cell? ⟨by', oy + 2, none⟩ = some (.int .i64 y1.k) ∧ w2.cell? ⟨by', oy + 3, none⟩ = some (.slice y1.a y1.l.length y1.c))) := by
        intro w2 hk2
        have t : ∀ k c, k < w.heap.size + 1 → k ≠ R → some k ≠ o → w2.cell? ⟨k, c, none⟩ = wr.cell? ⟨k, c, none⟩ := fun k c h1 h2 h3 => hk2.same (w := wr.drew) (show k < wr.heap.size by omega) h2 (ho1 k (by omega) h3) (fun e => by omega)
        exact ⟨(t _ _ (by omega) (by omega) hoW).trans q1, (t _ _ (by omega) (by omega) hoW).trans q3, (t _ _ (by omega) (by omega) (hno _ lbx)).trans cx2, (t _ _ (by omega) (by omega) (hno _ lbx)).trans cx3, (t _ _ (by omega) (by omega) (hno _ lby)).trans cy2, (t _ _ (by omega) (by omega) (hno _ lby)).trans cy3⟩
      clear q0 q4 H0 H1 hbk ho1
      go_wp2_with fail
      go_region_held3 (fun w' => w'.cell? ⟨w.heap.size, 1, none⟩ = some (.slice (some ⟨bx, ox, none⟩) 2 x.c) ∧ w'.cell? ⟨w.heap.size, 3, none⟩ = some (.slice (some ⟨by', oy, none⟩) 2 y.c) ∧ w'.cell? ⟨bx, ox + 2, none⟩ = some (.int .i64 x1.k) ∧ w'.cell? ⟨bx, ox + 3, none⟩ = some (.slice x1.a x1.l.length x1.c) ∧ w'.cell? ⟨by', oy + 2, none⟩ = some (.int .i64 y1.k) ∧ w'.cell? ⟨by', oy + 3, none⟩ = some (.slice y1.a y1.l.length y1.c))
        (first
          | exact HS.out _ hj2.k
          | go_keep)
        (first
          | (go_at_call 36; refine HC.out.mono ?_; rintro e w2 ⟨rfl, qs2, o2, D2, hj2⟩))
      have HJ2 : Hid (JG R B n x0 x1 y0 y1 (w.heap.size + 1) ps o W1 2 w2) := .inr (.inr ⟨rfl, _, _, _, _, HQ.out, _, _, _, hj2⟩)
      clear hj2
      go_wp2_with fail
      go_roundg 0
      case measure => omega
      case rel => exact ⟨2, rfl, rfl, HJ2⟩
    · have hbi : wr.heap[ib]? = w.heap[ib]? := (HJ.out.keep (by omega) hpr hpo (by omega)).trans (hb1.block ib lb)
      have zz0 := (World.cell?_of_block (a := ⟨ib, io, none⟩) hbi).trans C0.out.1
      have zz1 := (World.cell?_of_block (a := ⟨ib, io + 1, none⟩) hbi).trans C0.out.2.1
      have ff0 := (World.frozen?_of_block (a := ⟨ib, io, none⟩) hbi).trans C0.out.2.2.1
      have ff1 := (World.frozen?_of_block (a := ⟨ib, io + 1, none⟩) hbi).trans C0.out.2.2.2
      have HF : Hid (∃ qs o' D, JoinS R B (n + 1) x y ib io ps o w qs o' D ((wr.setCell ⟨ib, io, none⟩ (.int .i64 3)).setCell ⟨ib, io + 1, none⟩ (.slice (some ⟨w.heap.size + 1, 0, none⟩) 2 2))) := by
        rcases HJ.out with ⟨h, _⟩ | ⟨h, _⟩ | ⟨_, qs0, o1, D0, wa, h, qs1, o2, D1, h'⟩
        · omega
        · omega
        · exact ⟨_, _, _, JoinS.two HP.out HXY.out.1 HXY.out.2.1 HXY.out.2.2.1 HXY.out.2.2.2 hb1 (Nat.le_succ _) (by omega) h h'⟩
      clear hbi hbk H0 H1 cx0 cx1 cx2 cx3 cy0 cy1 cy2 cy3
      go_wp2_with fail
      go_end0
      exact ⟨rfl, HF.out⟩

/-- kind.join. -/
theorem join_anyG (R B : Nat) (n : Nat) : n ≤ 1000 → ∀ (x y : Tr) (ps : List Pr) (o : Option Nat) (ib io : Nat) (w : World), JPre R B ib io ps o w → x.At B w → y.At B w → x.right → y.right → ps.length + x.sz ≤ 1000000000 →
    Calls Try.prog 36 #[.agg #[.int .i64 x.k, .slice x.a x.l.length x.c, .int .i64 y.k, .slice y.a y.l.length y.c, .pointer (some ⟨ib, io, none⟩)], .int .i64 (n : Int), .pointer (some ⟨R, 0, none⟩)] w (JPost R B n x y ib io ps o w) := by
  induction n with
  | zero =>
    intro _ x y ps o ib io w hp hx hy rx ry hz
    exact join_zeroG R B ib io x y ps o w hp hx hy rx ry hz
  | succ n ih =>
    intro hn x y ps o ib io w hp hx hy rx ry hz
    have lb := hp.lt
    have e : ((n + 1 : Nat) : Int) = (n : Int) + 1 := by omega
    rw [e]
    by_cases hk : x.k = y.k
    · rcases rx.cases with ⟨lx, kx⟩ | ⟨x0, x1, lx, kx, r0, r1⟩
      · rcases ry.cases with ⟨ly, ky⟩ | ⟨y0, y1, ly, ky, _, _⟩
        · have hl1 : x.l.length = 0 := by simp [lx]
          have hl2 : y.l.length = 0 := by simp [ly]
          rw [hl1, hl2, ← hk]
          refine (join_leaf n (by omega) x.k x.a y.a _ x.c y.c ib io w hp.z0 hp.z1 hp.f0 hp.f1).mono ?_
          rintro e w' ⟨rfl, g, c0, c1, hw⟩
          refine ⟨rfl, _, _, _, JoinS.empty hp hw (.mk x.k (some ⟨g, 0, none⟩) 0 []) ?_ rfl c0 c1⟩
          obtain ⟨k, a, c, l⟩ := x
          obtain ⟨k', a', c', l'⟩ := y
          dsimp only at lx ly hk
          subst lx ly hk
          simp [Tr.ty_mk, joinY_mk, joinL]
        · omega
      · rcases ry.cases with ⟨ly, ky⟩ | ⟨y0, y1, ly, ky, q0, q1⟩
        · omega
        · obtain ⟨bx, ox, lbx, ax, cx0, cx1, hx0⟩ := hx.part 0 (by simp [lx])
          obtain ⟨bx', ox', _, ax', cx2, cx3, hx1⟩ := hx.part 1 (by simp [lx])
          obtain ⟨by', oy, lby, ay, cy0, cy1, hy0⟩ := hy.part 0 (by simp [ly])
          obtain ⟨by'', oy', _, ay', cy2, cy3, hy1⟩ := hy.part 1 (by simp [ly])
          rw [ax] at ax'
          rw [ay] at ay'
          obtain ⟨rfl, rfl⟩ : bx = bx' ∧ ox = ox' := by simpa using ax'
          obtain ⟨rfl, rfl⟩ : by' = by'' ∧ oy = oy' := by simpa using ay'
          simp only [lx, List.getElem_cons_zero, List.getElem_cons_succ] at cx0 cx1 cx2 cx3 hx0 hx1
          simp only [ly, List.getElem_cons_zero, List.getElem_cons_succ] at cy0 cy1 cy2 cy3 hy0 hy1
          have hsz := Tr.sz_two x x0 x1 lx
          have hBs : B ≤ w.heap.size := by have := hp.c; have := hp.l.lt; omega
          have hl1 : x.l.length = 2 := by simp [lx]
          have hl2 : y.l.length = 2 := by simp [ly]
          rw [ax, ay, hl1, hl2, kx, ky]
          refine join_funG n (by omega) R B bx ox by' oy ib io x y x0 x1 y0 y1 ps o w hp ⟨lx, ly, kx, ky⟩ lbx lby (by simpa using cx0) (by simpa using cx1) (by simpa using cx2) (by simpa using cx3) (by simpa using cy0) (by simpa using cy1) (by simpa using cy2) (by simpa using cy3)
            (fun P W h hb => ih (by omega) x0 y0 ps o P 0 W h (hx0.below (hb.mono hBs)) (hy0.below (hb.mono hBs)) r0 q0 (by omega))
            (fun P qs o1 W h hb hs => ih (by omega) x1 y1 (ps ++ qs) o1 P 2 W h (hx1.below hb) (hy1.below hb) r1 q1 ?_)
          have := szs_len qs
          rw [List.length_append]
          omega
    · refine (join_diff n (by omega) x.k y.k (by simpa using hk) x.a y.a (some ⟨ib, io, none⟩) _ x.l.length y.l.length x.c y.c w).mono ?_
      rintro e w' ⟨rfl, rfl⟩
      have hb : Below w.heap.size w (w.alloc (.cells #[.int .i64 x.k, .slice x.a x.l.length x.c, .int .i64 y.k, .slice y.a y.l.length y.c, .pointer (some ⟨ib, io, none⟩)] 41)) := (Below.refl _ _).alloc (Nat.le_refl _) _
      refine ⟨rfl, _, _, _, JoinS.empty hp (Wrote.of_below hb lb) (leaf 0) ?_ rfl (cell_later hb hp.z0) (cell_later hb hp.z1)⟩
      obtain ⟨k, a, c, l⟩ := x
      obtain ⟨k', a', c', l'⟩ := y
      dsimp only at hk
      simp [leaf, Tr.ty_mk, joinY_mk, if_neg hk]
end Go.Proofs.Ytnddkmccagiclaa

/-
  What the call of kind.Join answers at two right trees of not too many nodes.
-/
namespace Go.Proofs.Ytnddkmccagiclaa
open Go.RowKit

theorem TodoJ.start {R B rb : Nat} {x y : Tr} {w W0 w1 : World} {o : Option Nat} (hR : rb < R) (hl : Lst R [⟨x, y, some ⟨rb, 0, none⟩⟩] o w1) (hz : x.sz ≤ 1000000000) (hx : x.At B w) (hy : y.At B w) (rx : x.right) (ry : y.right) (c0 : w1.cell? ⟨rb, 0, none⟩ = some (.int .i64 0)) (c1 : w1.cell? ⟨rb, 1, none⟩ = some (.slice none 0 0)) (f0 : w1.frozen? ⟨rb, 0, none⟩ = false) (f1 : w1.frozen? ⟨rb, 1, none⟩ = false) (hb : Below rb W0 w1) :
    TodoJ R B rb (joinY x.ty y.ty) w W0 x.sz [⟨x, y, some ⟨rb, 0, none⟩⟩] o (Two rb 0) w1 := by
  refine ⟨hl, szs_one _, hz, fun q hq => ?_, List.pairwise_singleton _ _, ?_, fun W _ hf => ?_, hb⟩
  · rcases List.mem_singleton.1 hq with rfl
    exact ⟨⟨hx, rx⟩, ⟨hy, ry⟩, rb, 0, rfl, ⟨rfl, .inl rfl⟩, ⟨rfl, .inr rfl⟩, c0, c1, f0, f1⟩
  · rintro k c ⟨rfl, _⟩
    have := hl.lt
    refine ⟨Nat.le_refl _, by omega, by omega, fun e => ?_⟩
    have := hl.own k e.symm
    omega
  · obtain ⟨b, i, e, h⟩ := hf _ (List.mem_singleton.2 rfl)
    cases e
    exact h

set_option maxHeartbeats 1000000 in
/-- kind.Join. -/
theorem join_wholeG (x y : Tr) (w : World) (hx : x.In w) (hy : y.In w) (rx : x.right) (ry : y.right) (hz : x.sz ≤ 100000000) :
    Calls Try.prog 21 #[.agg #[.int .i64 x.k, .slice x.a x.l.length x.c], .agg #[.int .i64 y.k, .slice y.a y.l.length y.c]] w fun e w' => ∃ t : Tr, e = .returned (.agg #[.int .i64 t.k, .slice t.a t.l.length t.c]) ∧ t.ty = joinY x.ty y.ty ∧ t.In w' ∧ Below w.heap.size w w' := by
  have HX : Hid (x.At w.heap.size w) := ⟨hx, hx.bl⟩
  have HY : Hid (y.At w.heap.size w) := ⟨hy, hy.bl⟩
  have HZ : Hid (x.sz ≤ 100000000) := hz
  have HRX : Hid x.right := rx
  have HRY : Hid y.right := ry
  obtain ⟨T, hT⟩ : ∃ T, T = joinY x.ty y.ty := ⟨_, rfl⟩
  have HTT : Hid (T = joinY x.ty y.ty) := hT
  clear hx hy hz rx ry hT
  go_enter Try.func21, Try.ntmps21
  go_wp2_with fail
  obtain ⟨W0, hW0⟩ : ∃ W0, W0 = (((w.alloc (Obj.cells #[.int .i64 x.k, .slice x.a x.l.length x.c] 24)).alloc (Obj.cells #[.int .i64 y.k, .slice y.a y.l.length y.c] 24)).alloc (Obj.cells #[.int .i64 0, .slice none 0 0] 24)) := ⟨_, rfl⟩
  have hs0 : W0.heap.size = w.heap.size + 1 + 1 + 1 := by rw [hW0]; simp
  have hbw0 : Below w.heap.size w W0 := by rw [hW0]; exact (((Below.refl _ _).alloc (Nat.le_refl _) _).alloc (by simp) _).alloc (by simp; omega) _
  have r0 : W0.cell? ⟨w.heap.size + 1 + 1, 0, none⟩ = some (.int .i64 0) := by rw [hW0]; simp [go_sem]
  have r1 : W0.cell? ⟨w.heap.size + 1 + 1, 1, none⟩ = some (.slice none 0 0) := by rw [hW0]; simp [go_sem]
  have r2 : ∀ o, W0.frozen? ⟨w.heap.size + 1 + 1, o, none⟩ = false := by intro o; rw [hW0]; simp [go_sem]
  rw [← hW0]
  clear hW0
  have u0 : ((W0.alloc (Obj.cells #[.int .i64 0, .slice none 0 0] 24)).alloc (Obj.cells #[.slice none 0 0] 37)).cell? ⟨w.heap.size + 1 + 1 + 1, 0, none⟩ = some (.int .i64 0) := by rw [← hs0]; simp [go_sem]
  have u1 : ((W0.alloc (Obj.cells #[.int .i64 0, .slice none 0 0] 24)).alloc (Obj.cells #[.slice none 0 0] 37)).cell? ⟨w.heap.size + 1 + 1 + 1, 1, none⟩ = some (.slice none 0 0) := by rw [← hs0]; simp [go_sem]
  have u2 : ∀ o, ((W0.alloc (Obj.cells #[.int .i64 0, .slice none 0 0] 24)).alloc (Obj.cells #[.slice none 0 0] 37)).frozen? ⟨w.heap.size + 1 + 1 + 1, o, none⟩ = false := by intro o; rw [← hs0]; simp [go_sem]
  refine (put_lst (w.heap.size + 1 + 1 + 1 + 1) [] none ⟨x, y, some ⟨w.heap.size + 1 + 1 + 1, 0, none⟩⟩ _ ⟨⟨.slice none 0 0, by rw [← hs0]; simp [go_sem], World.ownsRow_nil _ _ _ _, rfl⟩, by rw [← hs0]; simp [go_sem]⟩ (by simp)).mono ?_
  rintro e w1 ⟨rfl, o1, hl1, _, hk1⟩
  have hblk := hk1.below (r := w.heap.size + 1 + 1 + 1 + 1) (fun g e => by cases e) (by simp [hs0])
  have hb1 : Below (w.heap.size + 1 + 1 + 1) W0 w1 := by
    have h' : Below W0.heap.size W0 ((W0.alloc (Obj.cells #[.int .i64 0, .slice none 0 0] 24)).alloc (Obj.cells #[.slice none 0 0] 37)) := ((Below.refl _ _).alloc (Nat.le_refl _) _).alloc (by simp) _
    rw [hs0] at h'
    exact h'.trans (hblk.mono (by omega))
  have HO : Hid (TodoJ (w.heap.size + 1 + 1 + 1 + 1) w.heap.size (w.heap.size + 1 + 1 + 1) T w W0 x.sz [⟨x, y, some ⟨w.heap.size + 1 + 1 + 1, 0, none⟩⟩] o1 (Two (w.heap.size + 1 + 1 + 1) 0) w1) := by
    rw [HTT.out]
    exact TodoJ.start (by omega) hl1 (by have := HZ.out; omega) HX.out HY.out HRX.out HRY.out ((hblk.cell (p := ⟨w.heap.size + 1 + 1 + 1, 0, none⟩) (by simp)).trans u0) ((hblk.cell (p := ⟨w.heap.size + 1 + 1 + 1, 1, none⟩) (by simp)).trans u1) ((hblk.frozen (p := ⟨w.heap.size + 1 + 1 + 1, 0, none⟩) (by simp)).trans (u2 0)) ((hblk.frozen (p := ⟨w.heap.size + 1 + 1 + 1, 1, none⟩) (by simp)).trans (u2 1)) hb1
  clear hl1 hk1 u0 u1 u2 hblk hb1
  have HR0 : Hid (W0.cell? ⟨w.heap.size + 1 + 1, 0, none⟩ = some (.int .i64 0) ∧ W0.cell? ⟨w.heap.size + 1 + 1, 1, none⟩ = some (.slice none 0 0) ∧ ∀ o, W0.frozen? ⟨w.heap.size + 1 + 1, o, none⟩ = false) := ⟨r0, r1, r2⟩
  have HS0 : Hid (W0.heap.size = w.heap.size + 1 + 1 + 1) := hs0
  clear r0 r1 r2 hs0
  go_wp2_with fail
  go_loopg [] x.sz (fun k wr => ∃ qs o D, Hid (TodoJ (w.heap.size + 1 + 1 + 1 + 1) w.heap.size (w.heap.size + 1 + 1 + 1) T w W0 k qs o D wr))
  case atStart => exact ⟨_, _, _, HO⟩
  case round =>
    clear HO
    obtain ⟨qs, o, D, HT⟩ := hrel
    have hbwr : Below w.heap.size w wr := hbw0.trans (HT.out.b.mono (by omega))
    have hlr := HT.out.l.lt
    rcases List.eq_nil_or_concat qs with rfl | ⟨us, q, rfl⟩
    · go_wp2_with fail
      refine (empty_yes (w.heap.size + 1 + 1 + 1 + 1) o _ HT.out.l).mono ?_
      rintro e w' ⟨rfl, rfl⟩
      obtain ⟨t, ht, hin, hbl, t0, t1⟩ := HT.out.v w' (fun _ _ _ _ => rfl) (fun h hh => by cases hh)
      have v0 := (HT.out.b.cell (p := ⟨w.heap.size + 1 + 1, 0, none⟩) (by simp)).trans HR0.out.1
      have v1 := (HT.out.b.cell (p := ⟨w.heap.size + 1 + 1, 1, none⟩) (by simp)).trans HR0.out.2.1
      have v2 := (HT.out.b.frozen (p := ⟨w.heap.size + 1 + 1, 0, none⟩) (by simp)).trans (HR0.out.2.2 0)
      have v3 := (HT.out.b.frozen (p := ⟨w.heap.size + 1 + 1, 1, none⟩) (by simp)).trans (HR0.out.2.2 1)
      have HT2 : Hid (t.ty = joinY x.ty y.ty) := ht.trans HTT.out
      clear ht HT
      go_wp2_with fail
      refine bodyPost_ret (v := .agg #[.int .i64 t.k, .slice t.a t.l.length t.c]) ?_ rfl ⟨t, rfl, HT2.out, set_keeps hin (hbl.mono fun b hb => by omega), (hbwr.setCell (by simp; omega) _).setCell (by simp; omega) _⟩
      have hh := set_cells (u := .int .i64 t.k) (v := .slice t.a t.l.length t.c) v0 v1
      simp [results, Try.results21, go_sem, hh.1, hh.2]
    · rw [List.concat_eq_append] at HT
      go_wp2_with fail
      refine (empty_no (w.heap.size + 1 + 1 + 1 + 1) us q o _ HT.out.l).mono ?_
      rintro e w' ⟨rfl, rfl⟩
      have hus : us.length + q.x.sz ≤ 1000000000 := by
        have h1 := szs_len us
        have h2 := HT.out.s
        have h3 := HT.out.z
        rw [szs_append, szs_one] at h2
        omega
      go_wp2_with fail
      refine (take_lst (w.heap.size + 1 + 1 + 1 + 1) us q o _ HT.out.l (by omega)).mono ?_
      rintro e w2 ⟨rfl, hl2, hk2⟩
      obtain ⟨⟨ax, rx⟩, ⟨ay, ry⟩, b, i, hpe, d0, d1, c0, c1, f0, f1⟩ := HT.out.q q (by simp)
      have hlow : Below (w.heap.size + 1 + 1 + 1 + 1) w' w2 := hk2.below (fun g e => by cases e) (by omega)
      have hdb := HT.out.d _ _ d0
      have hblk := hk2.block b hdb.2.1 hdb.2.2.1 (by simp)
      have HP : Hid (JPre (w.heap.size + 1 + 1 + 1 + 1) w.heap.size b i us o w2) :=
        ⟨hl2, (World.cell?_of_block (a := ⟨b, i, none⟩) hblk).trans c0, (World.cell?_of_block (a := ⟨b, i + 1, none⟩) hblk).trans c1, (World.frozen?_of_block (a := ⟨b, i, none⟩) hblk).trans f0, (World.frozen?_of_block (a := ⟨b, i + 1, none⟩) hblk).trans f1, hdb.2.2.1, hdb.2.2.2, by omega, by omega⟩
      have hb2 : Below w.heap.size w w2 := hbwr.trans (hlow.mono (by omega))
      have HC : Hid (Calls Try.prog 36 #[.agg #[.int .i64 q.x.k, .slice q.x.a q.x.l.length q.x.c, .int .i64 q.y.k, .slice q.y.a q.y.l.length q.y.c, .pointer (some ⟨b, i, none⟩)], .int .i64 1000, .pointer (some ⟨w.heap.size + 1 + 1 + 1 + 1, 0, none⟩)] w2 (JPost (w.heap.size + 1 + 1 + 1 + 1) w.heap.size 1000 q.x q.y b i us o w2)) :=
        join_anyG _ _ 1000 (Nat.le_refl _) q.x q.y us o b i w2 HP.out (ax.below hb2) (ay.below hb2) rx ry hus
      have HK2 : Hid (Kept (w.heap.size + 1 + 1 + 1 + 1) none w' w2 ∧ Lst (w.heap.size + 1 + 1 + 1 + 1) us o w2 ∧ q.p = some ⟨b, i, none⟩) := ⟨hk2, hl2, hpe⟩
      rw [hpe]
      clear hl2 hk2 ax rx ay ry hpe d0 d1 c0 c1 f0 f1 hlow hdb hblk hb2 HP
      go_wp2_with fail
      refine HC.out.mono ?_
      rintro e w5 ⟨rfl, qs, o2, D2, hj5⟩
      have HF : Hid (TodoJ (w.heap.size + 1 + 1 + 1 + 1) w.heap.size (w.heap.size + 1 + 1 + 1) T w W0 (szs (us ++ qs)) (us ++ qs) o2 (fun k c => D k c ∨ D2 k c) w5 ∧ szs (us ++ qs) < gk) :=
        TodoJ.step (n := 999) HT.out (by omega) (by omega) hbw0 HK2.out.2.2 HK2.out.1 HK2.out.2.1 hj5
      clear hj5 HC HK2 HT
      go_wp2_with fail
      go_roundg (szs (us ++ qs))
      case measure => exact HF.out.2
      case rel => exact ⟨_, _, _, HF.out.1⟩
end Go.Proofs.Ytnddkmccagiclaa

/-
  What the call of chaperoneref.SameType answers at two trees that lie in memory.
-/
namespace Go.Proofs.Ytnddkmccagiclaa
open Go.RowKit

set_option maxHeartbeats 1000000 in
theorem sameType_step (n : Nat) (x y : Tr) (w : World) (hx : x.In w) (hy : y.In w) (hh : x.hgt ≤ n + 1) (hs : x.sm)
    (ih : Hid (∀ (x y : Tr) (w : World), x.In w → y.In w → x.hgt ≤ n → x.sm → Calls Try.prog 11 #[.agg #[.int .i64 x.k, .slice x.a x.l.length x.c], .agg #[.int .i64 y.k, .slice y.a y.l.length y.c]] w fun e w' => e = .returned (.bool (relY escSame x.ty y.ty)) ∧ Below w.heap.size w w')) :
    Calls Try.prog 11 #[.agg #[.int .i64 x.k, .slice x.a x.l.length x.c], .agg #[.int .i64 y.k, .slice y.a y.l.length y.c]] w fun e w' => e = .returned (.bool (relY escSame x.ty y.ty)) ∧ Below w.heap.size w w' := by
  have hlen := hs.len
  obtain ⟨tk, htk⟩ : ∃ b, (x.k == y.k) = b := ⟨_, rfl⟩
  obtain ⟨tl, htl⟩ : ∃ b, ((x.l.length : Int) == (y.l.length : Int)) = b := ⟨_, rfl⟩
  have HK : Hid ((x.k == y.k) = tk) := htk
  have HL : Hid (((x.l.length : Int) == (y.l.length : Int)) = tl) := htl
  have p1 : ((w.alloc (.cells #[.int .i64 x.k, .slice x.a x.l.length x.c] 24)).alloc (.cells #[.int .i64 y.k, .slice y.a y.l.length y.c] 24)).cell? ⟨w.heap.size, 1, none⟩ = some (.slice x.a x.l.length x.c) := by simp [go_sem]
  have p3 : ((w.alloc (.cells #[.int .i64 x.k, .slice x.a x.l.length x.c] 24)).alloc (.cells #[.int .i64 y.k, .slice y.a y.l.length y.c] 24)).cell? ⟨w.heap.size + 1, 1, none⟩ = some (.slice y.a y.l.length y.c) := by simp [go_sem]
  have HP : Hid (((w.alloc (.cells #[.int .i64 x.k, .slice x.a x.l.length x.c] 24)).alloc (.cells #[.int .i64 y.k, .slice y.a y.l.length y.c] 24)).cell? ⟨w.heap.size, 1, none⟩ = some (.slice x.a x.l.length x.c) ∧ ((w.alloc (.cells #[.int .i64 x.k, .slice x.a x.l.length x.c] 24)).alloc (.cells #[.int .i64 y.k, .slice y.a y.l.length y.c] 24)).cell? ⟨w.heap.size + 1, 1, none⟩ = some (.slice y.a y.l.length y.c)) := ⟨p1, p3⟩
  clear p1 p3
  have hb0 : Below w.heap.size w ((w.alloc (.cells #[.int .i64 x.k, .slice x.a x.l.length x.c] 24)).alloc (.cells #[.int .i64 y.k, .slice y.a y.l.length y.c] 24)) := ((Below.refl _ _).alloc (Nat.le_refl _) _).alloc (by simp) _
  cases tk
  · have HT : Hid ((x.k == y.k && (x.l.length : Int) == (y.l.length : Int)) = false) := by show _ = false; rw [HK.out]; rfl
    clear htl HL HK
    go_enter Try.func11, Try.ntmps11
    go_wp2_with fail
    go_loopw [5, 6] (fun b i wr => b = .bool false ∧ i = .int .i64 0 ∧ wr = ((w.alloc (.cells #[.int .i64 x.k, .slice x.a x.l.length x.c] 24)).alloc (.cells #[.int .i64 y.k, .slice y.a y.l.length y.c] 24))) (fun _ _ _ => 0)
    case atStart => exact ⟨rfl, rfl, rfl⟩
    case round =>
      obtain ⟨rfl, rfl, rfl⟩ := hrel
      go_wp2_with fail
      go_ret
      exact ⟨by rw [relY_top escSame x y rfl HT.out]; rfl, hb0⟩
  · cases tl
    · have HT : Hid ((x.k == y.k && (x.l.length : Int) == (y.l.length : Int)) = false) := by show _ = false; rw [HK.out, HL.out]; rfl
      clear HL HK
      go_enter Try.func11, Try.ntmps11
      go_wp2_with fail
      go_loopw [5, 6] (fun b i wr => b = .bool false ∧ i = .int .i64 0 ∧ wr = ((w.alloc (.cells #[.int .i64 x.k, .slice x.a x.l.length x.c] 24)).alloc (.cells #[.int .i64 y.k, .slice y.a y.l.length y.c] 24))) (fun _ _ _ => 0)
      case atStart => exact ⟨rfl, rfl, rfl⟩
      case round =>
        obtain ⟨rfl, rfl, rfl⟩ := hrel
        go_wp2_with fail
        go_ret
        exact ⟨by rw [relY_top escSame x y rfl HT.out]; rfl, hb0⟩
    · have hk : Hid (x.k = y.k) := by show x.k = y.k; have h := HK.out; simpa using h
      have hl : Hid (x.l.length = y.l.length) := by have h := HL.out; simp at h; exact Int.ofNat.inj h
      clear HL HK
      go_enter Try.func11, Try.ntmps11
      go_wp2_with fail
      clear htk htl
      go_loopg [5, 6] (x.l.length + 1) (fun g b i wr => ∃ (j : Nat) (c : Bool), j ≤ x.l.length ∧ g = (if c then x.l.length - j + 1 else 0) ∧ b = .bool c ∧ i = .int .i64 (j : Int) ∧ Below w.heap.size w wr ∧ wr.cell? ⟨w.heap.size, 1, none⟩ = some (.slice x.a x.l.length x.c) ∧ wr.cell? ⟨w.heap.size + 1, 1, none⟩ = some (.slice y.a y.l.length y.c) ∧
        Hid (c = true → ∀ q (h : q < x.l.length) (h' : q < y.l.length), q < j → relY escSame x.l[q].ty y.l[q].ty = true) ∧ Hid (c = false → relY escSame x.ty y.ty = false))
      case atStart => exact ⟨0, true, Nat.zero_le _, rfl, rfl, rfl, hb0, HP.out.1, HP.out.2, fun _ q _ _ h => absurd h (by omega), fun h => by cases h⟩
      case round =>
        obtain ⟨j, c, hj, hg, rfl, rfl, hbwr, p1, p3, HA, HB⟩ := hrel
        cases c
        · have HB1 : Hid (relY escSame x.ty y.ty = false) := HB.out rfl
          clear HA HB hg
          go_wp2_with fail
          go_ret
          exact ⟨by rw [HB1.out]; rfl, hbwr⟩
        · have HA1 : Hid (∀ q (h : q < x.l.length) (h' : q < y.l.length), q < j → relY escSame x.l[q].ty y.l[q].ty = true) := HA.out rfl
          clear HA HB
          by_cases hlt : j < x.l.length
          · have hlt' : j < y.l.length := hl.out ▸ hlt
            obtain ⟨b, o, ea, x0, x1, hxj⟩ := hx.part j hlt
            obtain ⟨b', o', eb, y0, y1, hyj⟩ := hy.part j hlt'
            have q1 : wr.cell? ⟨w.heap.size, 1, none⟩ = some (.slice (some ⟨b, o, none⟩) x.l.length x.c) := by rw [← ea]; exact p1
            have q3 : wr.cell? ⟨w.heap.size + 1, 1, none⟩ = some (.slice (some ⟨b', o', none⟩) y.l.length y.c) := by rw [← eb]; exact p3
            have HPP : Hid (wr.cell? ⟨w.heap.size, 1, none⟩ = some (.slice x.a x.l.length x.c) ∧ wr.cell? ⟨w.heap.size + 1, 1, none⟩ = some (.slice y.a y.l.length y.c)) := ⟨p1, p3⟩
            replace x0 := cell_later hbwr x0
            replace x1 := cell_later hbwr x1
            replace y0 := cell_later hbwr y0
            replace y1 := cell_later hbwr y1
            have i1 : (j : Int) < (x.l.length : Int) := by omega
            have i2 : (j : Int) < (y.l.length : Int) := by omega
            have i0 : (0 : Int) ≤ (j : Int) := by omega
            obtain ⟨r, hr⟩ : ∃ r, relY escSame x.l[j].ty y.l[j].ty = r := ⟨_, rfl⟩
            have HC : Hid (∀ (w : World), x.l[j].In w → y.l[j].In w → Calls Try.prog 11 #[.agg #[.int .i64 x.l[j].k, .slice x.l[j].a x.l[j].l.length x.l[j].c], .agg #[.int .i64 y.l[j].k, .slice y.l[j].a y.l[j].l.length y.l[j].c]] w fun e w' => e = .returned (.bool r) ∧ Below w.heap.size w w') := by
              intro w h1 h2
              have := ih.out x.l[j] y.l[j] w h1 h2 (Tr.hgt_part hh j hlt) (hs.part j hlt)
              rw [hr] at this
              exact this
            have HR : Hid (relY escSame x.l[j].ty y.l[j].ty = r) := hr
            have HG : Hid (gk = if true then x.l.length - j + 1 else 0) := hg
            clear hr p1 p3 ea eb hx hy hg
            go_wp2_with fail
            go_region_held3 (fun w' => w'.cell? ⟨w.heap.size, 1, none⟩ = some (.slice (some ⟨b, o, none⟩) x.l.length x.c) ∧ w'.cell? ⟨w.heap.size + 1, 1, none⟩ = some (.slice (some ⟨b', o', none⟩) y.l.length y.c) ∧ w'.cell? ⟨b, o + j * 2, none⟩ = some (.int .i64 x.l[j].k) ∧ w'.cell? ⟨b, o + j * 2 + 1, none⟩ = some (.slice x.l[j].a x.l[j].l.length x.l[j].c) ∧ w'.cell? ⟨b', o' + j * 2, none⟩ = some (.int .i64 y.l[j].k) ∧ w'.cell? ⟨b', o' + j * 2 + 1, none⟩ = some (.slice y.l[j].a y.l[j].l.length y.l[j].c))
              (first | exact ⟨cell_later hb2 q1, cell_later hb2 q3, cell_later hb2 x0, cell_later hb2 x1, cell_later hb2 y0, cell_later hb2 y1⟩ | go_keep)
              (first | (go_at_call 11; refine (HC.out _ (hxj.below hbwr.drew) (hyj.below hbwr.drew)).mono ?_; rintro e w2 ⟨rfl, hb2⟩))
            have hbr2 : Below w.heap.size w w2 := hbwr.drew.trans (hb2.mono hbwr.size)
            have s1 := cell_later hb2 HPP.out.1
            have s3 := cell_later hb2 HPP.out.2
            clear hb2 q1 q3 x0 x1 y0 y1 HC HPP
            go_wp2_with fail
            go_roundg (if r then x.l.length - (j + 1) + 1 else 0)
            case measure => rw [HG.out]; cases r <;> simp <;> omega
            case rel =>
              refine ⟨j + 1, r, by omega, rfl, rfl, by go_num, hbr2, s1, s3, fun h q h1 h2 hq => ?_, fun h => ?_⟩
              · by_cases e : q = j
                · subst e; rw [HR.out, h]
                · exact HA1.out q h1 h2 (by omega)
              · exact relY_part_not escSame x y rfl j hlt hlt' (by rw [HR.out, h])
          · go_wp2_with fail
            go_ret
            refine ⟨?_, hbwr⟩
            rw [relY_parts escSame x y hk.out hl.out fun q h h' => HA1.out q h h' (by omega)]
            rfl

/-- chaperoneref.SameType. -/
theorem sameType_any (n : Nat) : ∀ (x y : Tr) (w : World), x.In w → y.In w → x.hgt ≤ n → x.sm → Calls Try.prog 11 #[.agg #[.int .i64 x.k, .slice x.a x.l.length x.c], .agg #[.int .i64 y.k, .slice y.a y.l.length y.c]] w fun e w' => e = .returned (.bool (relY escSame x.ty y.ty)) ∧ Below w.heap.size w w' := by
  induction n with
  | zero =>
    intro x y w _ _ h
    have := x.hgt_pos
    omega
  | succ n ih =>
    intro x y w hx hy h hs
    exact sameType_step n x y w hx hy h hs (fun x y w hx hy h hs => ih x y w hx hy h hs)
end Go.Proofs.Ytnddkmccagiclaa

/-
  What the call of chaperoneref.FinerOf answers at two trees that lie in memory.
-/
namespace Go.Proofs.Ytnddkmccagiclaa
open Go.RowKit

/-- One kind, and parts that go together. -/
def coreY (esc : Int → Int → Bool) (x y : Tr) : Bool := x.k == y.k && relL esc (x.l.map Tr.ty) (y.l.map Tr.ty)

theorem relY_core (esc : Int → Int → Bool) (x y : Tr) : relY esc x.ty y.ty = (esc x.k y.k || coreY esc x y) := by
  obtain ⟨k, a, c, l⟩ := x
  obtain ⟨k', a', c', l'⟩ := y
  rw [Tr.ty_mk, Tr.ty_mk, relY_mk]
  rfl

theorem core_top (esc : Int → Int → Bool) (x y : Tr) (ht : (x.k == y.k && (x.l.length : Int) == (y.l.length : Int)) = false) : coreY esc x y = false := by
  unfold coreY
  by_cases hk : (x.k == y.k) = true
  · rw [hk, Bool.true_and] at ht
    rw [hk, Bool.true_and]
    cases hr : relL esc (x.l.map Tr.ty) (y.l.map Tr.ty) with
    | false => rfl
    | true =>
      have := relL_len esc _ _ hr
      rw [List.length_map, List.length_map] at this
      rw [this] at ht
      simp at ht
  · have : (x.k == y.k) = false := by simpa using hk
    rw [this, Bool.false_and]

theorem core_part_not (esc : Int → Int → Bool) (x y : Tr) (j : Nat) (h : j < x.l.length) (h' : j < y.l.length) (hr : relY esc x.l[j].ty y.l[j].ty = false) : coreY esc x y = false := by
  unfold coreY
  rw [relL_not esc (x.l.map Tr.ty) (y.l.map Tr.ty) j (by simpa using h) (by simpa using h') (by simpa using hr), Bool.and_false]

theorem core_parts (esc : Int → Int → Bool) (x y : Tr) (hk : x.k = y.k) (hl : x.l.length = y.l.length) (hr : ∀ q (h : q < x.l.length) (h' : q < y.l.length), relY esc x.l[q].ty y.l[q].ty = true) : coreY esc x y = true := by
  unfold coreY
  rw [relL_all esc (x.l.map Tr.ty) (y.l.map Tr.ty) (by simpa using hl) fun j h h' => by simpa using hr j (by simpa using h) (by simpa using h')]
  simp [hk]

set_option maxHeartbeats 1000000 in
theorem finerOf_step (n : Nat) (x y : Tr) (w : World) (hx : x.In w) (hy : y.In w) (hh : x.hgt ≤ n + 1) (hs : x.sm)
    (ih : Hid (∀ (x y : Tr) (w : World), x.In w → y.In w → x.hgt ≤ n → x.sm → Calls Try.prog 20 #[.agg #[.int .i64 x.k, .slice x.a x.l.length x.c], .agg #[.int .i64 y.k, .slice y.a y.l.length y.c]] w fun e w' => e = .returned (.bool (relY escFiner x.ty y.ty)) ∧ Below w.heap.size w w')) :
    Calls Try.prog 20 #[.agg #[.int .i64 x.k, .slice x.a x.l.length x.c], .agg #[.int .i64 y.k, .slice y.a y.l.length y.c]] w fun e w' => e = .returned (.bool (relY escFiner x.ty y.ty)) ∧ Below w.heap.size w w' := by
  have hlen := hs.len
  obtain ⟨tk, htk⟩ : ∃ b, (x.k == y.k) = b := ⟨_, rfl⟩
  obtain ⟨tl, htl⟩ : ∃ b, ((x.l.length : Int) == (y.l.length : Int)) = b := ⟨_, rfl⟩
  have HK : Hid ((x.k == y.k) = tk) := htk
  have HL : Hid (((x.l.length : Int) == (y.l.length : Int)) = tl) := htl
  have p1 : ((w.alloc (.cells #[.int .i64 x.k, .slice x.a x.l.length x.c] 24)).alloc (.cells #[.int .i64 y.k, .slice y.a y.l.length y.c] 24)).cell? ⟨w.heap.size, 1, none⟩ = some (.slice x.a x.l.length x.c) := by simp [go_sem]
  have p3 : ((w.alloc (.cells #[.int .i64 x.k, .slice x.a x.l.length x.c] 24)).alloc (.cells #[.int .i64 y.k, .slice y.a y.l.length y.c] 24)).cell? ⟨w.heap.size + 1, 1, none⟩ = some (.slice y.a y.l.length y.c) := by simp [go_sem]
  have HP : Hid (((w.alloc (.cells #[.int .i64 x.k, .slice x.a x.l.length x.c] 24)).alloc (.cells #[.int .i64 y.k, .slice y.a y.l.length y.c] 24)).cell? ⟨w.heap.size, 1, none⟩ = some (.slice x.a x.l.length x.c) ∧ ((w.alloc (.cells #[.int .i64 x.k, .slice x.a x.l.length x.c] 24)).alloc (.cells #[.int .i64 y.k, .slice y.a y.l.length y.c] 24)).cell? ⟨w.heap.size + 1, 1, none⟩ = some (.slice y.a y.l.length y.c)) := ⟨p1, p3⟩
  have P0 : Hid (((w.alloc (.cells #[.int .i64 x.k, .slice x.a x.l.length x.c] 24)).alloc (.cells #[.int .i64 y.k, .slice y.a y.l.length y.c] 24)).cell? ⟨w.heap.size + 1, 0, none⟩ = some (.int .i64 y.k)) := by show _ = _; simp [go_sem]
  clear p1 p3
  have hb0 : Below w.heap.size w ((w.alloc (.cells #[.int .i64 x.k, .slice x.a x.l.length x.c] 24)).alloc (.cells #[.int .i64 y.k, .slice y.a y.l.length y.c] 24)) := ((Below.refl _ _).alloc (Nat.le_refl _) _).alloc (by simp) _
  cases tk
  · have HT : Hid ((x.k == y.k && (x.l.length : Int) == (y.l.length : Int)) = false) := by show _ = false; rw [HK.out]; rfl
    clear htl HL HK
    go_enter Try.func20, Try.ntmps20
    go_wp2_with fail
    go_loopw [5, 6] (fun b i wr => b = .bool false ∧ i = .int .i64 0 ∧ wr = ((w.alloc (.cells #[.int .i64 x.k, .slice x.a x.l.length x.c] 24)).alloc (.cells #[.int .i64 y.k, .slice y.a y.l.length y.c] 24))) (fun _ _ _ => 0)
    case atStart => exact ⟨rfl, rfl, rfl⟩
    case round =>
      obtain ⟨rfl, rfl, rfl⟩ := hrel
      go_wp2_with fail
      go_ret
      exact ⟨by rw [relY_core, core_top escFiner x y HT.out, Bool.or_false]; rfl, hb0⟩
  · cases tl
    · have HT : Hid ((x.k == y.k && (x.l.length : Int) == (y.l.length : Int)) = false) := by show _ = false; rw [HK.out, HL.out]; rfl
      clear HL HK
      go_enter Try.func20, Try.ntmps20
      go_wp2_with fail
      go_loopw [5, 6] (fun b i wr => b = .bool false ∧ i = .int .i64 0 ∧ wr = ((w.alloc (.cells #[.int .i64 x.k, .slice x.a x.l.length x.c] 24)).alloc (.cells #[.int .i64 y.k, .slice y.a y.l.length y.c] 24))) (fun _ _ _ => 0)
      case atStart => exact ⟨rfl, rfl, rfl⟩
      case round =>
        obtain ⟨rfl, rfl, rfl⟩ := hrel
        go_wp2_with fail
        go_ret
        exact ⟨by rw [relY_core, core_top escFiner x y HT.out, Bool.or_false]; rfl, hb0⟩
    · have hk : Hid (x.k = y.k) := by show x.k = y.k; have h := HK.out; simpa using h
      have hl : Hid (x.l.length = y.l.length) := by have h := HL.out; simp at h; exact Int.ofNat.inj h
      clear HL HK
      go_enter Try.func20, Try.ntmps20
      go_wp2_with fail
      clear htk htl
      go_loopg [5, 6] (x.l.length + 1) (fun g b i wr => ∃ (j : Nat) (c : Bool), j ≤ x.l.length ∧ g = (if c then x.l.length - j + 1 else 0) ∧ b = .bool c ∧ i = .int .i64 (j : Int) ∧ Below w.heap.size w wr ∧ wr.cell? ⟨w.heap.size, 1, none⟩ = some (.slice x.a x.l.length x.c) ∧ wr.cell? ⟨w.heap.size + 1, 1, none⟩ = some (.slice y.a y.l.length y.c) ∧ wr.cell? ⟨w.heap.size + 1, 0, none⟩ = some (.int .i64 y.k) ∧
        Hid (c = true → ∀ q (h : q < x.l.length) (h' : q < y.l.length), q < j → relY escFiner x.l[q].ty y.l[q].ty = true) ∧ Hid (c = false → coreY escFiner x y = false))
      case atStart => exact ⟨0, true, Nat.zero_le _, rfl, rfl, rfl, hb0, HP.out.1, HP.out.2, P0.out, fun _ q _ _ h => absurd h (by omega), fun h => by cases h⟩
      case round =>
        obtain ⟨j, c, hj, hg, rfl, rfl, hbwr, p1, p3, p0, HA, HB⟩ := hrel
        cases c
        · have HB1 : Hid (coreY escFiner x y = false) := HB.out rfl
          clear HA HB hg
          go_wp2_with fail
          go_ret
          exact ⟨by rw [relY_core, HB1.out, Bool.or_false]; rfl, hbwr⟩
        · have HA1 : Hid (∀ q (h : q < x.l.length) (h' : q < y.l.length), q < j → relY escFiner x.l[q].ty y.l[q].ty = true) := HA.out rfl
          clear HA HB
          by_cases hlt : j < x.l.length
          · have hlt' : j < y.l.length := hl.out ▸ hlt
            obtain ⟨b, o, ea, x0, x1, hxj⟩ := hx.part j hlt
            obtain ⟨b', o', eb, y0, y1, hyj⟩ := hy.part j hlt'
            have q1 : wr.cell? ⟨w.heap.size, 1, none⟩ = some (.slice (some ⟨b, o, none⟩) x.l.length x.c) := by rw [← ea]; exact p1
            have q3 : wr.cell? ⟨w.heap.size + 1, 1, none⟩ = some (.slice (some ⟨b', o', none⟩) y.l.length y.c) := by rw [← eb]; exact p3
            have HPP : Hid (wr.cell? ⟨w.heap.size, 1, none⟩ = some (.slice x.a x.l.length x.c) ∧ wr.cell? ⟨w.heap.size + 1, 1, none⟩ = some (.slice y.a y.l.length y.c)) := ⟨p1, p3⟩
            replace x0 := cell_later hbwr x0
            replace x1 := cell_later hbwr x1
            replace y0 := cell_later hbwr y0
            replace y1 := cell_later hbwr y1
            have i1 : (j : Int) < (x.l.length : Int) := by omega
            have i2 : (j : Int) < (y.l.length : Int) := by omega
            have i0 : (0 : Int) ≤ (j : Int) := by omega
            obtain ⟨r, hr⟩ : ∃ r, relY escFiner x.l[j].ty y.l[j].ty = r := ⟨_, rfl⟩
            have HC : Hid (∀ (w : World), x.l[j].In w → y.l[j].In w → Calls Try.prog 20 #[.agg #[.int .i64 x.l[j].k, .slice x.l[j].a x.l[j].l.length x.l[j].c], .agg #[.int .i64 y.l[j].k, .slice y.l[j].a y.l[j].l.length y.l[j].c]] w fun e w' => e = .returned (.bool r) ∧ Below w.heap.size w w') := by
              intro w h1 h2
              have := ih.out x.l[j] y.l[j] w h1 h2 (Tr.hgt_part hh j hlt) (hs.part j hlt)
              rw [hr] at this
              exact this
            have HR : Hid (relY escFiner x.l[j].ty y.l[j].ty = r) := hr
            have HG : Hid (gk = if true then x.l.length - j + 1 else 0) := hg
            clear hr p1 p3 ea eb hx hy hg
            go_wp2_with fail
            go_region_held3 (fun w' => w'.cell? ⟨w.heap.size, 1, none⟩ = some (.slice (some ⟨b, o, none⟩) x.l.length x.c) ∧ w'.cell? ⟨w.heap.size + 1, 1, none⟩ = some (.slice (some ⟨b', o', none⟩) y.l.length y.c) ∧ w'.cell? ⟨b, o + j * 2, none⟩ = some (.int .i64 x.l[j].k) ∧ w'.cell? ⟨b, o + j * 2 + 1, none⟩ = some (.slice x.l[j].a x.l[j].l.length x.l[j].c) ∧ w'.cell? ⟨b', o' + j * 2, none⟩ = some (.int .i64 y.l[j].k) ∧ w'.cell? ⟨b', o' + j * 2 + 1, none⟩ = some (.slice y.l[j].a y.l[j].l.length y.l[j].c))
              (first | exact ⟨cell_later hb2 q1, cell_later hb2 q3, cell_later hb2 x0, cell_later hb2 x1, cell_later hb2 y0, cell_later hb2 y1⟩ | go_keep)
              (first | (go_at_call 20; refine (HC.out _ (hxj.below hbwr.drew) (hyj.below hbwr.drew)).mono ?_; rintro e w2 ⟨rfl, hb2⟩))
            have hbr2 : Below w.heap.size w w2 := hbwr.drew.trans (hb2.mono hbwr.size)
            have s1 := cell_later hb2 HPP.out.1
            have s3 := cell_later hb2 HPP.out.2
            have s0 := cell_later hb2 p0
            clear hb2 q1 q3 x0 x1 y0 y1 HC HPP
            go_wp2_with fail
            go_roundg (if r then x.l.length - (j + 1) + 1 else 0)
            case measure => rw [HG.out]; cases r <;> simp <;> omega
            case rel =>
              refine ⟨j + 1, r, by omega, rfl, rfl, by go_num, hbr2, s1, s3, s0, fun h q h1 h2 hq => ?_, fun h => ?_⟩
              · by_cases e : q = j
                · subst e; rw [HR.out, h]
                · exact HA1.out q h1 h2 (by omega)
              · exact core_part_not escFiner x y j hlt hlt' (by rw [HR.out, h])
          · go_wp2_with fail
            go_ret
            refine ⟨?_, hbwr⟩
            rw [relY_core, core_parts escFiner x y hk.out hl.out fun q h h' => HA1.out q h h' (by omega), Bool.or_true]
            rfl

/-- chaperoneref.FinerOf. -/
theorem finerOf_any (n : Nat) : ∀ (x y : Tr) (w : World), x.In w → y.In w → x.hgt ≤ n → x.sm → Calls Try.prog 20 #[.agg #[.int .i64 x.k, .slice x.a x.l.length x.c], .agg #[.int .i64 y.k, .slice y.a y.l.length y.c]] w fun e w' => e = .returned (.bool (relY escFiner x.ty y.ty)) ∧ Below w.heap.size w w' := by
  induction n with
  | zero =>
    intro x y w _ _ h
    have := x.hgt_pos
    omega
  | succ n ih =>
    intro x y w hx hy h hs
    exact finerOf_step n x y w hx hy h hs (fun x y w hx hy h hs => ih x y w hx hy h hs)
end Go.Proofs.Ytnddkmccagiclaa
