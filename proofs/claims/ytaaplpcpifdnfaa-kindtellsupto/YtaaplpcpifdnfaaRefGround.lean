/-
  What the calls of chaperoneref.PlainOf, chaperoneref.any0, chaperoneref.fun and chaperoneref.GroundOf answer at trees that lie in memory.
-/
import Derived.Test.YtaaplpcpifdnfaaRefPlain
namespace Go.Proofs.Ytaaplpcpifdnfaa
open Go.RowKit

set_option maxHeartbeats 400000 in
theorem plainOf_yes (k : Int) (hk : k = 1 ∨ k = 2) (a : Option Addr) (m c : Nat) (w : World) :
    Calls Try.prog 16 #[.agg #[.int .i64 k, .slice a m c]] w fun e w' => e = .returned (.bool true) ∧ Below w.heap.size w w' := by
  rcases hk with rfl | rfl <;>
  · go_enter Try.func16, Try.ntmps16
    go_wp2_with fail
    go_ret
    exact ⟨rfl, (Below.refl _ _).alloc (Nat.le_refl _) _⟩

set_option maxHeartbeats 400000 in
theorem plainOf_no (k : Int) (h1 : (k == 1) = false) (h2 : (k == 2) = false) (h3 : (k == 3) = false) (a : Option Addr) (m c : Nat) (w : World) :
    Calls Try.prog 16 #[.agg #[.int .i64 k, .slice a m c]] w fun e w' => e = .returned (.bool false) ∧ Below w.heap.size w w' := by
  go_enter Try.func16, Try.ntmps16
  go_wp2_with fail
  go_ret
  exact ⟨rfl, (Below.refl _ _).alloc (Nat.le_refl _) _⟩

set_option maxHeartbeats 400000 in
theorem plainOf_fun_no (a : Option Addr) (m c : Nat) (hm : ((m : Int) == 2) = false) (w : World) :
    Calls Try.prog 16 #[.agg #[.int .i64 3, .slice a m c]] w fun e w' => e = .returned (.bool false) ∧ Below w.heap.size w w' := by
  go_enter Try.func16, Try.ntmps16
  go_wp2_with fail
  go_ret
  exact ⟨rfl, (Below.refl _ _).alloc (Nat.le_refl _) _⟩

set_option maxHeartbeats 400000 in
theorem plainOf_fun (b o c : Nat) (kx ky : Int) (w : World) (x0 : w.cell? ⟨b, o, none⟩ = some (.int .i64 kx)) (y0 : w.cell? ⟨b, o + 2, none⟩ = some (.int .i64 ky)) :
    Calls Try.prog 16 #[.agg #[.int .i64 3, .slice (some ⟨b, o, none⟩) 2 c]] w fun e w' => e = .returned (.bool (kx == 0 && ky == 0)) ∧ Below w.heap.size w w' := by
  have lb : b < w.heap.size := World.block_lt_of_cell? _ _ x0
  by_cases hx : (kx == 0) = true
  · go_enter Try.func16, Try.ntmps16
    go_wp2_with fail
    go_ret
    exact ⟨by simp [hx], (Below.refl _ _).alloc (Nat.le_refl _) _⟩
  · have hx' : (kx == 0) = false := by simpa using hx
    clear hx
    go_enter Try.func16, Try.ntmps16
    go_wp2_with fail
    go_ret
    exact ⟨by simp [hx'], (Below.refl _ _).alloc (Nat.le_refl _) _⟩

/-- chaperoneref.PlainOf. -/
theorem plainOf_any (t : Tr) (w : World) (hin : t.In w) :
    Calls Try.prog 16 #[.agg #[.int .i64 t.k, .slice t.a t.l.length t.c]] w fun e w' => e = .returned (.bool (plainT t)) ∧ Below w.heap.size w w' := by
  obtain ⟨k, a, c, l⟩ := t
  dsimp only
  by_cases hk : k = 1 ∨ k = 2
  · refine (plainOf_yes k hk a l.length c w).mono ?_
    rintro e w' ⟨rfl, hb⟩
    exact ⟨by rcases hk with rfl | rfl <;> simp [plainT], hb⟩
  · have h1 : (k == 1) = false := by simp; omega
    have h2 : (k == 2) = false := by simp; omega
    by_cases h3 : k = 3
    · subst h3
      match l, hin with
      | [], hin =>
        refine (plainOf_fun_no a 0 c (by decide) w).mono ?_
        rintro e w' ⟨rfl, hb⟩
        exact ⟨by simp [plainT], hb⟩
      | [x], hin =>
        refine (plainOf_fun_no a 1 c (by decide) w).mono ?_
        rintro e w' ⟨rfl, hb⟩
        exact ⟨by simp [plainT], hb⟩
      | x :: y :: z :: r, hin =>
        refine (plainOf_fun_no a (x :: y :: z :: r).length c (by simp; omega) w).mono ?_
        rintro e w' ⟨rfl, hb⟩
        exact ⟨by simp [plainT], hb⟩
      | [x, y], hin =>
        obtain ⟨b, o, e0, x0, x1, hx⟩ := hin.at 0 (by simp)
        obtain ⟨b', o', e1, y0, y1, hy⟩ := hin.at 1 (by simp)
        rw [e0] at e1
        obtain ⟨rfl, rfl⟩ : b = b' ∧ o = o' := by simpa using e1
        subst e0
        refine (plainOf_fun b o c x.k y.k w (by simpa using x0) (by simpa using y0)).mono ?_
        rintro e w' ⟨rfl, hb⟩
        exact ⟨by simp [plainT], hb⟩
    · refine (plainOf_no k h1 h2 (by simpa using h3) a l.length c w).mono ?_
      rintro e w' ⟨rfl, hb⟩
      exact ⟨by simp [plainT, h1, h2, h3], hb⟩
set_option maxHeartbeats 400000 in
/-- chaperoneref.fun. -/
theorem fun_cells (k k' : Int) (a a' : Option Addr) (m m' c c' : Nat) (w : World) :
    Calls Try.prog 39 #[.agg #[.int .i64 k, .slice a m c], .agg #[.int .i64 k', .slice a' m' c']] w fun e w' => ∃ g, w.heap.size ≤ g ∧ e = .returned (.agg #[.int .i64 3, .slice (some ⟨g, 0, none⟩) 2 2]) ∧ w'.cell? ⟨g, 0, none⟩ = some (.int .i64 k) ∧ w'.cell? ⟨g, 1, none⟩ = some (.slice a m c) ∧ w'.cell? ⟨g, 2, none⟩ = some (.int .i64 k') ∧ w'.cell? ⟨g, 3, none⟩ = some (.slice a' m' c') ∧ Below w.heap.size w w' := by
  go_enter Try.func39, Try.ntmps39
  go_wp2_with fail
  refine bodyPost_ret (v := .agg #[.int .i64 3, .slice (some ⟨w.heap.size + 1 + 1 + 1, 0, none⟩) 2 2]) (by simp [results, Try.results39, go_sem]) rfl ⟨_, ?_, rfl, by simp [go_sem], by simp [go_sem], by simp [go_sem], by simp [go_sem], ?_⟩
  · omega
  exact ((((Below.refl _ _).alloc (Nat.le_refl _) _).alloc (by simp) _).alloc (by simp; omega) _).alloc (by simp; omega) _

theorem fun_any (x y : Tr) (w : World) (hx : x.In w) (hy : y.In w) :
    Calls Try.prog 39 #[.agg #[.int .i64 x.k, .slice x.a x.l.length x.c], .agg #[.int .i64 y.k, .slice y.a y.l.length y.c]] w fun e w' => ∃ g, w.heap.size ≤ g ∧ e = .returned (.agg #[.int .i64 3, .slice (some ⟨g, 0, none⟩) 2 2]) ∧ (Tr.mk 3 (some ⟨g, 0, none⟩) 2 [x, y]).In w' ∧ Below w.heap.size w w' := by
  refine (fun_cells x.k y.k x.a y.a x.l.length y.l.length x.c y.c w).mono ?_
  rintro e w' ⟨g, hg, rfl, c0, c1, c2, c3, hb⟩
  refine ⟨g, hg, rfl, ?_, hb⟩
  exact Tr.In_two c0 c1 c2 c3 (hx.below hb) (hy.below hb)

set_option maxHeartbeats 400000 in
/-- chaperoneref.any0. -/
theorem any0_any (w : World) : Calls Try.prog 38 #[] w fun e w' => e = .returned (.agg #[.int .i64 0, .slice none 0 0]) ∧ w' = w.alloc (.cells #[.int .i64 0, .slice none 0 0] 24) := by
  go_enter Try.func38, Try.ntmps38
  go_wp2_with fail
  exact bodyPost_ret (v := .agg #[.int .i64 0, .slice none 0 0]) (by simp [results, Try.results38, go_sem]) rfl ⟨rfl, rfl⟩

set_option maxHeartbeats 400000 in
theorem groundOf_else (k : Int) (h : (k == 3) = false) (a : Option Addr) (m c : Nat) (w : World) :
    Calls Try.prog 24 #[.agg #[.int .i64 k, .slice a m c]] w fun e w' => e = .returned (.agg #[.int .i64 k, .slice none 0 0]) ∧ Below w.heap.size w w' := by
  go_enter Try.func24, Try.ntmps24
  go_wp2_with fail
  refine bodyPost_ret (v := .agg #[.int .i64 k, .slice none 0 0]) (by simp [results, Try.results24, go_sem]) rfl ⟨rfl, ?_⟩
  exact ((Below.refl _ _).alloc (Nat.le_refl _) _).alloc (by simp) _

set_option maxHeartbeats 400000 in
theorem groundOf_fun (a : Option Addr) (m c : Nat) (w : World) :
    Calls Try.prog 24 #[.agg #[.int .i64 3, .slice a m c]] w fun e w' => ∃ g, w.heap.size ≤ g ∧ e = .returned (.agg #[.int .i64 3, .slice (some ⟨g, 0, none⟩) 2 2]) ∧ (Tr.mk 3 (some ⟨g, 0, none⟩) 2 [leaf 0, leaf 0]).In w' ∧ Below w.heap.size w w' := by
  go_enter Try.func24, Try.ntmps24
  go_wp2_with fail
  refine (any0_any _).mono ?_
  rintro e w1 ⟨rfl, rfl⟩
  go_wp2_with fail
  refine (any0_any _).mono ?_
  rintro e w1 ⟨rfl, rfl⟩
  go_wp2_with fail
  refine (fun_any (leaf 0) (leaf 0) _ (leaf_in _ _) (leaf_in _ _)).mono ?_
  rintro e w1 ⟨g, hg, rfl, hin, hb⟩
  have hz : w.heap.size + 1 < w1.heap.size := by have := hb.size; simp at this; omega
  obtain ⟨hc, hf⟩ := bcell hb
  go_wp2_with fail
  simp only [World.size_alloc] at hg
  have hbl : (Tr.mk 3 (some ⟨g, 0, none⟩) 2 [leaf 0, leaf 0]).Bl (· = g) := Tr.Bl_two rfl (leaf_bl _ _) (leaf_bl _ _)
  refine bodyPost_ret (v := .agg #[.int .i64 3, .slice (some ⟨g, 0, none⟩) 2 2]) (by simp [results, Try.results24, go_sem, hc]) rfl ⟨g, by omega, rfl, hin.congr (P := (· = g)) ?_ hbl, ?_⟩
  · rintro b rfl o
    rw [World.cell?_setCell_other, World.cell?_setCell_other]
    all_goals (intro h; simp only [Addr.mk.injEq] at h; omega)
  · exact (((((((Below.refl _ _).alloc (Nat.le_refl _) _).alloc (by simp) _).alloc (by simp; omega) _).alloc (by simp; omega) _).trans (hb.mono (by simp; omega))).setCell (by simp) _).setCell (by simp) _

/-- chaperoneref.GroundOf. -/
theorem groundOf_any (t : Tr) (w : World) :
    Calls Try.prog 24 #[.agg #[.int .i64 t.k, .slice t.a t.l.length t.c]] w fun e w' => ∃ g : Tr, e = .returned (.agg #[.int .i64 g.k, .slice g.a g.l.length g.c]) ∧ g.In w' ∧ g.ty = groundY t.ty ∧ Below w.heap.size w w' := by
  by_cases h : t.k = 3
  · rw [h]
    refine (groundOf_fun t.a t.l.length t.c w).mono ?_
    rintro e w' ⟨g, _, rfl, hin, hb⟩
    exact ⟨_, rfl, hin, by simp [groundY, Tr.ty_k, h, Tr.ty_mk, leaf], hb⟩
  · refine (groundOf_else t.k (by simpa using h) t.a t.l.length t.c w).mono ?_
    rintro e w' ⟨rfl, hb⟩
    exact ⟨leaf t.k, rfl, leaf_in _ _, by simp [groundY, Tr.ty_k, h, Tr.ty_mk, leaf], hb⟩
end Go.Proofs.Ytaaplpcpifdnfaa
