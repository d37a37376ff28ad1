/-
  The call of chaperonekeep.KindGrounds answers true at whatever tree lies in memory, and nothing that was there has turned.
-/
import Derived.Test.YtaaplpcpifdnfaaTypes
namespace Go.Proofs.Ytaaplpcpifdnfaa
open Go.RowKit

def groundY (t : Ty) : Ty := if t.k = 3 then ⟨3, [⟨0, []⟩, ⟨0, []⟩]⟩ else ⟨t.k, []⟩
def plainY : Ty → Bool
  | ⟨k, l⟩ => k == 1 || k == 2 || (k == 3 && match l with | [x, y] => x.k == 0 && y.k == 0 | _ => false)

theorem plainT_eq (t : Tr) : plainT t = plainY t.ty := by
  obtain ⟨k, a, c, l⟩ := t
  match l with
  | [] => simp [plainT, plainY, Tr.ty_mk]
  | [x] => simp [plainT, plainY, Tr.ty_mk]
  | [x, y] => simp [plainT, plainY, Tr.ty_mk, Tr.ty_k]
  | x :: y :: z :: r => simp [plainT, plainY, Tr.ty_mk]

/-- kind.Ground. -/
theorem ground_any (t : Tr) (w : World) :
    Calls Try.prog 23 #[.agg #[.int .i64 t.k, .slice t.a t.l.length t.c]] w fun e w' => ∃ g : Tr, e = .returned (.agg #[.int .i64 g.k, .slice g.a g.l.length g.c]) ∧ g.In w' ∧ g.ty = groundY t.ty ∧ Below w.heap.size w w' := by
  by_cases h : t.k = 3
  · rw [h]
    refine (ground_fun t.a t.l.length t.c w).mono ?_
    rintro e w' ⟨g, _, rfl, hin, hb⟩
    exact ⟨_, rfl, hin, by simp [groundY, Tr.ty_k, h, Tr.ty_mk, leaf], hb⟩
  · refine (ground_else t.k (by simpa using h) t.a t.l.length t.c w).mono ?_
    rintro e w' ⟨rfl, hb⟩
    exact ⟨leaf t.k, rfl, leaf_in _ _, by simp [groundY, Tr.ty_k, h, Tr.ty_mk, leaf], hb⟩

theorem same_refl (t : Ty) : relY escSame t t = true := by
  induction t using Ty.ind with
  | h k l ih =>
    rw [relY_mk, relL_all escSame l l rfl fun j h _ => ih _ (List.getElem_mem h)]
    simp

theorem ground_facts (t : Ty) (n : Nat) (hg : goodY n t = true) (hk : t.k ≠ 0) : plainY (groundY t) = true ∧ relY escFiner t (groundY t) = true ∧ (groundY t).k = t.k ∧ groundY (groundY t) = groundY t := by
  match n, t, hg with
  | n + 1, ⟨k, []⟩, hg =>
    dsimp only at hk
    have h : k = 1 ∨ k = 2 := by
      simp [goodY] at hg; omega
    rcases h with rfl | rfl <;> simp [groundY, plainY, relY_mk, relL, escFiner]
  | n + 1, ⟨k, [x]⟩, hg => simp [goodY] at hg
  | n + 1, ⟨k, [x, y]⟩, hg =>
    simp [goodY] at hg
    obtain ⟨⟨rfl, _⟩, _⟩ := hg
    obtain ⟨kx, lx⟩ := x
    obtain ⟨ky, ly⟩ := y
    simp [groundY, plainY, relY_mk, relL, escFiner]
  | n + 1, ⟨k, x :: y :: z :: r⟩, hg => simp [goodY] at hg

theorem ground_good (t : Ty) (n : Nat) (hg : goodY (n + 1) t = true) : goodY 4 (groundY t) = true := by
  match t, hg with
  | ⟨k, []⟩, hg =>
    have h : k = 0 ∨ k = 1 ∨ k = 2 := by
      simp [goodY] at hg; omega
    rcases h with rfl | rfl | rfl <;> simp [groundY, goodY]
  | ⟨k, [x]⟩, hg => simp [goodY] at hg
  | ⟨k, [x, y]⟩, hg =>
    simp [goodY] at hg
    obtain ⟨⟨rfl, _⟩, _⟩ := hg
    simp [groundY, goodY]
  | ⟨k, x :: y :: z :: r⟩, hg => simp [goodY] at hg

set_option maxHeartbeats 1000000 in
theorem grounds_else (t : Tr) (w : World) (hin : t.In w) (hh : goodT 4 t = false ∨ goodT 4 t = true ∧ t.k = 0) :
    Calls Try.prog 6 #[.agg #[.int .i64 t.k, .slice t.a t.l.length t.c]] w fun e w' => e = .returned (.bool true) ∧ Below w.heap.size w w' := by
  have hb0 : Below w.heap.size w (w.alloc (.cells #[.int .i64 t.k, .slice t.a t.l.length t.c] 24)) := (Below.refl _ _).alloc (Nat.le_refl _) _
  rcases hh with hg | ⟨hg, hk⟩
  · have G1 : Hid (∀ W, t.In W → Calls Try.prog 7 #[.agg #[.int .i64 t.k, .slice t.a t.l.length t.c]] W fun e w' => e = .returned (.bool false) ∧ Below W.heap.size W w') := fun W h => hg ▸ good_any t W h
    clear hg
    go_enter Try.func6, Try.ntmps6
    go_wp2_with fail
    refine (G1.out _ (hin.below hb0)).mono ?_
    rintro e w1 ⟨rfl, hb1⟩
    have hb2 := hb0.trans (hb1.mono hb0.size)
    clear hb1 hb0
    go_wp2_with fail
    refine (types_any _).mono ?_
    rintro e w2 ⟨rfl, hb3⟩
    have hb4 := hb2.trans (hb3.mono hb2.size)
    clear hb2 hb3
    go_wp2_with fail
    go_ret
    exact ⟨rfl, hb4⟩
  · have G1 : Hid (∀ W, t.In W → Calls Try.prog 7 #[.agg #[.int .i64 0, .slice t.a t.l.length t.c]] W fun e w' => e = .returned (.bool true) ∧ Below W.heap.size W w') := fun W h => by
      have := good_any t W h
      rw [hg, hk] at this
      exact this
    rw [hk] at hb0 ⊢
    clear hg hk
    go_enter Try.func6, Try.ntmps6
    go_wp2_with fail
    refine (G1.out _ (hin.below hb0)).mono ?_
    rintro e w1 ⟨rfl, hb1⟩
    have hb2 := hb0.trans (hb1.mono hb0.size)
    have p0 : w1.cell? ⟨w.heap.size, 0, none⟩ = some (.int .i64 0) := cell_later hb1 (by simp [go_sem])
    clear hb1 hb0
    go_wp2_with fail
    refine (types_any _).mono ?_
    rintro e w2 ⟨rfl, hb3⟩
    have hb4 := hb2.trans (hb3.mono hb2.size)
    clear hb2 hb3
    go_wp2_with fail
    go_ret
    exact ⟨rfl, hb4⟩

set_option maxHeartbeats 1000000 in
theorem grounds_main (t : Tr) (w : World) (hin : t.In w) (hg : goodT 4 t = true) (hk : (t.k == 0) = false) :
    Calls Try.prog 6 #[.agg #[.int .i64 t.k, .slice t.a t.l.length t.c]] w fun e w' => e = .returned (.bool true) ∧ Below w.heap.size w w' := by
  have hb0 : Below w.heap.size w (w.alloc (.cells #[.int .i64 t.k, .slice t.a t.l.length t.c] 24)) := (Below.refl _ _).alloc (Nat.le_refl _) _
  have hh : t.hgt ≤ 1000 := Nat.le_trans (Tr.hgt_good 4 _ hg) (by omega)
  have hs : t.sm := Tr.sm_good 4 _ hg
  have hf := ground_facts t.ty 4 (by rw [← goodT_eq]; exact hg) (by rw [Tr.ty_k]; simpa using hk)
  have G1 : Hid (∀ W, t.In W → Calls Try.prog 7 #[.agg #[.int .i64 t.k, .slice t.a t.l.length t.c]] W fun e w' => e = .returned (.bool true) ∧ Below W.heap.size W w') := fun W h => hg ▸ good_any t W h
  have HF : Hid (plainY (groundY t.ty) = true ∧ relY escFiner t.ty (groundY t.ty) = true ∧ (groundY t.ty).k = t.ty.k ∧ groundY (groundY t.ty) = groundY t.ty) := hf
  have HGG : goodY 4 (groundY t.ty) = true := ground_good t.ty 3 (by rw [← goodT_eq]; exact hg)
  clear hg hf
  go_enter Try.func6, Try.ntmps6
  go_wp2_with fail
  refine (G1.out _ (hin.below hb0)).mono ?_
  rintro e w1 ⟨rfl, hb1⟩
  have hb2 := hb0.trans (hb1.mono hb0.size)
  have p0 : w1.cell? ⟨w.heap.size, 0, none⟩ = some (.int .i64 t.k) := cell_later hb1 (by simp [go_sem])
  have p1 : w1.cell? ⟨w.heap.size, 1, none⟩ = some (.slice t.a t.l.length t.c) := cell_later hb1 (by simp [go_sem])
  clear hb1 hb0 G1
  go_wp2_with fail
  refine (ground_any t _).mono ?_
  rintro e w2 ⟨g, rfl, gin, gty, hb3⟩
  have hb4 := hb2.trans (hb3.mono hb2.size)
  replace p0 := cell_later hb3 p0
  replace p1 := cell_later hb3 p1
  have hgk : g.k = t.k := by rw [← Tr.ty_k, gty, HF.out.2.2.1, Tr.ty_k]
  have G2 : Hid (∀ W, g.In W → Calls Try.prog 15 #[.agg #[.int .i64 t.k, .slice g.a g.l.length g.c]] W fun e w' => e = .returned (.bool true) ∧ Below W.heap.size W w') := fun W h => by
    have := plain_any g W h
    rw [plainT_eq, gty, HF.out.1, hgk] at this
    exact this
  have G3 : Hid (∀ W, t.In W → g.In W → Calls Try.prog 19 #[.agg #[.int .i64 t.k, .slice t.a t.l.length t.c], .agg #[.int .i64 t.k, .slice g.a g.l.length g.c]] W fun e w' => e = .returned (.bool true) ∧ Below W.heap.size W w') := fun W h1 h2 => by
    have := finer_whole t g W h1 h2 hh hs
    rw [gty, HF.out.2.1, hgk] at this
    exact this
  have G4 : Hid (∀ W, Calls Try.prog 23 #[.agg #[.int .i64 t.k, .slice g.a g.l.length g.c]] W fun e w' => ∃ q : Tr, e = .returned (.agg #[.int .i64 q.k, .slice q.a q.l.length q.c]) ∧ q.In w' ∧ q.ty = g.ty ∧ q.hgt ≤ 1000 ∧ q.sm ∧ Below W.heap.size W w') := fun W => by
    have h := ground_any g W
    rw [hgk] at h
    refine h.mono ?_
    rintro e w' ⟨q, rfl, hq, qty, hb⟩
    have hqg : goodT 4 q = true := by
      rw [goodT_eq, qty, gty, HF.out.2.2.2]
      exact HGG
    exact ⟨q, rfl, hq, by rw [qty, gty, HF.out.2.2.2], Nat.le_trans (Tr.hgt_good 4 _ hqg) (by omega), Tr.sm_good 4 _ hqg, hb⟩
  have G5 : Hid (∀ (q : Tr) W, q.In W → g.In W → q.ty = g.ty → q.hgt ≤ 1000 → q.sm → Calls Try.prog 10 #[.agg #[.int .i64 q.k, .slice q.a q.l.length q.c], .agg #[.int .i64 t.k, .slice g.a g.l.length g.c]] W fun e w' => e = .returned (.bool true) ∧ Below W.heap.size W w') := fun q W h1 h2 h3 h4 h5 => by
    have := same_whole q g W h1 h2 h4 h5
    rw [h3, same_refl, hgk] at this
    exact this
  rw [hgk]
  have hin2 : t.In w2 := hin.below hb4
  have hb5 : Below w2.heap.size w2 (w2.alloc (.cells #[.int .i64 t.k, .slice g.a g.l.length g.c] 24)) := (Below.refl _ _).alloc (Nat.le_refl _) _
  have i1 := hin2.below hb5
  have i2 := gin.below hb5
  have hb6 := hb4.trans (hb5.mono hb4.size)
  have lw : w.heap.size < w2.heap.size := World.block_lt_of_cell? _ _ p0
  clear hgk gty HF hb2 hb3 hin hin2 gin hb4 hb5 hh hs hk
  go_wp2_with fail
  go_region_held3 (fun w' => Below w.heap.size w w' ∧ t.In w' ∧ g.In w' ∧ w'.cell? ⟨w.heap.size, 0, none⟩ = some (.int .i64 t.k) ∧ w'.cell? ⟨w.heap.size, 1, none⟩ = some (.slice t.a t.l.length t.c) ∧ w'.cell? ⟨w2.heap.size, 0, none⟩ = some (.int .i64 t.k) ∧ w'.cell? ⟨w2.heap.size, 1, none⟩ = some (.slice g.a g.l.length g.c))
    (first
      | exact ⟨hb6.drew, i1.below (Below.refl _ _).drew, i2.below (Below.refl _ _).drew, cell_later (((Below.refl _ _).alloc (Nat.le_refl _) _).drew) p0, cell_later (((Below.refl _ _).alloc (Nat.le_refl _) _).drew) p1, by simp [go_sem], by simp [go_sem]⟩
      | (go_split_ands; exact ⟨Below.trans (by assumption) ((h27).mono (Below.size (by assumption))), Tr.In.below h27 (by assumption), Tr.In.below h27 (by assumption), cell_later h27 (by assumption), cell_later h27 (by assumption), cell_later h27 (by assumption), cell_later h27 (by assumption)⟩)
      | (go_split_ands; exact ⟨Below.trans (by assumption) ((h10).mono (Below.size (by assumption))), Tr.In.below h10 (by assumption), Tr.In.below h10 (by assumption), cell_later h10 (by assumption), cell_later h10 (by assumption), cell_later h10 (by assumption), cell_later h10 (by assumption)⟩)
      | (go_split_ands; exact ⟨Below.trans (by assumption) ((h23).mono (Below.size (by assumption))), Tr.In.below h23 (by assumption), Tr.In.below h23 (by assumption), cell_later h23 (by assumption), cell_later h23 (by assumption), cell_later h23 (by assumption), cell_later h23 (by assumption)⟩)
      | (go_split_ands; exact ⟨Below.trans (by assumption) ((h19).mono (Below.size (by assumption))), Tr.In.below h19 (by assumption), Tr.In.below h19 (by assumption), cell_later h19 (by assumption), cell_later h19 (by assumption), cell_later h19 (by assumption), cell_later h19 (by assumption)⟩)
      | (go_split_ands; exact ⟨Below.trans (by assumption) ((h15).mono (Below.size (by assumption))), Tr.In.below h15 (by assumption), Tr.In.below h15 (by assumption), cell_later h15 (by assumption), cell_later h15 (by assumption), cell_later h15 (by assumption), cell_later h15 (by assumption)⟩)
      | go_keep)
    (first
      | (go_at_call 15; go_split_ands; refine (G2.out _ (by assumption)).mono ?_; rintro e w15 ⟨rfl, h15⟩)
      | (go_at_call 19; go_split_ands; refine (G3.out _ (by assumption) (by assumption)).mono ?_; rintro e w19 ⟨rfl, h19⟩)
      | (go_at_call 23; go_split_ands; refine (G4.out _).mono ?_; rintro e w23 ⟨q, rfl, hq, qty, qh, qs, h23⟩; have HQ : Hid (q.ty = g.ty) := qty; clear qty)
      | (go_at_call 10; go_split_ands; refine (G5.out q _ (by assumption) (by assumption) HQ.out qh qs).mono ?_; rintro e w10 ⟨rfl, h10⟩)
      | (go_at_call 27; go_split_ands; refine (types_any _).mono ?_; rintro e w27 ⟨rfl, h27⟩))
  go_split_ands
  have hbe : Below w.heap.size w w27 := by assumption
  go_wp2_with fail
  go_ret
  exact ⟨rfl, hbe⟩

/-- chaperonekeep.KindGrounds. -/
theorem grounds_any (t : Tr) (w : World) (hin : t.In w) :
    Calls Try.prog 6 #[.agg #[.int .i64 t.k, .slice t.a t.l.length t.c]] w fun e w' => e = .returned (.bool true) ∧ Below w.heap.size w w' := by
  cases hg : goodT 4 t with
  | false => exact grounds_else t w hin (.inl hg)
  | true =>
    by_cases hk : t.k = 0
    · exact grounds_else t w hin (.inr ⟨hg, hk⟩)
    · exact grounds_main t w hin hg (by simpa using hk)
end Go.Proofs.Ytaaplpcpifdnfaa
