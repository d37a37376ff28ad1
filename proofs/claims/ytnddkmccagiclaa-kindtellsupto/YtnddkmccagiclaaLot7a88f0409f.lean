/-
  The call of chaperonekeep.KindGrounds answers true at whatever tree lies in memory, and nothing that was there has turned.
-/
import Derived.Test.YtnddkmccagiclaaLotafdcd923cf
import Derived.Test.YtnddkmccagiclaaLota407ef62cb
import Derived.Test.YtnddkmccagiclaaLotc66cf61471
namespace Go.Proofs.Ytnddkmccagiclaa
open Go.RowKit

def groundY (t : Ty) : Ty := if t.k = 3 then ⟨3, [⟨0, []⟩, ⟨0, []⟩]⟩ else ⟨t.k, []⟩
def plainY : Ty → Bool
  | ⟨k, l⟩ => k == 1 || k == 2 || (k == 3 && match l with | [x, y] => x.k == 0 && y.k == 0 | _ => false)

theorem plainT_eq (t : Tr) : plainT t = plainY t.ty := by
  obtain ⟨k, a, c, l⟩ := t
  match l with
  | [] => simp [plainT, plainY, Tr.ty_mk]
  | [x] => simp [plainT, plainY, Tr.ty_mk]
  | [x, y] => simp [plainT, plainY, Tr.ty_mk, Tr.ty_k]
  | x :: y :: z :: r => simp [plainT, plainY, Tr.ty_mk]

/-- kind.Ground. -/
theorem ground_any (t : Tr) (w : World) :
    Calls Try.prog 23 #[.agg #[.int .i64 t.k, .slice t.a t.l.length t.c]] w fun e w' => ∃ g : Tr, e = .returned (.agg #[.int .i64 g.k, .slice g.a g.l.length g.c]) ∧ g.In w' ∧ g.ty = groundY t.ty ∧ Below w.heap.size w w' := by
  by_cases h : t.k = 3
  · rw [h]
    refine (ground_fun t.a t.l.length t.c w).mono ?_
    rintro e w' ⟨g, _, rfl, hin, hb⟩
    exact ⟨_, rfl, hin, by simp [groundY, Tr.ty_k, h, Tr.ty_mk, leaf], hb⟩
  · refine (ground_else t.k (by simpa using h) t.a t.l.length t.c w).mono ?_
    rintro e w' ⟨rfl, hb⟩
    exact ⟨leaf t.k, rfl, leaf_in _ _, by simp [groundY, Tr.ty_k, h, Tr.ty_mk, leaf], hb⟩

theorem same_refl (t : Ty) : relY escSame t t = true := by
  induction t using Ty.ind with
  | h k l ih =>
    rw [relY_mk, relL_all escSame l l rfl fun j h _ => ih _ (List.getElem_mem h)]
    simp

theorem ground_facts (t : Ty) (n : Nat) (hg : goodY n t = true) (hk : t.k ≠ 0) : plainY (groundY t) = true ∧ relY escFiner t (groundY t) = true ∧ (groundY t).k = t.k ∧ groundY (groundY t) = groundY t := by
  match n, t, hg with
  | n + 1, ⟨k, []⟩, hg =>
    dsimp only at hk
    have h : k = 1 ∨ k = 2 := by
      simp [goodY] at hg; omega
    rcases h with rfl | rfl <;> simp [groundY, plainY, relY_mk, relL, escFiner]
  | n + 1, ⟨k, [x]⟩, hg => simp [goodY] at hg
  | n + 1, ⟨k, [x, y]⟩, hg =>
    simp [goodY] at hg
    obtain ⟨⟨rfl, _⟩, _⟩ := hg
    obtain ⟨kx, lx⟩ := x
    obtain ⟨ky, ly⟩ := y
    simp [groundY, plainY, relY_mk, relL, escFiner]
  | n + 1, ⟨k, x :: y :: z :: r⟩, hg => simp [goodY] at hg

theorem ground_good (t : Ty) (n : Nat) (hg : goodY (n + 1) t = true) : goodY 4 (groundY t) = true := by
  match t, hg with
  | ⟨k, []⟩, hg =>
    have h : k = 0 ∨ k = 1 ∨ k = 2 := by
      simp [goodY] at hg; omega
    rcases h with rfl | rfl | rfl <;> simp [groundY, goodY]
  | ⟨k, [x]⟩, hg => simp [goodY] at hg
  | ⟨k, [x, y]⟩, hg =>
    simp [goodY] at hg
    obtain ⟨⟨rfl, _⟩, _⟩ := hg
    simp [groundY, goodY]
  | ⟨k, x :: y :: z :: r⟩, hg => simp [goodY] at hg

set_option maxHeartbeats 1000000 in
theorem grounds_else (t : Tr) (w : World) (hin : t.In w) (hh : goodT 4 t = false ∨ goodT 4 t = true ∧ t.k = 0) :
    Calls Try.prog 6 #[.agg #[.int .i64 t.k, .slice t.a t.l.length t.c]] w fun e w' => e = .returned (.bool true) ∧ Below w.heap.size w w' := by
  have hb0 : Below w.heap.size w (w.alloc (.cells #[.int .i64 t.k, .slice t.a t.l.length t.c] 24)) := (Below.refl _ _).alloc (Nat.le_refl _) _
  rcases hh with hg | ⟨hg, hk⟩
  · have G1 : Hid (∀ W, t.In W → Calls Try.prog 7 #[.agg #[.int .i64 t.k, .slice t.a t.l.length t.c]] W fun e w' => e = .returned (.bool false) ∧ Below W.heap.size W w') := fun W h => hg ▸ good_any t W h
    clear hg
    go_enter Try.func6, Try.ntmps6
    go_wp2_with fail
    refine (G1.out _ (hin.below hb0)).mono ?_
    rintro e w1 ⟨rfl, hb1⟩
    have hb2 := hb0.trans (hb1.mono hb0.size)
    clear hb1 hb0
    go_wp2_with fail
    refine (types_any _).mono ?_
    rintro e w2 ⟨rfl, hb3⟩
    have hb4 := hb2.trans (hb3.mono hb2.size)
    clear hb2 hb3
    go_wp2_with fail
    go_ret
    exact ⟨rfl, hb4⟩
  · have G1 : Hid (∀ W, t.In W → Calls Try.prog 7 #[.agg #[.int .i64 0, .slice t.a t.l.length t.c]] W fun e w' => e = .returned (.bool true) ∧ Below W.heap.size W w') := fun W h => by
      have := good_any t W h
      rw [hg, hk] at this
      exact this
    rw [hk] at hb0 ⊢
    clear hg hk
    go_enter Try.func6, Try.ntmps6
    go_wp2_with fail
    refine (G1.out _ (hin.below hb0)).mono ?_
    rintro e w1 ⟨rfl, hb1⟩
    have hb2 := hb0.trans (hb1.mono hb0.size)
    have p0 : w1.cell? ⟨w.heap.size, 0, none⟩ = some (.int .i64 0) := cell_later hb1 (by simp [go_sem])
    clear hb1 hb0
    go_wp2_with fail
    refine (types_any _).mono ?_
    rintro e w2 ⟨rfl, hb3⟩
    have hb4 := hb2.trans (hb3.mono hb2.size)
    clear hb2 hb3
    go_wp2_with fail
    go_ret
    exact ⟨rfl, hb4⟩

set_option maxHeartbeats 1000000 in
theorem grounds_main (t : Tr) (w : World) (hin : t.In w) (hg : goodT 4 t = true) (hk : (t.k == 0) = false) :
    Calls Try.prog 6 #[.agg #[.int .i64 t.k, .slice t.a t.l.length t.c]] w fun e w' => e = .returned (.bool true) ∧ Below w.heap.size w w' := by
  have hb0 : Below w.heap.size w (w.alloc (.cells #[.int .i64 t.k, .slice t.a t.l.length t.c] 24)) := (Below.refl _ _).alloc (Nat.le_refl _) _
  have hh : t.hgt ≤ 1000 := Nat.le_trans (Tr.hgt_good 4 _ hg) (by omega)
  have hs : t.sm := Tr.sm_good 4 _ hg
  have hf := ground_facts t.ty 4 (by rw [← goodT_eq]; exact hg) (by rw [Tr.ty_k]; simpa using hk)
  have G1 : Hid (∀ W, t.In W → Calls Try.prog 7 #[.agg #[.int .i64 t.k, .slice t.a t.l.length t.c]] W fun e w' => e = .returned (.bool true) ∧ Below W.heap.size W w') := fun W h => hg ▸ good_any t W h
  have HF : Hid (plainY (groundY t.ty) = true ∧ relY escFiner t.ty (groundY t.ty) = true ∧ (groundY t.ty).k = t.ty.k ∧ groundY (groundY t.ty) = groundY t.ty) := hf
  have HGG : goodY 4 (groundY t.ty) = true := ground_good t.ty 3 (by rw [← goodT_eq]; exact hg)
  clear hg hf
  go_enter Try.func6, Try.ntmps6
  go_wp2_with fail
  refine (G1.out _ (hin.below hb0)).mono ?_
  rintro e w1 ⟨rfl, hb1⟩
  have hb2 := hb0.trans (hb1.mono hb0.size)
  have p0 : w1.cell? ⟨w.heap.size, 0, none⟩ = some (.int .i64 t.k) := cell_later hb1 (by simp [go_sem])
  have p1 : w1.cell? ⟨w.heap.size, 1, none⟩ = some (.slice t.a t.l.length t.c) := cell_later hb1 (by simp [go_sem])
  clear hb1 hb0 G1
  go_wp2_with fail
  refine (ground_any t _).mono ?_
  rintro e w2 ⟨g, rfl, gin, gty, hb3⟩
  have hb4 := hb2.trans (hb3.mono hb2.size)
  replace p0 := cell_later hb3 p0
  replace p1 := cell_later hb3 p1
  have hgk : g.k = t.k := by rw [← Tr.ty_k, gty, HF.out.2.2.1, Tr.ty_k]
  have G2 : Hid (∀ W, g.In W → Calls Try.prog 15 #[.agg #[.int .i64 t.k, .slice g.a g.l.length g.c]] W fun e w' => e = .returned (.bool true) ∧ Below W.heap.size W w') := fun W h => by
    have := plain_any g W h
    rw [plainT_eq, gty, HF.out.1, hgk] at this
    exact this
  have G3 : Hid (∀ W, t.In W → g.In W → Calls Try.prog 19 #[.agg #[.int .i64 t.k, .slice t.a t.l.length t.c], .agg #[.int .i64 t.k, .slice g.a g.l.length g.c]] W fun e w' => e = .returned (.bool true) ∧ Below W.heap.size W w') := fun W h1 h2 => by
    have := finer_whole t g W h1 h2 hh hs
    rw [gty, HF.out.2.1, hgk] at this
    exact this
  have G4 : Hid (∀ W, Calls Try.prog 23 #[.agg #[.int .i64 t.k, .slice g.a g.l.length g.c]] W fun e w' => ∃ q : Tr, e = .returned (.agg #[.int .i64 q.k, .slice q.a q.l.length q.c]) ∧ q.In w' ∧ q.ty = g.ty ∧ q.hgt ≤ 1000 ∧ q.sm ∧ Below W.heap.size W w') := fun W => by
    have h := ground_any g W
    rw [hgk] at h
    refine h.mono ?_
    rintro e w' ⟨q, rfl, hq, qty, hb⟩
    have hqg : goodT 4 q = true := by
      rw [goodT_eq, qty, gty, HF.out.2.2.2]
      exact HGG
    exact ⟨q, rfl, hq, by rw [qty, gty, HF.out.2.2.2], Nat.le_trans (Tr.hgt_good 4 _ hqg) (by omega), Tr.sm_good 4 _ hqg, hb⟩
  have G5 : Hid (∀ (q : Tr) W, q.In W → g.In W → q.ty = g.ty → q.hgt ≤ 1000 → q.sm → Calls Try.prog 10 #[.agg #[.int .i64 q.k, .slice q.a q.l.length q.c], .agg #[.int .i64 t.k, .slice g.a g.l.length g.c]] W fun e w' => e = .returned (.bool true) ∧ Below W.heap.size W w') := fun q W h1 h2 h3 h4 h5 => by
    have := same_whole q g W h1 h2 h4 h5
    rw [h3, same_refl, hgk] at this
    exact this
  rw [hgk]
  have hin2 : t.In w2 := hin.below hb4
  have hb5 : Below w2.heap.size w2 (w2.alloc (.cells #[.int .i64 t.k, .slice g.a g.l.length g.c] 24)) := (Below.refl _ _).alloc (Nat.le_refl _) _
  have i1 := hin2.below hb5
  have i2 := gin.below hb5
  have hb6 := hb4.trans (hb5.mono hb4.size)
  have lw : w.heap.size < w2.heap.size := World.block_lt_of_cell? _ _ p0
  clear hgk gty HF hb2 hb3 hin hin2 gin hb4 hb5 hh hs hk
  go_wp2_with fail
  go_region_held3 (fun w' => Below w.heap.size w w' ∧ t.In w' ∧ g.In w' ∧ w'.cell? ⟨w.heap.size, 0, none⟩ = some (.int .i64 t.k) ∧ w'.cell? ⟨w.heap.size, 1, none⟩ = some (.slice t.a t.l.length t.c) ∧ w'.cell? ⟨w2.heap.size, 0, none⟩ = some (.int .i64 t.k) ∧ w'.cell? ⟨w2.heap.size, 1, none⟩ = some (.slice g.a g.l.length g.c))
    (first
      | exact ⟨hb6.drew, i1.below (Below.refl _ _).drew, i2.below (Below.refl _ _).drew, cell_later (((Below.refl _ _).alloc (Nat.le_refl _) _).drew) p0, cell_later (((Below.refl _ _).alloc (Nat.le_refl _) _).drew) p1, by simp [go_sem], by simp [go_sem]⟩
      | (go_split_ands; exact ⟨Below.trans (by assumption) ((h27).mono (Below.size (by assumption))), Tr.In.below h27 (by assumption), Tr.In.below h27 (by assumption), cell_later h27 (by assumption), cell_later h27 (by assumption), cell_later h27 (by assumption), cell_later h27 (by assumption)⟩)
      | (go_split_ands; exact ⟨Below.trans (by assumption) ((h10).mono (Below.size (by assumption))), Tr.In.below h10 (by assumption), Tr.In.below h10 (by assumption), cell_later h10 (by assumption), cell_later h10 (by assumption), cell_later h10 (by assumption), cell_later h10 (by assumption)⟩)
      | (go_split_ands; exact ⟨Below.trans (by assumption) ((h23).mono (Below.size (by assumption))), Tr.In.below h23 (by assumption), Tr.In.below h23 (by assumption), cell_later h23 (by assumption), cell_later h23 (by assumption), cell_later h23 (by assumption), cell_later h23 (by assumption)⟩)
      | (go_split_ands; exact ⟨Below.trans (by assumption) ((h19).mono (Below.size (by assumption))), Tr.In.below h19 (by assumption), Tr.In.below h19 (by assumption), cell_later h19 (by assumption), cell_later h19 (by assumption), cell_later h19 (by assumption), cell_later h19 (by assumption)⟩)
      | (go_split_ands; exact ⟨Below.trans (by assumption) ((h15).mono (Below.size (by assumption))), Tr.In.below h15 (by assumption), Tr.In.below h15 (by assumption), cell_later h15 (by assumption), cell_later h15 (by assumption), cell_later h15 (by assumption), cell_later h15 (by assumption)⟩)
      | go_keep)
    (first
      | (go_at_call 15; go_split_ands; refine (G2.out _ (by assumption)).mono ?_; rintro e w15 ⟨rfl, h15⟩)
      | (go_at_call 19; go_split_ands; refine (G3.out _ (by assumption) (by assumption)).mono ?_; rintro e w19 ⟨rfl, h19⟩)
      | (go_at_call 23; go_split_ands; refine (G4.out _).mono ?_; rintro e w23 ⟨q, rfl, hq, qty, qh, qs, h23⟩; have HQ : Hid (q.ty = g.ty) := qty; clear qty)
      | (go_at_call 10; go_split_ands; refine (G5.out q _ (by assumption) (by assumption) HQ.out qh qs).mono ?_; rintro e w10 ⟨rfl, h10⟩)
      | (go_at_call 27; go_split_ands; refine (types_any _).mono ?_; rintro e w27 ⟨rfl, h27⟩))
  go_split_ands
  have hbe : Below w.heap.size w w27 := by assumption
  go_wp2_with fail
  go_ret
  exact ⟨rfl, hbe⟩

/-- chaperonekeep.KindGrounds. -/
theorem grounds_any (t : Tr) (w : World) (hin : t.In w) :
    Calls Try.prog 6 #[.agg #[.int .i64 t.k, .slice t.a t.l.length t.c]] w fun e w' => e = .returned (.bool true) ∧ Below w.heap.size w w' := by
  cases hg : goodT 4 t with
  | false => exact grounds_else t w hin (.inl hg)
  | true =>
    by_cases hk : t.k = 0
    · exact grounds_else t w hin (.inr ⟨hg, hk⟩)
    · exact grounds_main t w hin hg (by simpa using hk)
end Go.Proofs.Ytnddkmccagiclaa

/-
  What the calls of chaperoneref.IsType, chaperoneref.PlainOf, chaperoneref.any0, chaperoneref.fun and chaperoneref.GroundOf answer at a tree that lies in memory.
-/
namespace Go.Proofs.Ytnddkmccagiclaa
open Go.RowKit

theorem good_right : ∀ (n : Nat) (t : Tr), goodT n t = (rightY t.ty && decide (t.hgt ≤ n))
  | 0, t => by
    have := t.hgt_pos
    have e : decide (t.hgt ≤ 0) = false := by simp; omega
    rw [e]
    simp [goodT]
  | n + 1, ⟨k, a, c, l⟩ => by
    rw [right_ty, hgt_most]
    match l with
    | [] =>
      have e : (k == 0 || k == 1 || k == 2) = (decide (0 ≤ k) && decide (k ≤ 2)) := by
        rw [Bool.eq_iff_iff]; simp; omega
      simp [goodT, topR, most, e]
    | [x] => simp [goodT, topR]
    | [x, y] =>
      have h1 := good_right n x
      have h2 := good_right n y
      have e : decide (most [x, y] + 1 ≤ n + 1) = (decide (x.hgt ≤ n) && decide (y.hgt ≤ n)) := by
        rw [Bool.eq_iff_iff]
        simp [most]
        omega
      simp only [goodT, h1, h2, e, topR, List.all_cons, List.all_nil, List.length_cons, List.length_nil]
      cases k == 3 <;> cases rightY x.ty <;> cases rightY y.ty <;> cases decide (x.hgt ≤ n) <;> simp
    | x :: y :: z :: r =>
      have e1 : (((x :: y :: z :: r).length : Int) == 0) = false := by simp; omega
      have e2 : (((x :: y :: z :: r).length : Int) == 2) = false := by simp; omega
      have e3 : topR k (x :: y :: z :: r).length = false := by unfold topR; rw [e1, e2]; simp
      simp only [goodT, e3, Bool.false_and]

set_option maxHeartbeats 400000 in
/-- chaperoneref.IsType. -/
theorem isType_any (n : Nat) (hn : n ≤ 1000000000) (x : Tr) (w : World) (hx : x.In w) (hh : x.hgt ≤ n) (hs : x.sm) :
    Calls Try.prog 9 #[.agg #[.int .i64 x.k, .slice x.a x.l.length x.c]] w fun e w' => e = .returned (.bool (goodT 4 x)) ∧ Below w.heap.size w w' := by
  have hg := good_right 4 x
  have hb0 : Below w.heap.size w (w.alloc (.cells #[.int .i64 x.k, .slice x.a x.l.length x.c] 24)) := (Below.refl _ _).alloc (Nat.le_refl _) _
  obtain ⟨r, hr⟩ : ∃ r, rightY x.ty = r := ⟨_, rfl⟩
  have G1 : Hid (∀ W, x.In W → Calls Try.prog 13 #[.agg #[.int .i64 x.k, .slice x.a x.l.length x.c]] W fun e w' => e = .returned (.bool r) ∧ Below W.heap.size W w') := fun W h => hr ▸ isRight_any n x W h hh hs
  have G2 : Hid (∀ W, x.In W → Calls Try.prog 29 #[.agg #[.int .i64 x.k, .slice x.a x.l.length x.c]] W fun e w' => e = .returned (.int .i64 (x.hgt : Int)) ∧ Below W.heap.size W w') := fun W h => deepOf_any n hn x W h hh hs
  have HG : Hid (goodT 4 x = (r && decide (x.hgt ≤ 4))) := by show _ = _; rw [hg, hr]
  clear hg hr hh hs
  cases r
  · go_enter Try.func9, Try.ntmps9
    go_wp2_with fail
    refine (G1.out _ (hx.below hb0)).mono ?_
    rintro e w1 ⟨rfl, h1⟩
    have hb1 := hb0.trans (h1.mono hb0.size)
    clear h1 hb0
    go_wp2_with fail
    go_ret
    exact ⟨by rw [HG.out]; rfl, hb1⟩
  · go_enter Try.func9, Try.ntmps9
    go_wp2_with fail
    refine (G1.out _ (hx.below hb0)).mono ?_
    rintro e w1 ⟨rfl, h1⟩
    have hb1 := hb0.trans (h1.mono hb0.size)
    have p0 : w1.cell? ⟨w.heap.size, 0, none⟩ = some (.int .i64 x.k) := cell_later h1 (by simp [go_sem])
    have p1 : w1.cell? ⟨w.heap.size, 1, none⟩ = some (.slice x.a x.l.length x.c) := cell_later h1 (by simp [go_sem])
    clear h1 hb0
    go_wp2_with fail
    refine (G2.out _ (hx.below hb1)).mono ?_
    rintro e w2 ⟨rfl, h2⟩
    have hb2 := hb1.trans (h2.mono hb1.size)
    have HE : Hid (goodT 4 x = decide ((x.hgt : Int) < 5)) := by
      show _ = _
      rw [HG.out, Bool.true_and, Bool.eq_iff_iff]; simp; omega
    clear h2 hb1 HG
    go_wp2_with fail
    go_ret
    exact ⟨by rw [HE.out]; rfl, hb2⟩
end Go.Proofs.Ytnddkmccagiclaa

/-
  What the calls of chaperoneref.PlainOf, chaperoneref.any0, chaperoneref.fun and chaperoneref.GroundOf answer at trees that lie in memory.
-/
namespace Go.Proofs.Ytnddkmccagiclaa
open Go.RowKit

set_option maxHeartbeats 400000 in
theorem plainOf_yes (k : Int) (hk : k = 1 ∨ k = 2) (a : Option Addr) (m c : Nat) (w : World) :
    Calls Try.prog 16 #[.agg #[.int .i64 k, .slice a m c]] w fun e w' => e = .returned (.bool true) ∧ Below w.heap.size w w' := by
  rcases hk with rfl | rfl <;>
  · go_enter Try.func16, Try.ntmps16
    go_wp2_with fail
    go_ret
    exact ⟨rfl, (Below.refl _ _).alloc (Nat.le_refl _) _⟩

set_option maxHeartbeats 400000 in
theorem plainOf_no (k : Int) (h1 : (k == 1) = false) (h2 : (k == 2) = false) (h3 : (k == 3) = false) (a : Option Addr) (m c : Nat) (w : World) :
    Calls Try.prog 16 #[.agg #[.int .i64 k, .slice a m c]] w fun e w' => e = .returned (.bool false) ∧ Below w.heap.size w w' := by
  go_enter Try.func16, Try.ntmps16
  go_wp2_with fail
  go_ret
  exact ⟨rfl, (Below.refl _ _).alloc (Nat.le_refl _) _⟩

set_option maxHeartbeats 400000 in
theorem plainOf_fun_no (a : Option Addr) (m c : Nat) (hm : ((m : Int) == 2) = false) (w : World) :
    Calls Try.prog 16 #[.agg #[.int .i64 3, .slice a m c]] w fun e w' => e = .returned (.bool false) ∧ Below w.heap.size w w' := by
  go_enter Try.func16, Try.ntmps16
  go_wp2_with fail
  go_ret
  exact ⟨rfl, (Below.refl _ _).alloc (Nat.le_refl _) _⟩

set_option maxHeartbeats 400000 in
theorem plainOf_fun (b o c : Nat) (kx ky : Int) (w : World) (x0 : w.cell? ⟨b, o, none⟩ = some (.int .i64 kx)) (y0 : w.cell? ⟨b, o + 2, none⟩ = some (.int .i64 ky)) :
    Calls Try.prog 16 #[.agg #[.int .i64 3, .slice (some ⟨b, o, none⟩) 2 c]] w fun e w' => e = .returned (.bool (kx == 0 && ky == 0)) ∧ Below w.heap.size w w' := by
  have lb : b < w.heap.size := World.block_lt_of_cell? _ _ x0
  by_cases hx : (kx == 0) = true
  · go_enter Try.func16, Try.ntmps16
    go_wp2_with fail
    go_ret
    exact ⟨by simp [hx], (Below.refl _ _).alloc (Nat.le_refl _) _⟩
  · have hx' : (kx == 0) = false := by simpa using hx
    clear hx
    go_enter Try.func16, Try.ntmps16
    go_wp2_with fail
    go_ret
    exact ⟨by simp [hx'], (Below.refl _ _).alloc (Nat.le_refl _) _⟩

/-- chaperoneref.PlainOf. -/
theorem plainOf_any (t : Tr) (w : World) (hin : t.In w) :
    Calls Try.prog 16 #[.agg #[.int .i64 t.k, .slice t.a t.l.length t.c]] w fun e w' => e = .returned (.bool (plainT t)) ∧ Below w.heap.size w w' := by
  obtain ⟨k, a, c, l⟩ := t
  dsimp only
  by_cases hk : k = 1 ∨ k = 2
  · refine (plainOf_yes k hk a l.length c w).mono ?_
    rintro e w' ⟨rfl, hb⟩
    exact ⟨by rcases hk with rfl | rfl <;> simp [plainT], hb⟩
  · have h1 : (k == 1) = false := by simp; omega
    have h2 : (k == 2) = false := by simp; omega
    by_cases h3 : k = 3
    · subst h3
      match l, hin with
      | [], hin =>
        refine (plainOf_fun_no a 0 c (by decide) w).mono ?_
        rintro e w' ⟨rfl, hb⟩
        exact ⟨by simp [plainT], hb⟩
      | [x], hin =>
        refine (plainOf_fun_no a 1 c (by decide) w).mono ?_
        rintro e w' ⟨rfl, hb⟩
        exact ⟨by simp [plainT], hb⟩
      | x :: y :: z :: r, hin =>
        refine (plainOf_fun_no a (x :: y :: z :: r).length c (by simp; omega) w).mono ?_
        rintro e w' ⟨rfl, hb⟩
        exact ⟨by simp [plainT], hb⟩
      | [x, y], hin =>
        obtain ⟨b, o, e0, x0, x1, hx⟩ := hin.at 0 (by simp)
        obtain ⟨b', o', e1, y0, y1, hy⟩ := hin.at 1 (by simp)
        rw [e0] at e1
        obtain ⟨rfl, rfl⟩ : b = b' ∧ o = o' := by simpa using e1
        subst e0
        refine (plainOf_fun b o c x.k y.k w (by simpa using x0) (by simpa using y0)).mono ?_
        rintro e w' ⟨rfl, hb⟩
        exact ⟨by simp [plainT], hb⟩
    · refine (plainOf_no k h1 h2 (by simpa using h3) a l.length c w).mono ?_
      rintro e w' ⟨rfl, hb⟩
      exact ⟨by simp [plainT, h1, h2, h3], hb⟩
set_option maxHeartbeats 400000 in
/-- chaperoneref.fun. -/
theorem fun_cells (k k' : Int) (a a' : Option Addr) (m m' c c' : Nat) (w : World) :
    Calls Try.prog 39 #[.agg #[.int .i64 k, .slice a m c], .agg #[.int .i64 k', .slice a' m' c']] w fun e w' => ∃ g, w.heap.size ≤ g ∧ e = .returned (.agg #[.int .i64 3, .slice (some ⟨g, 0, none⟩) 2 2]) ∧ w'.cell? ⟨g, 0, none⟩ = some (.int .i64 k) ∧ w'.cell? ⟨g, 1, none⟩ = some (.slice a m c) ∧ w'.cell? ⟨g, 2, none⟩ = some (.int .i64 k') ∧ w'.cell? ⟨g, 3, none⟩ = some (.slice a' m' c') ∧ Below w.heap.size w w' := by
  go_enter Try.func39, Try.ntmps39
  go_wp2_with fail
  refine bodyPost_ret (v := .agg #[.int .i64 3, .slice (some ⟨w.heap.size + 1 + 1 + 1, 0, none⟩) 2 2]) (by simp [results, Try.results39, go_sem]) rfl ⟨_, ?_, rfl, by simp [go_sem], by simp [go_sem], by simp [go_sem], by simp [go_sem], ?_⟩
  · omega
  exact ((((Below.refl _ _).alloc (Nat.le_refl _) _).alloc (by simp) _).alloc (by simp; omega) _).alloc (by simp; omega) _

theorem fun_any (x y : Tr) (w : World) (hx : x.In w) (hy : y.In w) :
    Calls Try.prog 39 #[.agg #[.int .i64 x.k, .slice x.a x.l.length x.c], .agg #[.int .i64 y.k, .slice y.a y.l.length y.c]] w fun e w' => ∃ g, w.heap.size ≤ g ∧ e = .returned (.agg #[.int .i64 3, .slice (some ⟨g, 0, none⟩) 2 2]) ∧ (Tr.mk 3 (some ⟨g, 0, none⟩) 2 [x, y]).In w' ∧ Below w.heap.size w w' := by
  refine (fun_cells x.k y.k x.a y.a x.l.length y.l.length x.c y.c w).mono ?_
  rintro e w' ⟨g, hg, rfl, c0, c1, c2, c3, hb⟩
  refine ⟨g, hg, rfl, ?_, hb⟩
  exact Tr.In_two c0 c1 c2 c3 (hx.below hb) (hy.below hb)

set_option maxHeartbeats 400000 in
/-- chaperoneref.any0. -/
theorem any0_any (w : World) : Calls Try.prog 38 #[] w fun e w' => e = .returned (.agg #[.int .i64 0, .slice none 0 0]) ∧ w' = w.alloc (.cells #[.int .i64 0, .slice none 0 0] 24) := by
  go_enter Try.func38, Try.ntmps38
  go_wp2_with fail
  exact bodyPost_ret (v := .agg #[.int .i64 0, .slice none 0 0]) (by simp [results, Try.results38, go_sem]) rfl ⟨rfl, rfl⟩

set_option maxHeartbeats 400000 in
theorem groundOf_else (k : Int) (h : (k == 3) = false) (a : Option Addr) (m c : Nat) (w : World) :
    Calls Try.prog 24 #[.agg #[.int .i64 k, .slice a m c]] w fun e w' => e = .returned (.agg #[.int .i64 k, .slice none 0 0]) ∧ Below w.heap.size w w' := by
  go_enter Try.func24, Try.ntmps24
  go_wp2_with fail
  refine bodyPost_ret (v := .agg #[.int .i64 k, .slice none 0 0]) (by simp [results, Try.results24, go_sem]) rfl ⟨rfl, ?_⟩
  exact ((Below.refl _ _).alloc (Nat.le_refl _) _).alloc (by simp) _

set_option maxHeartbeats 400000 in
theorem groundOf_fun (a : Option Addr) (m c : Nat) (w : World) :
    Calls Try.prog 24 #[.agg #[.int .i64 3, .slice a m c]] w fun e w' => ∃ g, w.heap.size ≤ g ∧ e = .returned (.agg #[.int .i64 3, .slice (some ⟨g, 0, none⟩) 2 2]) ∧ (Tr.mk 3 (some ⟨g, 0, none⟩) 2 [leaf 0, leaf 0]).In w' ∧ Below w.heap.size w w' := by
  go_enter Try.func24, Try.ntmps24
  go_wp2_with fail
  refine (any0_any _).mono ?_
  rintro e w1 ⟨rfl, rfl⟩
  go_wp2_with fail
  refine (any0_any _).mono ?_
  rintro e w1 ⟨rfl, rfl⟩
  go_wp2_with fail
  refine (fun_any (leaf 0) (leaf 0) _ (leaf_in _ _) (leaf_in _ _)).mono ?_
  rintro e w1 ⟨g, hg, rfl, hin, hb⟩
  have hz : w.heap.size + 1 < w1.heap.size := by have := hb.size; simp at this; omega
  obtain ⟨hc, hf⟩ := bcell hb
  go_wp2_with fail
  simp only [World.size_alloc] at hg
  have hbl : (Tr.mk 3 (some ⟨g, 0, none⟩) 2 [leaf 0, leaf 0]).Bl (· = g) := Tr.Bl_two rfl (leaf_bl _ _) (leaf_bl _ _)
  refine bodyPost_ret (v := .agg #[.int .i64 3, .slice (some ⟨g, 0, none⟩) 2 2]) (by simp [results, Try.results24, go_sem, hc]) rfl ⟨g, by omega, rfl, hin.congr (P := (· = g)) ?_ hbl, ?_⟩
  · rintro b rfl o
    rw [World.cell?_setCell_other, World.cell?_setCell_other]
    all_goals (intro h; simp only [Addr.mk.injEq] at h; omega)
  · exact (((((((Below.refl _ _).alloc (Nat.le_refl _) _).alloc (by simp) _).alloc (by simp; omega) _).alloc (by simp; omega) _).trans (hb.mono (by simp; omega))).setCell (by simp) _).setCell (by simp) _

/-- chaperoneref.GroundOf. -/
theorem groundOf_any (t : Tr) (w : World) :
    Calls Try.prog 24 #[.agg #[.int .i64 t.k, .slice t.a t.l.length t.c]] w fun e w' => ∃ g : Tr, e = .returned (.agg #[.int .i64 g.k, .slice g.a g.l.length g.c]) ∧ g.In w' ∧ g.ty = groundY t.ty ∧ Below w.heap.size w w' := by
  by_cases h : t.k = 3
  · rw [h]
    refine (groundOf_fun t.a t.l.length t.c w).mono ?_
    rintro e w' ⟨g, _, rfl, hin, hb⟩
    exact ⟨_, rfl, hin, by simp [groundY, Tr.ty_k, h, Tr.ty_mk, leaf], hb⟩
  · refine (groundOf_else t.k (by simpa using h) t.a t.l.length t.c w).mono ?_
    rintro e w' ⟨rfl, hb⟩
    exact ⟨leaf t.k, rfl, leaf_in _ _, by simp [groundY, Tr.ty_k, h, Tr.ty_mk, leaf], hb⟩
end Go.Proofs.Ytnddkmccagiclaa

/-
  What the call of chaperoneref.JoinOf answers at two right trees that lie in memory.
-/
namespace Go.Proofs.Ytnddkmccagiclaa
open Go.RowKit

set_option maxHeartbeats 400000 in
theorem joinOf_diff (x y : Tr) (hk : (x.k != y.k) = true) (w : World) :
    Calls Try.prog 22 #[.agg #[.int .i64 x.k, .slice x.a x.l.length x.c], .agg #[.int .i64 y.k, .slice y.a y.l.length y.c]] w fun e w' => e = .returned (.agg #[.int .i64 0, .slice none 0 0]) ∧ Below w.heap.size w w' := by
  go_enter Try.func22, Try.ntmps22
  go_wp2_with fail
  refine (any0_any _).mono ?_
  rintro e w1 ⟨rfl, rfl⟩
  go_wp2_with fail
  refine bodyPost_ret (v := .agg #[.int .i64 0, .slice none 0 0]) (by simp [results, Try.results22, go_sem]) rfl ⟨rfl, ?_⟩
  exact ((((Below.refl _ _).alloc (Nat.le_refl _) _).alloc (by simp) _).alloc (by simp; omega) _).alloc (by simp; omega) _

set_option maxHeartbeats 400000 in
theorem joinOf_leaf (k : Int) (a a' : Option Addr) (c c' : Nat) (w : World) :
    Calls Try.prog 22 #[.agg #[.int .i64 k, .slice a 0 c], .agg #[.int .i64 k, .slice a' 0 c']] w fun e w' => e = .returned (.agg #[.int .i64 k, .slice none 0 0]) ∧ Below w.heap.size w w' := by
  go_enter Try.func22, Try.ntmps22
  go_wp2_with fail
  refine bodyPost_ret (v := .agg #[.int .i64 k, .slice none 0 0]) (by simp [results, Try.results22, go_sem]) rfl ⟨rfl, ?_⟩
  exact (((Below.refl _ _).alloc (Nat.le_refl _) _).alloc (by simp) _).alloc (by simp; omega) _
end Go.Proofs.Ytnddkmccagiclaa

/-
  A list of pairs of trees behind a pointer, and how it grows while calls go on; no program in it but the call of (*later).put.
-/
namespace Go.Proofs.Ytnddkmccagiclaa
open Go.RowKit

/-- It lies in the world, in blocks below B. -/
def Tr.At (B : Nat) (w : World) (t : Tr) : Prop := t.In w ∧ t.Bl (· < B)

theorem Tr.At.below {B : Nat} {w w' : World} {t : Tr} (h : t.At B w) (hb : Below B w w') : t.At B w' :=
  ⟨h.1.congr (P := (· < B)) (fun b hl o => hb.cell (p := ⟨b, o, none⟩) hl) h.2, h.2⟩

theorem Tr.Bl.part {P : Nat → Prop} {t : Tr} (h : t.Bl P) (j : Nat) (hj : j < t.l.length) : t.l[j].Bl P := by
  obtain ⟨k, a, c, l⟩ := t
  exact (Tr.Bl_mk.1 h).2 _ (List.getElem_mem hj)

theorem Tr.Bl.head {P : Nat → Prop} {t : Tr} (h : t.Bl P) (j : Nat) (hj : j < t.l.length) {b o : Nat} (ha : t.a = some ⟨b, o, none⟩) : P b := by
  obtain ⟨k, a, c, l⟩ := t
  exact (Tr.Bl_mk.1 h).1 (fun e => by dsimp only at hj; rw [e] at hj; simp at hj) _ ha

/-- Part j, its cells, and its block. -/
theorem Tr.At.part {B : Nat} {w : World} {t : Tr} (h : t.At B w) (j : Nat) (hj : j < t.l.length) : ∃ b o, b < B ∧ t.a = some ⟨b, o, none⟩ ∧ w.cell? ⟨b, o + j * 2, none⟩ = some (.int .i64 t.l[j].k) ∧ w.cell? ⟨b, o + j * 2 + 1, none⟩ = some (.slice t.l[j].a t.l[j].l.length t.l[j].c) ∧ t.l[j].At B w := by
  obtain ⟨b, o, ea, c0, c1, hi⟩ := h.1.part j hj
  exact ⟨b, o, h.2.head j hj ea, ea, c0, c1, hi, h.2.part j hj⟩

/-- Two trees that are gone through side by side, and where what comes of them belongs. -/
structure Pr where
  x : Tr
  y : Tr
  p : Option Addr

def Pr.cells (q : Pr) : List Value := [.int .i64 q.x.k, .slice q.x.a q.x.l.length q.x.c, .int .i64 q.y.k, .slice q.y.a q.y.l.length q.y.c, .pointer q.p]

def prCells : List Pr → List Value
  | [] => []
  | q :: r => q.cells ++ prCells r

theorem prCells_append : ∀ l r : List Pr, prCells (l ++ r) = prCells l ++ prCells r
  | [], r => rfl
  | t :: l, r => by simp only [List.cons_append, prCells, prCells_append l r, List.append_assoc]

theorem prCells_length : ∀ l : List Pr, (prCells l).length = l.length * 5
  | [] => rfl
  | t :: r => by simp only [prCells, Pr.cells, List.length_append, List.length_cons, List.length_nil, prCells_length r]; omega

/-- How many nodes the first trees have. -/
def szs (qs : List Pr) : Nat := (qs.map fun q => q.x.sz).sum

theorem szs_append (l r : List Pr) : szs (l ++ r) = szs l + szs r := by simp [szs]
theorem szs_nil : szs [] = 0 := rfl
theorem szs_one (q : Pr) : szs [q] = q.x.sz := by simp [szs]
theorem szs_len : ∀ l : List Pr, l.length ≤ szs l
  | [] => Nat.zero_le _
  | q :: r => by
    have h1 := szs_len r
    have h2 := q.x.sz_pos
    simp only [szs, List.map_cons, List.sum_cons, List.length_cons] at h1 ⊢
    omega

/-- The list lies behind block R, its row in block o. -/
structure Lst (R : Nat) (qs : List Pr) (o : Option Nat) (w : World) : Prop where
  ex : ∃ v, w.cell? ⟨R, 0, none⟩ = some v ∧ w.ownsRow (R + 1) 41 5 v qs.length (prCells qs) ∧ v.ownBlock = o
  fz : w.frozen? ⟨R, 0, none⟩ = false

/-- The row's block is the one that it was, or a new one. -/
def Grew (o o' : Option Nat) (w : World) : Prop := o' = o ∨ ∃ g, o' = some g ∧ w.heap.size ≤ g

theorem Lst.lt {R : Nat} {qs : List Pr} {o : Option Nat} {w : World} (h : Lst R qs o w) : R < w.heap.size := by
  obtain ⟨⟨v, hc, _⟩, _⟩ := h
  exact World.block_lt_of_cell? _ _ hc

theorem Lst.own {R : Nat} {qs : List Pr} {o : Option Nat} {w : World} (h : Lst R qs o w) : ∀ g, o = some g → R < g ∧ g < w.heap.size := by
  obtain ⟨⟨v, hc, ho, rfl⟩, _⟩ := h
  intro g hg
  have := ho.lt g hg
  omega

theorem ownsRow_below {w w' : World} {base : Nat} {e : TypeId} {size : Nat} {v : Value} {n : Nat} {xs : List Value} (h : w.ownsRow base e size v n xs) (hb : Below w.heap.size w w') : w'.ownsRow base e size v n xs := by
  refine ⟨h.1, ?_⟩
  rcases h.2 with hn | ⟨g, cap, cur, rfl, h1, hgg, rest⟩
  · exact .inl hn
  · exact .inr ⟨g, cap, cur, rfl, h1, by rw [hb.block g (Array.getElem?_eq_some_iff.1 hgg).1]; exact hgg, rest⟩

theorem Lst.below {R : Nat} {qs : List Pr} {o : Option Nat} {w w' : World} (h : Lst R qs o w) (hb : Below w.heap.size w w') : Lst R qs o w' := by
  have hl := h.lt
  obtain ⟨⟨v, hc, ho, e⟩, hf⟩ := h
  exact ⟨⟨v, cell_later hb hc, ownsRow_below ho hb, e⟩, (hb.frozen (p := ⟨R, 0, none⟩) hl).trans hf⟩

theorem Kept.of_below {R : Nat} {o : Option Nat} {w w' : World} (h : Below w.heap.size w w') : Kept R o w w' :=
  ⟨h.os, h.tape, h.output, h.size, fun k hk _ _ => h.block k hk⟩

theorem Kept.trans {R : Nat} {o o' : Option Nat} {w w1 w2 : World} (h : Kept R o w w1) (g : Grew o o' w) (h' : Kept R o' w1 w2) : Kept R o w w2 := by
  have hs := h.size
  refine ⟨h'.os.trans h.os, h'.tape.trans h.tape, h'.output.trans h.output, Nat.le_trans h.size h'.size, fun k hk h1 h2 => (h'.block k (by omega) h1 ?_).trans (h.block k hk h1 h2)⟩
  rcases g with rfl | ⟨g, rfl, hg⟩
  · exact h2
  · simp only [ne_eq, Option.some.injEq]; omega

theorem Grew.trans {o o' o'' : Option Nat} {w w1 : World} (h : Grew o o' w) (h' : Grew o' o'' w1) (hs : w.heap.size ≤ w1.heap.size) : Grew o o'' w := by
  rcases h' with rfl | ⟨g, rfl, hg⟩
  · exact h
  · exact .inr ⟨g, rfl, by omega⟩

theorem Grew.later {o o' : Option Nat} {w w1 : World} (h : Grew o o' w1) (hs : w.heap.size ≤ w1.heap.size) : Grew o o' w := by
  rcases h with rfl | ⟨g, rfl, hg⟩
  · exact .inl rfl
  · exact .inr ⟨g, rfl, by omega⟩

theorem Kept.cell {R : Nat} {o : Option Nat} {w w' : World} (h : Kept R o w w') {b i : Nat} {v : Value} (hc : w.cell? ⟨b, i, none⟩ = some v) (h1 : b ≠ R) (h2 : some b ≠ o) : w'.cell? ⟨b, i, none⟩ = some v :=
  (World.cell?_of_block (a := ⟨b, i, none⟩) (h.block b (World.block_lt_of_cell? _ _ hc) h1 h2)).trans hc

/-- What lies below R is as it was. -/
theorem Kept.low {R B : Nat} {qs : List Pr} {o : Option Nat} {w w' : World} (h : Kept R o w w') (hl : Lst R qs o w) (hB : B ≤ R) : Below B w w' :=
  (h.below (fun g e => Nat.le_of_lt (hl.own g e).1) (Nat.le_of_lt hl.lt)).mono hB

/-- A block that was there ahead of the list's row is none of it. -/
theorem Grew.ne {o o' : Option Nat} {w : World} {b : Nat} (h : Grew o o' w) (hb : b < w.heap.size) (hn : some b ≠ o) : some b ≠ o' := by
  rcases h with rfl | ⟨g, rfl, hg⟩
  · exact hn
  · simp only [ne_eq, Option.some.injEq]; omega

/-- (*later).put. -/
theorem put_lst (R : Nat) (qs : List Pr) (o : Option Nat) (q : Pr) (w : World) (hl : Lst R qs o w) (hn : qs.length + 1 ≤ 1000000000) :
    Calls Try.prog 34 #[.pointer (some ⟨R, 0, none⟩), .agg #[.int .i64 q.x.k, .slice q.x.a q.x.l.length q.x.c, .int .i64 q.y.k, .slice q.y.a q.y.l.length q.y.c, .pointer q.p]] w fun e w' => e = .returned (.tuple #[]) ∧ ∃ o', Lst R (qs ++ [q]) o' w' ∧ Grew o o' w ∧ Kept R o w w' := by
  obtain ⟨⟨v, hc, ho, rfl⟩, hf⟩ := hl
  refine (put_any R v qs.length (prCells qs) q.x.k q.y.k q.x.a q.y.a q.x.l.length q.y.l.length q.x.c q.y.c q.p w hc hf ho hn).mono ?_
  rintro e w' ⟨rfl, g, cap, h1, h2, h3, h4, h5⟩
  refine ⟨rfl, some g, ⟨⟨_, h1, ?_, rfl⟩, h2⟩, ?_, h5⟩
  · rw [prCells_append, List.length_append, List.length_singleton]
    exact h3
  · rcases h4 with h4 | h4
    · exact .inl h4.symm
    · exact .inr ⟨g, rfl, h4⟩

/-- The last pair of a list: its cells. -/
theorem Lst.last {R : Nat} {qs : List Pr} {q : Pr} {o : Option Nat} {w : World} (h : Lst R (qs ++ [q]) o w) :
    ∃ g cap, o = some g ∧ w.cell? ⟨R, 0, none⟩ = some (.slice (some ⟨g, 0, none⟩) (qs.length + 1) cap) ∧ qs.length + 1 ≤ cap ∧ w.ownsRow (R + 1) 41 5 (.slice (some ⟨g, 0, none⟩) qs.length cap) qs.length (prCells qs) ∧
      w.cell? ⟨g, qs.length * 5, none⟩ = some (.int .i64 q.x.k) ∧ w.cell? ⟨g, qs.length * 5 + 1, none⟩ = some (.slice q.x.a q.x.l.length q.x.c) ∧ w.cell? ⟨g, qs.length * 5 + 2, none⟩ = some (.int .i64 q.y.k) ∧ w.cell? ⟨g, qs.length * 5 + 3, none⟩ = some (.slice q.y.a q.y.l.length q.y.c) ∧ w.cell? ⟨g, qs.length * 5 + 4, none⟩ = some (.pointer q.p) := by
  obtain ⟨⟨v, hc, ho, rfl⟩, hf⟩ := h
  rw [List.length_append, List.length_singleton, prCells_append] at ho
  rcases ho.2 with ⟨_, h0⟩ | ⟨g, cap, cur, rfl, hg, _, hcap, _⟩
  · omega
  · have hlen := prCells_length qs
    have hj : ∀ j, j < 5 → w.cell? ⟨g, qs.length * 5 + j, none⟩ = q.cells[j]? := by
      intro j hj
      rw [ho.cellAt (qs.length * 5 + j) (by omega), List.getElem?_append_right (by omega), hlen, Nat.add_sub_cancel_left]
      simp only [prCells, List.append_nil]
    refine ⟨g, cap, rfl, hc, hcap, ownsRow_pop (by omega) ho, ?_, ?_, ?_, ?_, ?_⟩
    · exact hj 0 (by omega)
    · exact hj 1 (by omega)
    · exact hj 2 (by omega)
    · exact hj 3 (by omega)
    · exact hj 4 (by omega)
end Go.Proofs.Ytnddkmccagiclaa

/-
  What a call that holds two trees against each other, and puts pairs off, leaves: the plain laws of it.
-/
namespace Go.Proofs.Ytnddkmccagiclaa
open Go.RowKit

theorem Tr.At.back {B : Nat} {w w' : World} {t : Tr} (h : t.At B w') (hb : Below B w w') : t.At B w :=
  ⟨h.1.congr (P := (· < B)) (fun b hl o => (hb.cell (p := ⟨b, o, none⟩) hl).symm) h.2, h.2⟩

theorem Tr.sz_eq (t : Tr) : t.sz = (t.l.map Tr.sz).sum + 1 := by cases t; rw [Tr.sz_mk]

theorem sz_take (l : List Tr) (j : Nat) (h : j < l.length) : ((l.take (j + 1)).map Tr.sz).sum = ((l.take j).map Tr.sz).sum + l[j].sz := by
  rw [List.take_succ_eq_append_getElem h, List.map_append, List.sum_append]
  simp only [List.map_cons, List.map_nil, List.sum_cons, List.sum_nil, Nat.add_zero]

theorem sz_take_le : ∀ (l : List Tr) (j : Nat), ((l.take j).map Tr.sz).sum ≤ (l.map Tr.sz).sum
  | [], j => by simp
  | t :: r, 0 => by simp
  | t :: r, j + 1 => by
    have := sz_take_le r j
    simp only [List.take_succ_cons, List.map_cons, List.sum_cons]; omega

theorem len_sz : ∀ (l : List Tr), l.length ≤ (l.map Tr.sz).sum
  | [] => Nat.zero_le _
  | t :: r => by
    have h1 := len_sz r
    have h2 := t.sz_pos
    simp only [List.map_cons, List.sum_cons, List.length_cons]; omega

/-- What the call has left: its answer, and the pairs that it has put off. -/
structure RelS (esc : Int → Int → Bool) (R B n : Nat) (x y : Tr) (ps : List Pr) (o : Option Nat) (w : World) (r : Bool) (qs : List Pr) (o' : Option Nat) (w' : World) : Prop where
  l : Lst R (ps ++ qs) o' w'
  g : Grew o o' w
  k : Kept R o w w'
  q : ∀ q, q ∈ qs → q.p = none ∧ q.x.At B w ∧ q.y.At B w
  s : szs qs + min n 1 ≤ x.sz
  i : relY esc x.ty y.ty = true ↔ r = true ∧ ∀ q, q ∈ qs → relY esc q.x.ty q.y.ty = true

def Rel (esc : Int → Int → Bool) (R B n : Nat) (x y : Tr) (ps : List Pr) (o : Option Nat) (w : World) (e : Ending) (w' : World) : Prop :=
  ∃ (r : Bool) (qs : List Pr) (o' : Option Nat), e = .returned (.bool r) ∧ RelS esc R B n x y ps o w r qs o' w'

/-- While the parts are gone through. -/
structure Prog (esc : Int → Int → Bool) (R B : Nat) (x y : Tr) (j : Nat) (ps qs : List Pr) (o o' : Option Nat) (w wr : World) : Prop where
  l : Lst R (ps ++ qs) o' wr
  g : Grew o o' w
  k : Kept R o w wr
  q : ∀ q, q ∈ qs → q.p = none ∧ q.x.At B w ∧ q.y.At B w
  s : szs qs ≤ ((x.l.take j).map Tr.sz).sum
  i : (∀ q, q ∈ qs → relY esc q.x.ty q.y.ty = true) ↔ ∀ i (h : i < x.l.length) (h' : i < y.l.length), i < j → relY esc x.l[i].ty y.l[i].ty = true

theorem Prog.start {esc : Int → Int → Bool} {R B : Nat} {x y : Tr} {ps : List Pr} {o : Option Nat} {w : World} (hl : Lst R ps o w) : Prog esc R B x y 0 ps [] o o w w :=
  ⟨by simpa using hl, .inl rfl, Kept.of_below (Below.refl _ _), fun q h => (by cases h), by simp [szs], ⟨fun _ i _ _ h => absurd h (by omega), fun _ q h => by cases h⟩⟩

theorem Prog.more {esc : Int → Int → Bool} {R B n : Nat} {x y : Tr} {j : Nat} {ps qs qs2 : List Pr} {o o' o2 : Option Nat} {w wr w2 : World} (h : Prog esc R B x y j ps qs o o' w wr) (hB : B ≤ R) (hL : Lst R ps o w) (hj : j < x.l.length) {r : Bool} (hr : RelS esc R B n x.l[j] (y.l[j]?.getD x) (ps ++ qs) o' wr.drew r qs2 o2 w2) :
    Lst R (ps ++ (qs ++ qs2)) o2 w2 ∧ Grew o o2 w ∧ Kept R o w w2 ∧ (∀ q, q ∈ qs ++ qs2 → q.p = none ∧ q.x.At B w ∧ q.y.At B w) ∧ szs (qs ++ qs2) ≤ ((x.l.take (j + 1)).map Tr.sz).sum := by
  have hb : Below B w wr.drew := (h.k.low hL hB).drew
  refine ⟨by rw [← List.append_assoc]; exact hr.l, h.g.trans hr.g h.k.size, h.k.trans h.g ⟨hr.k.os, hr.k.tape, hr.k.output, hr.k.size, hr.k.block⟩, fun q hq => ?_, ?_⟩
  · rcases List.mem_append.1 hq with hq | hq
    · exact h.q q hq
    · obtain ⟨h1, h2, h3⟩ := hr.q q hq
      exact ⟨h1, h2.back hb, h3.back hb⟩
  · rw [szs_append, sz_take _ _ hj]
    have h1 := h.s
    have h2 := hr.s
    omega

theorem Prog.step {esc : Int → Int → Bool} {R B n : Nat} {x y : Tr} {j : Nat} {ps qs qs2 : List Pr} {o o' o2 : Option Nat} {w wr w2 : World} (h : Prog esc R B x y j ps qs o o' w wr) (hB : B ≤ R) (hL : Lst R ps o w) (hj : j < x.l.length) (hj' : j < y.l.length) (hr : RelS esc R B n x.l[j] y.l[j] (ps ++ qs) o' wr.drew true qs2 o2 w2) :
    Prog esc R B x y (j + 1) ps (qs ++ qs2) o o2 w w2 := by
  have hm := h.more hB hL hj (r := true) (n := n) (qs2 := qs2) (o2 := o2) (w2 := w2) (by simpa [List.getElem?_eq_getElem hj'] using hr)
  refine ⟨hm.1, hm.2.1, hm.2.2.1, hm.2.2.2.1, hm.2.2.2.2, fun hq i h1 h2 hi => ?_, fun hi q hq => ?_⟩
  · by_cases e : i = j
    · subst e
      exact hr.i.2 ⟨rfl, fun q h => hq q (List.mem_append_right _ h)⟩
    · exact h.i.1 (fun q h => hq q (List.mem_append_left _ h)) i h1 h2 (by omega)
  · rcases List.mem_append.1 hq with hq | hq
    · exact h.i.2 (fun i h1 h2 h3 => hi i h1 h2 (by omega)) q hq
    · exact (hr.i.1 (hi j hj hj' (by omega))).2 q hq

theorem Prog.no {esc : Int → Int → Bool} {R B n : Nat} {x y : Tr} {j : Nat} {ps qs qs2 : List Pr} {o o' o2 : Option Nat} {w0 w wr w2 : World} (h : Prog esc R B x y j ps qs o o' w wr) (hB : B ≤ R) (hL0 : Lst R ps o w0) (hb : Below w0.heap.size w0 w) (he : esc x.k y.k = false) (hj : j < x.l.length) (hj' : j < y.l.length) (hr : RelS esc R B n x.l[j] y.l[j] (ps ++ qs) o' wr.drew false qs2 o2 w2) :
    RelS esc R B (n + 1) x y ps o w0 false (qs ++ qs2) o2 w2 := by
  have hL := hL0.below hb
  have hm := h.more hB hL hj (r := false) (n := n) (qs2 := qs2) (o2 := o2) (w2 := w2) (by simpa [List.getElem?_eq_getElem hj'] using hr)
  have hbB : Below B w0 w := hb.mono (by have := hL0.lt; omega)
  refine ⟨hm.1, hm.2.1.later hb.size, (Kept.of_below hb).trans (.inl rfl) hm.2.2.1, fun q hq => ?_, ?_, ?_⟩
  · obtain ⟨h1, h2, h3⟩ := hm.2.2.2.1 q hq
    exact ⟨h1, h2.back hbB, h3.back hbB⟩
  · have h1 := sz_take_le x.l (j + 1)
    have h2 := x.sz_eq
    have h3 := hm.2.2.2.2
    omega
  · have hf : relY esc x.l[j].ty y.l[j].ty = false := by
      cases hh : relY esc x.l[j].ty y.l[j].ty with
      | false => rfl
      | true => exact absurd (hr.i.1 hh).1 (by simp)
    rw [relY_part_not esc x y he j hj hj' hf]
    simp

theorem Prog.yes {esc : Int → Int → Bool} {R B n : Nat} {x y : Tr} {j : Nat} {ps qs : List Pr} {o o' : Option Nat} {w0 w wr : World} (h : Prog esc R B x y j ps qs o o' w wr) (hB : B ≤ R) (hL0 : Lst R ps o w0) (hb : Below w0.heap.size w0 w) (he : esc x.k y.k = false) (hk : x.k = y.k) (hl : x.l.length = y.l.length) (hj : x.l.length ≤ j) :
    RelS esc R B (n + 1) x y ps o w0 true qs o' wr := by
  have hbB : Below B w0 w := hb.mono (by have := hL0.lt; omega)
  refine ⟨h.l, h.g.later hb.size, (Kept.of_below hb).trans (.inl rfl) h.k, fun q hq => ?_, ?_, ?_⟩
  · obtain ⟨h1, h2, h3⟩ := h.q q hq
    exact ⟨h1, h2.back hbB, h3.back hbB⟩
  · have h1 := sz_take_le x.l j
    have h2 := x.sz_eq
    have h3 := h.s
    omega
  · refine ⟨fun hr => ⟨rfl, h.i.2 fun i h1 h2 _ => ?_⟩, fun hq => relY_parts esc x y hk hl fun q h1 h2 => h.i.1 hq.2 q h1 h2 (by omega)⟩
    cases hh : relY esc x.l[i].ty y.l[i].ty with
    | true => rfl
    | false =>
      have := relY_part_not esc x y he i h1 h2 hh
      rw [hr] at this
      cases this

theorem RelS.empty {esc : Int → Int → Bool} {R B n : Nat} {x y : Tr} {ps : List Pr} {o : Option Nat} {w w' : World} {r : Bool} (hL : Lst R ps o w) (hb : Below w.heap.size w w') (hr : relY esc x.ty y.ty = r) : RelS esc R B n x y ps o w r [] o w' := by
  refine ⟨by simpa using hL.below hb, .inl rfl, Kept.of_below hb, fun q h => (by cases h), ?_, ?_⟩
  · have := x.sz_pos
    simp only [szs_nil]; omega
  · rw [hr]
    exact ⟨fun h => ⟨h, fun q h => (by cases h)⟩, fun h => h.1⟩

theorem RelS.off {esc : Int → Int → Bool} {R B : Nat} {x y : Tr} {ps : List Pr} {o o' : Option Nat} {w w0 w' : World} (hb : Below w.heap.size w w0) (hl : Lst R (ps ++ [⟨x, y, none⟩]) o' w') (hg : Grew o o' w0) (hk : Kept R o w0 w') (hx : x.At B w) (hy : y.At B w) : RelS esc R B 0 x y ps o w true [⟨x, y, none⟩] o' w' := by
  refine ⟨hl, hg.later hb.size, (Kept.of_below hb).trans (.inl rfl) hk, fun q h => ?_, by simp [szs_one], ⟨fun h => ⟨rfl, fun q hq => ?_⟩, fun h => ?_⟩⟩
  · rcases List.mem_singleton.1 h with rfl
    exact ⟨rfl, hx, hy⟩
  · rcases List.mem_singleton.1 hq with rfl
    exact h
  · exact h.2 _ (List.mem_singleton.2 rfl)
end Go.Proofs.Ytnddkmccagiclaa

/-
  The calls of (*later).empty and (*later).take at a list of pairs of trees.
-/
namespace Go.Proofs.Ytnddkmccagiclaa
open Go.RowKit

theorem empty_yes (R : Nat) (o : Option Nat) (w : World) (hl : Lst R [] o w) : Calls Try.prog 35 #[.pointer (some ⟨R, 0, none⟩)] w fun e w' => e = .returned (.bool true) ∧ w' = w := by
  obtain ⟨⟨v, hc, ho, _⟩, _⟩ := hl
  rcases ho.2 with ⟨rfl, _⟩ | ⟨g, cap, cur, rfl, _⟩
  · exact empty_any R none 0 0 w hc
  · exact empty_any R _ 0 cap w hc

theorem empty_no (R : Nat) (qs : List Pr) (q : Pr) (o : Option Nat) (w : World) (hl : Lst R (qs ++ [q]) o w) : Calls Try.prog 35 #[.pointer (some ⟨R, 0, none⟩)] w fun e w' => e = .returned (.bool false) ∧ w' = w := by
  obtain ⟨g, cap, _, hc, _⟩ := hl.last
  have e : (((qs.length + 1 : Nat) : Int) == 0) = false := by simp; omega
  have h := empty_any R _ (qs.length + 1) cap w hc
  rw [e] at h
  exact h

/-- (*later).take. -/
theorem take_lst (R : Nat) (qs : List Pr) (q : Pr) (o : Option Nat) (w : World) (hl : Lst R (qs ++ [q]) o w) (hn : qs.length ≤ 1000000000) :
    Calls Try.prog 37 #[.pointer (some ⟨R, 0, none⟩)] w fun e w' => e = .returned (.agg #[.int .i64 q.x.k, .slice q.x.a q.x.l.length q.x.c, .int .i64 q.y.k, .slice q.y.a q.y.l.length q.y.c, .pointer q.p]) ∧ Lst R qs o w' ∧ Kept R none w w' := by
  obtain ⟨g, cap, rfl, hc, hcap, ho, c0, c1, c2, c3, c4⟩ := hl.last
  refine (take_any R g qs.length cap q.x.k q.y.k q.x.a q.y.a q.x.l.length q.y.l.length q.x.c q.y.c q.p w hc hl.fz hcap (by omega) c0 c1 c2 c3 c4).mono ?_
  rintro e w' ⟨rfl, rfl⟩
  have hb : Below (w.setCell ⟨R, 0, none⟩ (.slice (some ⟨g, 0, none⟩) qs.length cap)).heap.size (w.setCell ⟨R, 0, none⟩ (.slice (some ⟨g, 0, none⟩) qs.length cap)) (((w.setCell ⟨R, 0, none⟩ (.slice (some ⟨g, 0, none⟩) qs.length cap)).alloc (.cells #[.int .i64 q.x.k, .slice q.x.a q.x.l.length q.x.c, .int .i64 q.y.k, .slice q.y.a q.y.l.length q.y.c, .pointer q.p] 41)).alloc (.cells #[.int .i64 q.x.k, .slice q.x.a q.x.l.length q.x.c, .int .i64 q.y.k, .slice q.y.a q.y.l.length q.y.c, .pointer q.p] 41)) := ((Below.refl _ _).alloc (Nat.le_refl _) _).alloc (by simp) _
  have h1 : Lst R qs (some g) (w.setCell ⟨R, 0, none⟩ (.slice (some ⟨g, 0, none⟩) qs.length cap)) :=
    ⟨⟨_, World.cell?_setCell_same _ _ _ hc, ownsRow_setCell_below ho (by simp) _, rfl⟩, by rw [World.frozen?_setCell]; exact hl.fz⟩
  have h2 : Kept R none w (w.setCell ⟨R, 0, none⟩ (.slice (some ⟨g, 0, none⟩) qs.length cap)) :=
    ⟨rfl, rfl, rfl, by simp [World.setCell], fun k _ h1 _ => Below.heap_setCell _ _ _ _ h1⟩
  exact ⟨rfl, h1.below hb, h2.trans (.inl rfl) (Kept.of_below hb)⟩

/-- What is still to be looked at, while the pairs are taken one by one. -/
structure Todo (esc : Int → Int → Bool) (R : Nat) (x y : Tr) (w : World) (k : Nat) (qs : List Pr) (o : Option Nat) (wr : World) : Prop where
  l : Lst R qs o wr
  s : szs qs = k
  z : k ≤ 1000000000
  q : ∀ q, q ∈ qs → q.p = none ∧ q.x.At w.heap.size w ∧ q.y.At w.heap.size w
  i : relY esc x.ty y.ty = true ↔ ∀ q, q ∈ qs → relY esc q.x.ty q.y.ty = true
  b : Below w.heap.size w wr

theorem Todo.step {esc : Int → Int → Bool} {R n : Nat} {x y : Tr} {w : World} {k : Nat} {us : List Pr} {q : Pr} {o o2 : Option Nat} {wr w2 w3 w4 : World} {qs : List Pr} (h : Todo esc R x y w k (us ++ [q]) o wr) (hR : w.heap.size ≤ R) (hk : Kept R none wr w2) (hb : Below w2.heap.size w2 w3) (hl3 : Lst R us o w3) (hr : RelS esc R w.heap.size (n + 1) q.x q.y us o w3 true qs o2 w4) :
    Todo esc R x y w (szs (us ++ qs)) (us ++ qs) o2 w4 ∧ szs (us ++ qs) < k := by
  have hs1 := h.s
  rw [szs_append, szs_one] at hs1
  have hs2 := hr.s
  have hz := h.z
  have hs3 : szs (us ++ qs) < k := by rw [szs_append]; omega
  have hlt := h.l.lt
  have hlt3 := hl3.lt
  have hss := hk.size
  have hb1 : Below w.heap.size wr w2 := (hk.below (fun g e => by cases e) (by omega)).mono hR
  have hbb : Below w.heap.size w w3 := h.b.trans (hb1.trans (hb.mono (by have := h.b.size; omega)))
  refine ⟨⟨hr.l, rfl, by omega, fun p hp => ?_, ?_, hbb.trans (hr.k.low hl3 hR)⟩, hs3⟩
  · rcases List.mem_append.1 hp with hp | hp
    · exact h.q p (List.mem_append_left _ hp)
    · obtain ⟨h1, h2, h3⟩ := hr.q p hp
      exact ⟨h1, h2.back hbb, h3.back hbb⟩
  · refine h.i.trans ⟨fun ha p hp => ?_, fun ha p hp => ?_⟩
    · rcases List.mem_append.1 hp with hp | hp
      · exact ha p (List.mem_append_left _ hp)
      · exact (hr.i.1 (ha q (by simp))).2 p hp
    · rcases List.mem_append.1 hp with hp | hp
      · exact ha p (List.mem_append_left _ hp)
      · rcases List.mem_singleton.1 hp with rfl
        exact hr.i.2 ⟨rfl, fun q hq => ha q (List.mem_append_right _ hq)⟩

theorem Todo.no {esc : Int → Int → Bool} {R n : Nat} {x y : Tr} {w : World} {k : Nat} {us : List Pr} {q : Pr} {o o2 : Option Nat} {wr w2 w3 w4 : World} {qs : List Pr} (h : Todo esc R x y w k (us ++ [q]) o wr) (hR : w.heap.size ≤ R) (hk : Kept R none wr w2) (hb : Below w2.heap.size w2 w3) (hl3 : Lst R us o w3) (hr : RelS esc R w.heap.size (n + 1) q.x q.y us o w3 false qs o2 w4) :
    relY esc x.ty y.ty = false ∧ Below w.heap.size w w4 := by
  have hlt := h.l.lt
  have hss := hk.size
  have hb1 : Below w.heap.size wr w2 := (hk.below (fun g e => by cases e) (by omega)).mono hR
  have hbb : Below w.heap.size w w3 := h.b.trans (hb1.trans (hb.mono (by have := h.b.size; omega)))
  refine ⟨?_, hbb.trans (hr.k.low hl3 hR)⟩
  cases hh : relY esc x.ty y.ty with
  | false => rfl
  | true =>
    have := (hr.i.1 (h.i.1 hh q (by simp))).1
    cases this
end Go.Proofs.Ytnddkmccagiclaa

/-
  What two types both say, while it is made with holes that are filled later: the plain laws of it.
-/
namespace Go.Proofs.Ytnddkmccagiclaa
open Go.RowKit

/-- A tree of that type lies there, in blocks beyond R. -/
def Filled (R : Nat) (w : World) (b i : Nat) (T : Ty) : Prop :=
  ∃ t : Tr, t.ty = T ∧ t.In w ∧ t.Bl (R < ·) ∧ w.cell? ⟨b, i, none⟩ = some (.int .i64 t.k) ∧ w.cell? ⟨b, i + 1, none⟩ = some (.slice t.a t.l.length t.c)

/-- A cell of one of the holes. -/
def Hit (hs : List Pr) (k c : Nat) : Prop := ∃ h, h ∈ hs ∧ ∃ i, h.p = some ⟨k, i, none⟩ ∧ (c = i ∨ c = i + 1)

def Fills (R : Nat) (w : World) (h : Pr) : Prop := ∃ b i, h.p = some ⟨b, i, none⟩ ∧ Filled R w b i (joinY h.x.ty h.y.ty)

/-- Once the holes are filled the whole is. -/
def Wand (R : Nat) (D : Nat → Nat → Prop) (w : World) (b i : Nat) (T : Ty) (hs : List Pr) : Prop :=
  ∀ w' : World, (∀ k c, D k c → ¬ Hit hs k c → w'.cell? ⟨k, c, none⟩ = w.cell? ⟨k, c, none⟩) → (∀ h, h ∈ hs → Fills R w' h) → Filled R w' b i T

/-- A hole: two cells that nothing was written into. -/
def Hole (D : Nat → Nat → Prop) (w : World) (h : Pr) : Prop :=
  ∃ b i, h.p = some ⟨b, i, none⟩ ∧ D b i ∧ D b (i + 1) ∧ w.cell? ⟨b, i, none⟩ = some (.int .i64 0) ∧ w.cell? ⟨b, i + 1, none⟩ = some (.slice none 0 0) ∧ w.frozen? ⟨b, i, none⟩ = false ∧ w.frozen? ⟨b, i + 1, none⟩ = false

def Apart (h h' : Pr) : Prop := ∀ b i i', h.p = some ⟨b, i, none⟩ → h'.p = some ⟨b, i', none⟩ → i + 1 < i' ∨ i' + 1 < i

/-- But for block R, one row and two cells the memory is as it was. -/
structure KeptJ (R : Nat) (o : Option Nat) (ib io : Nat) (w w' : World) : Prop where
  os : w'.os = w.os
  tape : w'.tape = w.tape
  output : w'.output = w.output
  size : w.heap.size ≤ w'.heap.size
  block : ∀ k, k < w.heap.size → k ≠ R → some k ≠ o → k ≠ ib → w'.heap[k]? = w.heap[k]?
  cell : ∀ c, c ≠ io → c ≠ io + 1 → w'.cell? ⟨ib, c, none⟩ = w.cell? ⟨ib, c, none⟩
  frozen : ∀ c, w'.frozen? ⟨ib, c, none⟩ = w.frozen? ⟨ib, c, none⟩

theorem KeptJ.same {R : Nat} {o : Option Nat} {ib io : Nat} {w w' : World} (h : KeptJ R o ib io w w') {k c : Nat} (hk : k < w.heap.size) (h1 : k ≠ R) (h2 : some k ≠ o) (h3 : k = ib → c ≠ io ∧ c ≠ io + 1) : w'.cell? ⟨k, c, none⟩ = w.cell? ⟨k, c, none⟩ := by
  by_cases e : k = ib
  · subst e
    exact h.cell c (h3 rfl).1 (h3 rfl).2
  · exact World.cell?_of_block (a := ⟨k, c, none⟩) (h.block k hk h1 h2 e)

theorem KeptJ.fz {R : Nat} {o : Option Nat} {ib io : Nat} {w w' : World} (h : KeptJ R o ib io w w') {k c : Nat} (hk : k < w.heap.size) (h1 : k ≠ R) (h2 : some k ≠ o) : w'.frozen? ⟨k, c, none⟩ = w.frozen? ⟨k, c, none⟩ := by
  by_cases e : k = ib
  · subst e
    exact h.frozen c
  · exact World.frozen?_of_block (a := ⟨k, c, none⟩) (h.block k hk h1 h2 e)

theorem KeptJ.of_kept {R : Nat} {o : Option Nat} {ib io : Nat} {w w' : World} (h : Kept R o w w') (hi : ib < w.heap.size) (h1 : ib ≠ R) (h2 : some ib ≠ o) : KeptJ R o ib io w w' :=
  ⟨h.os, h.tape, h.output, h.size, fun k hk a b _ => h.block k hk a b, fun c _ _ => World.cell?_of_block (a := ⟨ib, c, none⟩) (h.block ib hi h1 h2), fun c => World.frozen?_of_block (a := ⟨ib, c, none⟩) (h.block ib hi h1 h2)⟩

theorem KeptJ.of_wrote {R : Nat} {o : Option Nat} {ib io : Nat} {w w' : World} (h : Wrote ib io w w') : KeptJ R o ib io w w' :=
  ⟨h.os, h.tape, h.output, h.size, fun k hk _ _ e => h.block k hk e, h.cell, h.frozen⟩

/-- What lies lower is as it was. -/
theorem KeptJ.low {R Q : Nat} {qs : List Pr} {o : Option Nat} {ib io : Nat} {w w' : World} (h : KeptJ R o ib io w w') (hl : Lst R qs o w) (hQ : Q ≤ R) (hi : Q ≤ ib) : Below Q w w' :=
  ⟨h.os, h.tape, h.output, h.size, fun k hk => h.block k (by have := hl.lt; omega) (by omega) (fun e => by have := hl.own k e.symm; omega) (by omega)⟩

theorem Lst.of_blocks {R : Nat} {qs : List Pr} {o : Option Nat} {w w' : World} (h : Lst R qs o w) (hR : w'.heap[R]? = w.heap[R]?) (ho : ∀ g, o = some g → w'.heap[g]? = w.heap[g]?) : Lst R qs o w' := by
  obtain ⟨⟨v, hc, hw, rfl⟩, hf⟩ := h
  refine ⟨⟨v, (World.cell?_of_block (a := ⟨R, 0, none⟩) hR).trans hc, ?_, rfl⟩, (World.frozen?_of_block (a := ⟨R, 0, none⟩) hR).trans hf⟩
  refine ⟨hw.1, ?_⟩
  rcases hw.2 with hn | ⟨g, cap, cur, rfl, h1, hgg, rest⟩
  · exact .inl hn
  · exact .inr ⟨g, cap, cur, rfl, h1, by rw [ho g rfl]; exact hgg, rest⟩

theorem Lst.wrote {R : Nat} {qs : List Pr} {o : Option Nat} {ib io : Nat} {w w' : World} (h : Lst R qs o w) (hw : Wrote ib io w w') (h1 : ib ≠ R) (h2 : some ib ≠ o) : Lst R qs o w' :=
  h.of_blocks (hw.block R h.lt (Ne.symm h1)) fun g hg => hw.block g (h.own g hg).2 (fun e => h2 (by rw [hg, e]))

theorem Lst.set {R : Nat} {qs : List Pr} {o : Option Nat} {ib io : Nat} {w : World} {u v : Value} (h : Lst R qs o w) (h1 : ib ≠ R) (h2 : some ib ≠ o) : Lst R qs o ((w.setCell ⟨ib, io, none⟩ u).setCell ⟨ib, io + 1, none⟩ v) :=
  h.of_blocks (by rw [Below.heap_setCell _ _ _ _ (Ne.symm h1), Below.heap_setCell _ _ _ _ (Ne.symm h1)]) fun g hg => by
    have : g ≠ ib := fun e => h2 (by rw [hg, e])
    rw [Below.heap_setCell _ _ _ _ this, Below.heap_setCell _ _ _ _ this]

/-- What the call of join leaves. -/
structure JoinS (R B n : Nat) (x y : Tr) (ib io : Nat) (ps : List Pr) (o : Option Nat) (w : World) (qs : List Pr) (o' : Option Nat) (D : Nat → Nat → Prop) (w' : World) : Prop where
  l : Lst R (ps ++ qs) o' w'
  g : Grew o o' w
  k : KeptJ R o ib io w w'
  q : ∀ q, q ∈ qs → (q.x.At B w ∧ q.x.right) ∧ (q.y.At B w ∧ q.y.right) ∧ Hole D w' q
  a : qs.Pairwise Apart
  s : szs qs + min n 1 ≤ x.sz
  d : ∀ k c, D k c → (k = ib ∧ (c = io ∨ c = io + 1)) ∨ (w.heap.size ≤ k ∧ k < w'.heap.size ∧ some k ≠ o')
  v : Wand R D w' ib io (joinY x.ty y.ty) qs

/-- What is asked of the place that is to be written into. -/
structure JPre (R B ib io : Nat) (ps : List Pr) (o : Option Nat) (w : World) : Prop where
  l : Lst R ps o w
  z0 : w.cell? ⟨ib, io, none⟩ = some (.int .i64 0)
  z1 : w.cell? ⟨ib, io + 1, none⟩ = some (.slice none 0 0)
  f0 : w.frozen? ⟨ib, io, none⟩ = false
  f1 : w.frozen? ⟨ib, io + 1, none⟩ = false
  r : ib ≠ R
  o : some ib ≠ o
  b : B ≤ ib
  c : B ≤ R

theorem JPre.lt {R B ib io : Nat} {ps : List Pr} {o : Option Nat} {w : World} (h : JPre R B ib io ps o w) : ib < w.heap.size := World.block_lt_of_cell? _ _ h.z0

def Two (ib io : Nat) (k c : Nat) : Prop := k = ib ∧ (c = io ∨ c = io + 1)

/-- Nothing is put off. -/
theorem JoinS.empty {R B n : Nat} {x y : Tr} {ib io : Nat} {ps : List Pr} {o : Option Nat} {w w' : World} (hp : JPre R B ib io ps o w) (hw : Wrote ib io w w') (t : Tr) (ht : t.ty = joinY x.ty y.ty) (htl : t.l = []) (c0 : w'.cell? ⟨ib, io, none⟩ = some (.int .i64 t.k)) (c1 : w'.cell? ⟨ib, io + 1, none⟩ = some (.slice t.a t.l.length t.c)) :
    JoinS R B n x y ib io ps o w [] o (Two ib io) w' := by
  refine ⟨by simpa using hp.l.wrote hw hp.r hp.o, .inl rfl, KeptJ.of_wrote hw, fun q h => (by cases h), List.Pairwise.nil, ?_, fun k c h => .inl h, fun W hW _ => ⟨t, ht, ?_, ?_, ?_, ?_⟩⟩
  · have := x.sz_pos
    simp only [szs_nil]; omega
  · obtain ⟨k, a, c, l⟩ := t
    dsimp only at htl
    subst htl
    exact Tr.In_nil _ _ _ _
  · obtain ⟨k, a, c, l⟩ := t
    dsimp only at htl
    subst htl
    exact Tr.Bl_nil _ _ _ _
  · rw [hW ib io ⟨rfl, .inl rfl⟩ (fun ⟨h, hh, _⟩ => by cases hh)]; exact c0
  · rw [hW ib (io + 1) ⟨rfl, .inr rfl⟩ (fun ⟨h, hh, _⟩ => by cases hh)]; exact c1

/-- All is put off. -/
theorem JoinS.off {R B : Nat} {x y : Tr} {ib io : Nat} {ps : List Pr} {o o' : Option Nat} {w w0 w' : World} (hp : JPre R B ib io ps o w) (hx : x.At B w) (hy : y.At B w) (rx : x.right) (ry : y.right) (hb : Below w.heap.size w w0) (hl : Lst R (ps ++ [⟨x, y, some ⟨ib, io, none⟩⟩]) o' w') (hg : Grew o o' w0) (hk : Kept R o w0 w') :
    JoinS R B 0 x y ib io ps o w [⟨x, y, some ⟨ib, io, none⟩⟩] o' (Two ib io) w' := by
  have hkk : Kept R o w w' := (Kept.of_below hb).trans (.inl rfl) hk
  have hblk := hkk.block ib hp.lt hp.r hp.o
  refine ⟨hl, hg.later hb.size, KeptJ.of_kept hkk hp.lt hp.r hp.o, fun q h => ?_, List.pairwise_singleton _ _, by simp [szs_one], fun k c h => .inl h, fun W _ hf => ?_⟩
  · rcases List.mem_singleton.1 h with rfl
    exact ⟨⟨hx, rx⟩, ⟨hy, ry⟩, ib, io, rfl, ⟨rfl, .inl rfl⟩, ⟨rfl, .inr rfl⟩, (World.cell?_of_block (a := ⟨ib, io, none⟩) hblk).trans hp.z0, (World.cell?_of_block (a := ⟨ib, io + 1, none⟩) hblk).trans hp.z1, (World.frozen?_of_block (a := ⟨ib, io, none⟩) hblk).trans hp.f0, (World.frozen?_of_block (a := ⟨ib, io + 1, none⟩) hblk).trans hp.f1⟩
  · obtain ⟨b, i, e, h⟩ := hf _ (List.mem_singleton.2 rfl)
    cases e
    exact h

theorem Hole.later {D D' : Nat → Nat → Prop} {w w' : World} {h : Pr} (hh : Hole D w h) (hD : ∀ k c, D k c → D' k c) (hc : ∀ k c, D k c → w'.cell? ⟨k, c, none⟩ = w.cell? ⟨k, c, none⟩ ∧ w'.frozen? ⟨k, c, none⟩ = w.frozen? ⟨k, c, none⟩) : Hole D' w' h := by
  obtain ⟨b, i, e, d0, d1, c0, c1, f0, f1⟩ := hh
  exact ⟨b, i, e, hD _ _ d0, hD _ _ d1, (hc _ _ d0).1.trans c0, (hc _ _ d1).1.trans c1, (hc _ _ d0).2.trans f0, (hc _ _ d1).2.trans f1⟩

theorem Hole.hit {D : Nat → Nat → Prop} {w : World} {hs : List Pr} (hh : ∀ h, h ∈ hs → Hole D w h) {k c : Nat} (h : Hit hs k c) : D k c := by
  obtain ⟨q, hq, i, e, hc⟩ := h
  obtain ⟨b, i', e', d0, d1, _⟩ := hh q hq
  rw [e] at e'
  cases e'
  rcases hc with rfl | rfl
  · exact d0
  · exact d1
end Go.Proofs.Ytnddkmccagiclaa
