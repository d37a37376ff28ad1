/-
  Trees that stand for Go values of the type 'Type{Kind int, L []Type}', with the addresses at which their lists lie, and what it means that such a tree lies in a world; no program in it.
-/
import Derived.WalkKit
import Derived.WalkSpells
import Derived.Test.YtnddkmccagiclaaRows
import Derived.Deep.RegionHeld3
import Derived.Deep.AppendLies
import Derived.Deep.RegionLaw
namespace Go.Proofs.Ytnddkmccagiclaa
open Go.RowKit

/-- A type: its kind, where its list lies, the list's capacity, its parts. -/
structure Tr where
  k : Int
  a : Option Addr
  c : Nat
  l : List Tr

theorem Tr.ind {P : Tr → Prop} (h : ∀ k a c l, (∀ t, t ∈ l → P t) → P ⟨k, a, c, l⟩) : ∀ t, P t
  | ⟨k, a, c, l⟩ => h k a c l fun t _ => Tr.ind h t

/-- The list's value. -/
def Tr.sl (t : Tr) : Value := .slice t.a t.l.length t.c

/-- The tree's parts lie in the world, each in two cells. -/
def Tr.In (w : World) : Tr → Prop
  | ⟨_, a, _, l⟩ => (∀ j (h : j < l.length), ∃ b o, a = some ⟨b, o, none⟩ ∧ w.cell? ⟨b, o + j * 2, none⟩ = some (.int .i64 l[j].k) ∧ w.cell? ⟨b, o + j * 2 + 1, none⟩ = some l[j].sl) ∧ ∀ t, t ∈ l → t.In w

theorem Tr.In_mk {w : World} {k : Int} {a : Option Addr} {c : Nat} {l : List Tr} : (Tr.mk k a c l).In w ↔ (∀ j (h : j < l.length), ∃ b o, a = some ⟨b, o, none⟩ ∧ w.cell? ⟨b, o + j * 2, none⟩ = some (.int .i64 l[j].k) ∧ w.cell? ⟨b, o + j * 2 + 1, none⟩ = some l[j].sl) ∧ ∀ t, t ∈ l → t.In w := by
  rw [Tr.In]

theorem Tr.In_nil (w : World) (k : Int) (a : Option Addr) (c : Nat) : (Tr.mk k a c []).In w :=
  Tr.In_mk.2 ⟨fun j h => absurd h (by simp), fun t h => absurd h (by simp)⟩

theorem Tr.In_two {w : World} {k : Int} {b o c : Nat} {x y : Tr} (c0 : w.cell? ⟨b, o, none⟩ = some (.int .i64 x.k)) (c1 : w.cell? ⟨b, o + 1, none⟩ = some (.slice x.a x.l.length x.c)) (c2 : w.cell? ⟨b, o + 2, none⟩ = some (.int .i64 y.k)) (c3 : w.cell? ⟨b, o + 3, none⟩ = some (.slice y.a y.l.length y.c)) (hx : x.In w) (hy : y.In w) :
    (Tr.mk k (some ⟨b, o, none⟩) c [x, y]).In w := by
  refine Tr.In_mk.2 ⟨fun j h => ?_, fun t h => ?_⟩
  · match j, h with
    | 0, _ => exact ⟨b, o, rfl, by simpa using c0, by simpa [Tr.sl] using c1⟩
    | 1, _ => exact ⟨b, o, rfl, by simpa using c2, by simpa [Tr.sl] using c3⟩
  · rcases List.mem_cons.1 h with rfl | h
    · exact hx
    · rcases List.mem_cons.1 h with rfl | h
      · exact hy
      · cases h

/-- Part j: where it lies, what its two cells hold, and that it lies there whole. -/
theorem Tr.In.part {w : World} {t : Tr} (h : t.In w) (j : Nat) (hj : j < t.l.length) : ∃ b o, t.a = some ⟨b, o, none⟩ ∧ w.cell? ⟨b, o + j * 2, none⟩ = some (.int .i64 t.l[j].k) ∧ w.cell? ⟨b, o + j * 2 + 1, none⟩ = some (.slice t.l[j].a t.l[j].l.length t.l[j].c) ∧ t.l[j].In w := by
  obtain ⟨k, a, c, l⟩ := t
  obtain ⟨hc, hi⟩ := Tr.In_mk.1 h
  obtain ⟨b, o, e, c0, c1⟩ := hc j hj
  exact ⟨b, o, e, c0, c1, hi _ (List.getElem_mem hj)⟩

theorem Tr.In.at {w : World} {k : Int} {a : Option Addr} {c : Nat} {l : List Tr} (h : (Tr.mk k a c l).In w) (j : Nat) (hj : j < l.length) : ∃ b o, a = some ⟨b, o, none⟩ ∧ w.cell? ⟨b, o + j * 2, none⟩ = some (.int .i64 l[j].k) ∧ w.cell? ⟨b, o + j * 2 + 1, none⟩ = some (.slice l[j].a l[j].l.length l[j].c) ∧ l[j].In w :=
  Tr.In.part h j hj

theorem Tr.In.below {w w' : World} (hb : Below w.heap.size w w') {t : Tr} : t.In w → t.In w' := by
  induction t using Tr.ind with
  | h k a c l ih =>
    intro h
    obtain ⟨hc, hi⟩ := Tr.In_mk.1 h
    refine Tr.In_mk.2 ⟨fun j hj => ?_, fun t ht => ih t ht (hi t ht)⟩
    obtain ⟨b, o, e, c0, c1⟩ := hc j hj
    exact ⟨b, o, e, cell_later hb c0, cell_later hb c1⟩

/-- The blocks in which the tree's parts lie are of this kind. -/
def Tr.Bl (P : Nat → Prop) : Tr → Prop
  | ⟨_, a, _, l⟩ => (l ≠ [] → ∀ x, a = some x → P x.block) ∧ ∀ t, t ∈ l → t.Bl P

theorem Tr.Bl_mk {P : Nat → Prop} {k : Int} {a : Option Addr} {c : Nat} {l : List Tr} : (Tr.mk k a c l).Bl P ↔ (l ≠ [] → ∀ x, a = some x → P x.block) ∧ ∀ t, t ∈ l → t.Bl P := by
  rw [Tr.Bl]

theorem Tr.Bl_nil (P : Nat → Prop) (k : Int) (a : Option Addr) (c : Nat) : (Tr.mk k a c []).Bl P :=
  Tr.Bl_mk.2 ⟨fun h => absurd rfl h, fun t h => absurd h (by simp)⟩

theorem Tr.Bl_two {P : Nat → Prop} {k : Int} {b o c : Nat} {x y : Tr} (h : P b) (hx : x.Bl P) (hy : y.Bl P) : (Tr.mk k (some ⟨b, o, none⟩) c [x, y]).Bl P := by
  refine Tr.Bl_mk.2 ⟨fun _ x hx => by cases hx; exact h, fun t ht => ?_⟩
  rcases List.mem_cons.1 ht with rfl | ht
  · exact hx
  · rcases List.mem_cons.1 ht with rfl | ht
    · exact hy
    · cases ht

theorem Tr.Bl.mono {P Q : Nat → Prop} (hPQ : ∀ b, P b → Q b) {t : Tr} : t.Bl P → t.Bl Q := by
  induction t using Tr.ind with
  | h k a c l ih =>
    intro h
    obtain ⟨h1, h2⟩ := Tr.Bl_mk.1 h
    exact Tr.Bl_mk.2 ⟨fun hl x hx => hPQ _ (h1 hl x hx), fun t ht => ih t ht (h2 t ht)⟩

theorem Tr.Bl.and {P Q : Nat → Prop} {t : Tr} : t.Bl P → t.Bl Q → t.Bl (fun b => P b ∧ Q b) := by
  induction t using Tr.ind with
  | h k a c l ih =>
    intro h g
    obtain ⟨h1, h2⟩ := Tr.Bl_mk.1 h
    obtain ⟨g1, g2⟩ := Tr.Bl_mk.1 g
    exact Tr.Bl_mk.2 ⟨fun hl x hx => ⟨h1 hl x hx, g1 hl x hx⟩, fun t ht => ih t ht (h2 t ht) (g2 t ht)⟩

theorem Tr.In.bl {w : World} {t : Tr} : t.In w → t.Bl (· < w.heap.size) := by
  induction t using Tr.ind with
  | h k a c l ih =>
    intro h
    obtain ⟨hc, hi⟩ := Tr.In_mk.1 h
    refine Tr.Bl_mk.2 ⟨fun hl x hx => ?_, fun t ht => ih t ht (hi t ht)⟩
    obtain ⟨b, o, e, c0, _⟩ := hc 0 (List.length_pos_iff.2 hl)
    rw [e] at hx
    have := Option.some.inj hx
    subst this
    exact World.block_lt_of_cell? _ _ c0

/-- What lies in blocks that read as they did lies there still. -/
theorem Tr.In.congr {w w' : World} {P : Nat → Prop} (hP : ∀ b, P b → ∀ o, w'.cell? ⟨b, o, none⟩ = w.cell? ⟨b, o, none⟩) {t : Tr} : t.Bl P → t.In w → t.In w' := by
  induction t using Tr.ind with
  | h k a c l ih =>
    intro hb h
    obtain ⟨hc, hi⟩ := Tr.In_mk.1 h
    obtain ⟨b1, b2⟩ := Tr.Bl_mk.1 hb
    refine Tr.In_mk.2 ⟨fun j hj => ?_, fun t ht => ih t ht (b2 t ht) (hi t ht)⟩
    obtain ⟨b, o, e, c0, c1⟩ := hc j hj
    have hx : P b := b1 (fun e => by rw [e] at hj; simp at hj) _ e
    exact ⟨b, o, e, by rw [hP b hx]; exact c0, by rw [hP b hx]; exact c1⟩

/-- Is it one of the four kinds, of as many good parts as it has, and of at most so many levels? -/
def goodT : Nat → Tr → Bool
  | 0, _ => false
  | n + 1, ⟨k, _, _, l⟩ => match l with
    | [] => k == 0 || k == 1 || k == 2
    | [x, y] => k == 3 && goodT n x && goodT n y
    | _ => false

theorem bcell {W w1 : World} (hb : Below W.heap.size W w1) : (∀ b o, b < W.heap.size → w1.cell? ⟨b, o, none⟩ = W.cell? ⟨b, o, none⟩) ∧ (∀ b o, b < W.heap.size → w1.frozen? ⟨b, o, none⟩ = W.frozen? ⟨b, o, none⟩) :=
  ⟨fun b o h => hb.cell (p := ⟨b, o, none⟩) h, fun b o h => hb.frozen (p := ⟨b, o, none⟩) h⟩
end Go.Proofs.Ytnddkmccagiclaa

/-
  What the calls of kind.goodWithin and kind.Good answer, at whatever tree lies in memory.
-/
namespace Go.Proofs.Ytnddkmccagiclaa
open Go.RowKit

set_option maxHeartbeats 400000 in
theorem within_zero (k : Int) (a : Option Addr) (c : Nat) (l : List Tr) (w : World) :
    Calls Try.prog 28 #[.agg #[.int .i64 k, .slice a l.length c], .int .i64 0] w fun e w' => e = .returned (.bool false) ∧ Below w.heap.size w w' := by
  go_enter Try.func28, Try.ntmps28
  go_wp2_with fail
  go_ret
  exact ⟨rfl, (Below.refl _ _).alloc (Nat.le_refl _) _⟩

set_option maxHeartbeats 400000 in
theorem within_leaf (n : Nat) (hn : n ≤ 1000) (k : Int) (hk : k = 0 ∨ k = 1 ∨ k = 2) (a : Option Addr) (c : Nat) (m : Nat) (w : World) :
    Calls Try.prog 28 #[.agg #[.int .i64 k, .slice a m c], .int .i64 ((n : Int) + 1)] w fun e w' => e = .returned (.bool ((m : Int) == 0)) ∧ Below w.heap.size w w' := by
  have h1 : (((n : Int) + 1) == 0) = false := by simp; omega
  rcases hk with rfl | rfl | rfl <;>
  · go_enter Try.func28, Try.ntmps28
    go_wp2_with fail
    go_ret
    exact ⟨rfl, (Below.refl _ _).alloc (Nat.le_refl _) _⟩

set_option maxHeartbeats 400000 in
theorem within_other (n : Nat) (hn : n ≤ 1000) (k : Int) (h0 : (k == 0) = false) (h1 : (k == 1) = false) (h2 : (k == 2) = false) (h3 : (k == 3) = false) (a : Option Addr) (c : Nat) (m : Nat) (w : World) :
    Calls Try.prog 28 #[.agg #[.int .i64 k, .slice a m c], .int .i64 ((n : Int) + 1)] w fun e w' => e = .returned (.bool false) ∧ Below w.heap.size w w' := by
  have hz : (((n : Int) + 1) == 0) = false := by simp; omega
  go_enter Try.func28, Try.ntmps28
  go_wp2_with fail
  go_ret
  exact ⟨rfl, (Below.refl _ _).alloc (Nat.le_refl _) _⟩

set_option maxHeartbeats 400000 in
theorem within_fun_no (n : Nat) (hn : n ≤ 1000) (a : Option Addr) (c : Nat) (m : Nat) (hm : ((m : Int) == 2) = false) (w : World) :
    Calls Try.prog 28 #[.agg #[.int .i64 3, .slice a m c], .int .i64 ((n : Int) + 1)] w fun e w' => e = .returned (.bool false) ∧ Below w.heap.size w w' := by
  have hz : (((n : Int) + 1) == 0) = false := by simp; omega
  go_enter Try.func28, Try.ntmps28
  go_wp2_with fail
  go_ret
  exact ⟨rfl, (Below.refl _ _).alloc (Nat.le_refl _) _⟩

set_option maxHeartbeats 400000 in
theorem within_fun (n : Nat) (hn : n ≤ 1000) (b o c : Nat) (kx ky : Int) (ax ay : Option Addr) (mx my cx cy : Nat) (gx gy : Bool) (w : World)
    (x0 : w.cell? ⟨b, o, none⟩ = some (.int .i64 kx)) (x1 : w.cell? ⟨b, o + 1, none⟩ = some (.slice ax mx cx))
    (y0 : w.cell? ⟨b, o + 2, none⟩ = some (.int .i64 ky)) (y1 : w.cell? ⟨b, o + 3, none⟩ = some (.slice ay my cy))
    (hx : Hid (∀ w', Below w.heap.size w w' → Calls Try.prog 28 #[.agg #[.int .i64 kx, .slice ax mx cx], .int .i64 (n : Int)] w' fun e w'' => e = .returned (.bool gx) ∧ Below w'.heap.size w' w''))
    (hy : Hid (∀ w', Below w.heap.size w w' → Calls Try.prog 28 #[.agg #[.int .i64 ky, .slice ay my cy], .int .i64 (n : Int)] w' fun e w'' => e = .returned (.bool gy) ∧ Below w'.heap.size w' w'')) :
    Calls Try.prog 28 #[.agg #[.int .i64 3, .slice (some ⟨b, o, none⟩) 2 c], .int .i64 ((n : Int) + 1)] w fun e w' => e = .returned (.bool (gx && gy)) ∧ Below w.heap.size w w' := by
  have hz : (((n : Int) + 1) == 0) = false := by simp; omega
  have lb : b < w.heap.size := World.block_lt_of_cell? _ _ x0
  cases gx
  · go_enter Try.func28, Try.ntmps28
    go_wp2_with fail
    refine (hx.out _ ((Below.refl _ _).alloc (Nat.le_refl _) _)).mono ?_
    rintro e w1 ⟨rfl, hb1⟩
    go_wp2_with fail
    go_ret
    exact ⟨rfl, ((Below.refl _ _).alloc (Nat.le_refl _) _).trans (hb1.mono (by simp))⟩
  · go_enter Try.func28, Try.ntmps28
    go_wp2_with fail
    refine (hx.out _ ((Below.refl _ _).alloc (Nat.le_refl _) _)).mono ?_
    rintro e w1 ⟨rfl, hb1⟩
    have hbw : Below w.heap.size w w1 := ((Below.refl _ _).alloc (Nat.le_refl _) _).trans (hb1.mono (by simp))
    have b1 : w1.cell? ⟨w.heap.size, 1, none⟩ = some (.slice (some ⟨b, o, none⟩) 2 c) := cell_later hb1 (by simp [go_sem])
    have y0' := cell_later hbw y0
    have y1' := cell_later hbw y1
    go_wp2_with fail
    refine (hy.out _ hbw).mono ?_
    rintro e w2 ⟨rfl, hb2⟩
    go_wp2_with fail
    go_ret
    exact ⟨by simp, hbw.trans (hb2.mono hbw.size)⟩

theorem within_zero' (t : Tr) (w : World) : Calls Try.prog 28 #[.agg #[.int .i64 t.k, .slice t.a t.l.length t.c], .int .i64 0] w fun e w' => e = .returned (.bool (goodT 0 t)) ∧ Below w.heap.size w w' := by
  refine (within_zero t.k t.a t.c t.l w).mono ?_
  rintro e w' ⟨rfl, hb⟩
  exact ⟨by simp [goodT], hb⟩

theorem within_any (n : Nat) : n ≤ 1000 → ∀ (t : Tr) (w : World), t.In w →
    Calls Try.prog 28 #[.agg #[.int .i64 t.k, .slice t.a t.l.length t.c], .int .i64 (n : Int)] w fun e w' => e = .returned (.bool (goodT n t)) ∧ Below w.heap.size w w' := by
  induction n with
  | zero =>
    intro _ t w _
    have e : ((0 : Nat) : Int) = 0 := rfl
    rw [e]
    exact within_zero' t w
  | succ n ih =>
    intro hn ⟨k, a, c, l⟩ w hin
    have e : ((n + 1 : Nat) : Int) = (n : Int) + 1 := by omega
    rw [e]
    dsimp only
    by_cases hk : k = 0 ∨ k = 1 ∨ k = 2
    · refine (within_leaf n (by omega) k hk a c l.length w).mono ?_
      rintro e w' ⟨rfl, hb⟩
      refine ⟨?_, hb⟩
      have e3 : (k == 3) = false := by simp; omega
      have eo : (k == 0 || k == 1 || k == 2) = true := by simpa [or_assoc] using hk
      match l with
      | [] => simp [goodT, eo]
      | [x] => simp [goodT]
      | [x, y] => simp [goodT, e3]
      | x :: y :: z :: r => simp [goodT]; omega
    · have h0 : (k == 0) = false := by simp; omega
      have h1 : (k == 1) = false := by simp; omega
      have h2 : (k == 2) = false := by simp; omega
      by_cases h3 : k = 3
      · subst h3
        match l, hin with
        | [], hin => exact within_fun_no n (by omega) a c 0 (by decide) w
        | [x], hin => exact within_fun_no n (by omega) a c 1 (by decide) w
        | x :: y :: z :: r, hin =>
          refine (within_fun_no n (by omega) a c (x :: y :: z :: r).length (by simp; omega) w).mono ?_
          rintro e w' ⟨rfl, hb⟩
          exact ⟨by simp [goodT], hb⟩
        | [x, y], hin =>
          obtain ⟨b, o, e0, x0, x1, hx⟩ := hin.at 0 (by simp)
          obtain ⟨b', o', e1, y0, y1, hy⟩ := hin.at 1 (by simp)
          rw [e0] at e1
          obtain ⟨rfl, rfl⟩ : b = b' ∧ o = o' := by simpa using e1
          subst e0
          refine (within_fun n (by omega) b o c x.k y.k x.a y.a x.l.length y.l.length x.c y.c (goodT n x) (goodT n y) w (by simpa using x0) (by simpa using x1) (by simpa using y0) (by simpa using y1)
            (fun w' hb => ih (by omega) x w' (hx.below hb)) (fun w' hb => ih (by omega) y w' (hy.below hb))).mono ?_
          rintro e w' ⟨rfl, hb⟩
          exact ⟨by simp [goodT], hb⟩
      · refine (within_other n (by omega) k h0 h1 h2 (by simpa using h3) a c l.length w).mono ?_
        rintro e w' ⟨rfl, hb⟩
        refine ⟨?_, hb⟩
        have e3 : (k == 3) = false := by simpa using h3
        match l with
        | [] => simp [goodT, h0, h1, h2]
        | [x] => simp [goodT]
        | [x, y] => simp [goodT, e3]
        | x :: y :: z :: r => simp [goodT]

set_option maxHeartbeats 400000 in
/-- kind.Good. -/
theorem good_any (t : Tr) (w : World) (hin : t.In w) :
    Calls Try.prog 7 #[.agg #[.int .i64 t.k, .slice t.a t.l.length t.c]] w fun e w' => e = .returned (.bool (goodT 4 t)) ∧ Below w.heap.size w w' := by
  have hw := within_any 4 (by omega) t
  have HW : Hid (∀ (w : World), t.In w → Calls Try.prog 28 #[.agg #[.int .i64 t.k, .slice t.a t.l.length t.c], .int .i64 4] w fun e w' => e = .returned (.bool (goodT 4 t)) ∧ Below w.heap.size w w') := hw
  clear hw
  go_enter Try.func7, Try.ntmps7
  go_wp2_with fail
  refine (HW.out _ (hin.below ((Below.refl _ _).alloc (Nat.le_refl _) _))).mono ?_
  rintro e w1 ⟨rfl, hb1⟩
  go_wp2_with fail
  go_ret
  exact ⟨rfl, ((Below.refl _ _).alloc (Nat.le_refl _) _).trans (hb1.mono (by simp))⟩
end Go.Proofs.Ytnddkmccagiclaa

/-
  Types without addresses, and the plain mathematics of how they go together: alike, fitting, finer, joined, plain, sure; no program in it.
-/
namespace Go.Proofs.Ytnddkmccagiclaa

structure Ty where
  k : Int
  l : List Ty

theorem Ty.ind {P : Ty → Prop} (h : ∀ k l, (∀ t, t ∈ l → P t) → P ⟨k, l⟩) : ∀ t, P t
  | ⟨k, l⟩ => h k l fun t _ => Ty.ind h t

def Tr.ty : Tr → Ty
  | ⟨k, _, _, l⟩ => ⟨k, l.map fun t => t.ty⟩

theorem Tr.ty_mk (k : Int) (a : Option Addr) (c : Nat) (l : List Tr) : (Tr.mk k a c l).ty = ⟨k, l.map Tr.ty⟩ := by
  rw [Tr.ty]

theorem Tr.ty_k (t : Tr) : t.ty.k = t.k := by cases t; rw [Tr.ty_mk]
theorem Tr.ty_l (t : Tr) : t.ty.l = t.l.map Tr.ty := by cases t; rw [Tr.ty_mk]

/-- Good, without addresses. -/
def goodY : Nat → Ty → Bool
  | 0, _ => false
  | n + 1, ⟨k, l⟩ => match l with
    | [] => k == 0 || k == 1 || k == 2
    | [x, y] => k == 3 && goodY n x && goodY n y
    | _ => false

theorem goodT_eq : ∀ (n : Nat) (t : Tr), goodT n t = goodY n t.ty
  | 0, t => by simp [goodT, goodY]
  | n + 1, ⟨k, a, c, l⟩ => by
    match l with
    | [] => simp [goodT, goodY, Tr.ty_mk]
    | [x] => simp [goodT, goodY, Tr.ty_mk]
    | [x, y] => simp [goodT, goodY, Tr.ty_mk, goodT_eq n]
    | x :: y :: z :: r => simp [goodT, goodY, Tr.ty_mk]

/-- Do two lists go together, each with each? -/
def all2 {α β : Type} : (l : List α) → List β → ((x : α) → x ∈ l → β → Bool) → Bool
  | [], [], _ => true
  | x :: r, y :: s, f => f x List.mem_cons_self y && all2 r s (fun z h y => f z (List.mem_cons_of_mem _ h) y)
  | _, _, _ => false

/-- How two types go together: an escape at the top, or one kind and parts that go together. -/
def relY (esc : Int → Int → Bool) : Ty → Ty → Bool
  | ⟨k, l⟩, ⟨k', l'⟩ => esc k k' || (k == k' && all2 l l' fun x _ y => relY esc x y)

def relL (esc : Int → Int → Bool) : List Ty → List Ty → Bool
  | [], [] => true
  | x :: r, y :: s => relY esc x y && relL esc r s
  | _, _ => false

theorem all2_rel (esc : Int → Int → Bool) : ∀ l l' : List Ty, (all2 l l' fun x _ y => relY esc x y) = relL esc l l'
  | [], [] => by simp [all2, relL]
  | x :: r, y :: s => by simp [all2, relL, all2_rel esc r s]
  | [], _ :: _ => by simp [all2, relL]
  | _ :: _, [] => by simp [all2, relL]

theorem relY_mk (esc : Int → Int → Bool) (k k' : Int) (l l' : List Ty) : relY esc ⟨k, l⟩ ⟨k', l'⟩ = (esc k k' || (k == k' && relL esc l l')) := by
  rw [relY, all2_rel]

def escSame : Int → Int → Bool := fun _ _ => false
def escFits : Int → Int → Bool := fun k k' => k == 0 || k' == 0
def escFiner : Int → Int → Bool := fun _ k' => k' == 0

theorem relL_len (esc : Int → Int → Bool) : ∀ (l l' : List Ty), relL esc l l' = true → l.length = l'.length
  | [], [], _ => rfl
  | x :: r, y :: s, h => by
    simp only [relL, Bool.and_eq_true] at h
    simp [relL_len esc r s h.2]
  | [], _ :: _, h => by simp [relL] at h
  | _ :: _, [], h => by simp [relL] at h

theorem relL_all (esc : Int → Int → Bool) : ∀ (l l' : List Ty) (_ : l.length = l'.length), (∀ j (h : j < l.length) (h' : j < l'.length), relY esc l[j] l'[j] = true) → relL esc l l' = true
  | [], [], _, _ => by simp [relL]
  | x :: r, y :: s, hl, h => by
    simp only [relL, Bool.and_eq_true]
    refine ⟨h 0 (by simp) (by simp), relL_all esc r s (by simpa using hl) fun j h1 h2 => ?_⟩
    exact h (j + 1) (by simpa using h1) (by simpa using h2)

theorem relL_not (esc : Int → Int → Bool) : ∀ (l l' : List Ty) (j : Nat) (h : j < l.length) (h' : j < l'.length), relY esc l[j] l'[j] = false → relL esc l l' = false
  | [], _, j, h, _, _ => by simp at h
  | x :: r, [], j, _, h', _ => by simp at h'
  | x :: r, y :: s, 0, _, _, e => by simp only [List.getElem_cons_zero] at e; simp [relL, e]
  | x :: r, y :: s, j + 1, h, h', e => by
    simp only [relL, relL_not esc r s j (by simpa using h) (by simpa using h') (by simpa using e), Bool.and_false]

/-- Two lists, each with each. -/
def zip2 {α β γ : Type} : (l : List α) → List β → ((x : α) → x ∈ l → β → γ) → List γ
  | x :: r, y :: s, f => f x List.mem_cons_self y :: zip2 r s (fun z h y => f z (List.mem_cons_of_mem _ h) y)
  | _, _, _ => []

/-- What two types both say. -/
def joinY : Ty → Ty → Ty
  | ⟨k, l⟩, ⟨k', l'⟩ => if k = k' then ⟨k, zip2 l l' fun x _ y => joinY x y⟩ else ⟨0, []⟩

def joinL : List Ty → List Ty → List Ty
  | x :: r, y :: s => joinY x y :: joinL r s
  | _, _ => []

theorem zip2_join : ∀ l l' : List Ty, (zip2 l l' fun x _ y => joinY x y) = joinL l l'
  | [], [] => by simp [zip2, joinL]
  | x :: r, y :: s => by simp [zip2, joinL, zip2_join r s]
  | [], _ :: _ => by simp [zip2, joinL]
  | _ :: _, [] => by simp [zip2, joinL]

theorem joinY_mk (k k' : Int) (l l' : List Ty) : joinY ⟨k, l⟩ ⟨k', l'⟩ = if k = k' then ⟨k, joinL l l'⟩ else ⟨0, []⟩ := by
  rw [joinY, zip2_join]

/-- One of the four kinds, Fun of two parts that are right, all others of none. -/
def Tr.right : Tr → Prop
  | ⟨k, _, _, l⟩ => (l = [] ∧ (k = 0 ∨ k = 1 ∨ k = 2) ∨ l.length = 2 ∧ k = 3) ∧ ∀ t, t ∈ l → t.right

theorem Tr.right_mk {k : Int} {a : Option Addr} {c : Nat} {l : List Tr} : (Tr.mk k a c l).right ↔ (l = [] ∧ (k = 0 ∨ k = 1 ∨ k = 2) ∨ l.length = 2 ∧ k = 3) ∧ ∀ t, t ∈ l → t.right := by
  rw [Tr.right]

theorem Tr.right_good : ∀ (n : Nat) (t : Tr), goodT n t = true → t.right
  | 0, t, h => by simp [goodT] at h
  | n + 1, ⟨k, a, c, l⟩, h => by
    refine Tr.right_mk.2 ?_
    match l, h with
    | [], h => exact ⟨.inl ⟨rfl, by simpa [goodT, or_assoc] using h⟩, fun t ht => by cases ht⟩
    | [x], h => simp [goodT] at h
    | [x, y], h =>
      simp only [goodT, Bool.and_eq_true] at h
      refine ⟨.inr ⟨rfl, by simpa using h.1.1⟩, fun t ht => ?_⟩
      rcases List.mem_cons.1 ht with rfl | ht
      · exact Tr.right_good n _ h.1.2
      · rcases List.mem_cons.1 ht with rfl | ht
        · exact Tr.right_good n _ h.2
        · cases ht
    | x :: y :: z :: r, h => simp [goodT] at h

theorem Tr.right.cases {t : Tr} (h : t.right) : (t.l = [] ∧ (t.k = 0 ∨ t.k = 1 ∨ t.k = 2)) ∨ (∃ x y, t.l = [x, y] ∧ t.k = 3 ∧ x.right ∧ y.right) := by
  obtain ⟨k, a, c, l⟩ := t
  rcases Tr.right_mk.1 h with ⟨⟨rfl, hk⟩ | ⟨hl, hk⟩, hr⟩
  · exact .inl ⟨rfl, hk⟩
  · match l, hl, hr with
    | [x, y], _, hr => exact .inr ⟨x, y, rfl, hk, hr x (by simp), hr y (by simp)⟩

/-- How many levels. -/
def Tr.hgt : Tr → Nat
  | ⟨_, _, _, l⟩ => (l.map fun t => t.hgt).foldr max 0 + 1

theorem Tr.hgt_mk (k : Int) (a : Option Addr) (c : Nat) (l : List Tr) : (Tr.mk k a c l).hgt = (l.map Tr.hgt).foldr max 0 + 1 := by
  rw [Tr.hgt]

theorem le_maxes : ∀ (l : List Nat) (j : Nat) (h : j < l.length), l[j] ≤ l.foldr max 0
  | [], j, h => by simp at h
  | x :: r, 0, _ => by simp only [List.getElem_cons_zero, List.foldr_cons]; omega
  | x :: r, j + 1, h => by
    have := le_maxes r j (by simpa using h)
    simp only [List.getElem_cons_succ, List.foldr_cons]; omega

/-- No list in it is longer than any memory. -/
def Tr.sm : Tr → Prop
  | ⟨_, _, _, l⟩ => l.length ≤ 140737488355328 ∧ ∀ t, t ∈ l → t.sm

theorem Tr.sm_mk {k : Int} {a : Option Addr} {c : Nat} {l : List Tr} : (Tr.mk k a c l).sm ↔ l.length ≤ 140737488355328 ∧ ∀ t, t ∈ l → t.sm := by
  rw [Tr.sm]

theorem Tr.sm.len {t : Tr} (h : t.sm) : t.l.length ≤ 140737488355328 := by cases t; exact (Tr.sm_mk.1 h).1
theorem Tr.sm.part {t : Tr} (h : t.sm) (j : Nat) (hj : j < t.l.length) : t.l[j].sm := by
  obtain ⟨k, a, c, l⟩ := t
  exact (Tr.sm_mk.1 h).2 _ (List.getElem_mem hj)

theorem Tr.sm_good : ∀ (n : Nat) (t : Tr), goodT n t = true → t.sm
  | 0, t, h => by simp [goodT] at h
  | n + 1, ⟨k, a, c, l⟩, h => by
    refine Tr.sm_mk.2 ?_
    match l, h with
    | [], _ => exact ⟨by simp, fun t ht => by cases ht⟩
    | [x], h => simp [goodT] at h
    | [x, y], h =>
      simp only [goodT, Bool.and_eq_true] at h
      refine ⟨by simp, fun t ht => ?_⟩
      rcases List.mem_cons.1 ht with rfl | ht
      · exact Tr.sm_good n _ h.1.2
      · rcases List.mem_cons.1 ht with rfl | ht
        · exact Tr.sm_good n _ h.2
        · cases ht
    | x :: y :: z :: r, h => simp [goodT] at h

theorem Tr.hgt_part {t : Tr} {n : Nat} (h : t.hgt ≤ n + 1) (j : Nat) (hj : j < t.l.length) : t.l[j].hgt ≤ n := by
  obtain ⟨k, a, c, l⟩ := t
  rw [Tr.hgt_mk] at h
  have h1 := le_maxes (l.map Tr.hgt) j (by simpa using hj)
  rw [List.getElem_map] at h1
  exact Nat.le_trans h1 (by omega)

theorem Tr.hgt_pos (t : Tr) : 1 ≤ t.hgt := by cases t; rw [Tr.hgt_mk]; omega

theorem Tr.hgt_good : ∀ (n : Nat) (t : Tr), goodT n t = true → t.hgt ≤ n
  | 0, t, h => by simp [goodT] at h
  | n + 1, ⟨k, a, c, l⟩, h => by
    rw [Tr.hgt_mk]
    match l, h with
    | [], _ => simp
    | [x], h => simp [goodT] at h
    | [x, y], h =>
      simp only [goodT, Bool.and_eq_true] at h
      have hx := Tr.hgt_good n x h.1.2
      have hy := Tr.hgt_good n y h.2
      simp only [List.map_cons, List.map_nil, List.foldr_cons, List.foldr_nil]; omega
    | x :: y :: z :: r, h => simp [goodT] at h

theorem relY_top (esc : Int → Int → Bool) (x y : Tr) (he : esc x.k y.k = false) (ht : (x.k == y.k && (x.l.length : Int) == (y.l.length : Int)) = false) : relY esc x.ty y.ty = false := by
  obtain ⟨k, a, c, l⟩ := x
  obtain ⟨k', a', c', l'⟩ := y
  dsimp only at he ht
  rw [Tr.ty_mk, Tr.ty_mk, relY_mk, he, Bool.false_or]
  by_cases hk : (k == k') = true
  · rw [hk, Bool.true_and] at ht
    rw [hk, Bool.true_and]
    cases hr : relL esc (l.map Tr.ty) (l'.map Tr.ty) with
    | false => rfl
    | true =>
      have := relL_len esc _ _ hr
      rw [List.length_map, List.length_map] at this
      rw [this] at ht
      simp at ht
  · have : (k == k') = false := by simpa using hk
    rw [this, Bool.false_and]

theorem relY_esc (esc : Int → Int → Bool) (x y : Tr) (he : esc x.k y.k = true) : relY esc x.ty y.ty = true := by
  obtain ⟨k, a, c, l⟩ := x
  obtain ⟨k', a', c', l'⟩ := y
  dsimp only at he
  rw [Tr.ty_mk, Tr.ty_mk, relY_mk, he, Bool.true_or]

theorem relY_part_not (esc : Int → Int → Bool) (x y : Tr) (he : esc x.k y.k = false) (j : Nat) (h : j < x.l.length) (h' : j < y.l.length) (hr : relY esc x.l[j].ty y.l[j].ty = false) : relY esc x.ty y.ty = false := by
  obtain ⟨k, a, c, l⟩ := x
  obtain ⟨k', a', c', l'⟩ := y
  dsimp only at he h h' hr
  rw [Tr.ty_mk, Tr.ty_mk, relY_mk, he, Bool.false_or, relL_not esc (l.map Tr.ty) (l'.map Tr.ty) j (by simpa using h) (by simpa using h') (by simpa using hr), Bool.and_false]

theorem relY_parts (esc : Int → Int → Bool) (x y : Tr) (hk : x.k = y.k) (hl : x.l.length = y.l.length) (hr : ∀ q (h : q < x.l.length) (h' : q < y.l.length), relY esc x.l[q].ty y.l[q].ty = true) : relY esc x.ty y.ty = true := by
  obtain ⟨k, a, c, l⟩ := x
  obtain ⟨k', a', c', l'⟩ := y
  dsimp only at hk hl hr
  subst hk
  rw [Tr.ty_mk, Tr.ty_mk, relY_mk, relL_all esc (l.map Tr.ty) (l'.map Tr.ty) (by simpa using hl) fun j h h' => by simpa using hr j (by simpa using h) (by simpa using h')]
  simp
end Go.Proofs.Ytnddkmccagiclaa

/-
  What the calls of kind.To, kind.Ground, kind.Plain and kind.alikeAtTop answer, at whatever trees lie in memory.
-/
namespace Go.Proofs.Ytnddkmccagiclaa
open Go.RowKit

set_option maxHeartbeats 400000 in
/-- kind.alikeAtTop. -/
theorem alike_walk (k k' : Int) (a a' : Option Addr) (m m' c c' : Nat) (w : World) :
    Calls Try.prog 40 #[.agg #[.int .i64 k, .slice a m c], .agg #[.int .i64 k', .slice a' m' c']] w fun e w' => e = .returned (.bool (k == k' && (m : Int) == (m' : Int))) ∧ Below w.heap.size w w' := by
  by_cases h : (k == k') = true
  · go_enter Try.func40, Try.ntmps40
    go_wp2_with fail
    go_ret
    exact ⟨by simp [h], ((Below.refl _ _).alloc (Nat.le_refl _) _).alloc (by simp) _⟩
  · have h' : (k == k') = false := by simpa using h
    clear h
    go_enter Try.func40, Try.ntmps40
    go_wp2_with fail
    go_ret
    exact ⟨by simp [h'], ((Below.refl _ _).alloc (Nat.le_refl _) _).alloc (by simp) _⟩

theorem alike_any (k k' : Int) (a a' : Option Addr) (m m' c c' : Nat) (r : Bool) (hr : (k == k' && (m : Int) == (m' : Int)) = r) (w : World) :
    Calls Try.prog 40 #[.agg #[.int .i64 k, .slice a m c], .agg #[.int .i64 k', .slice a' m' c']] w fun e w' => e = .returned (.bool r) ∧ Below w.heap.size w w' := by
  rw [← hr]
  exact alike_walk k k' a a' m m' c c' w

set_option maxHeartbeats 400000 in
/-- kind.To. -/
theorem to_cells (k k' : Int) (a a' : Option Addr) (m m' c c' : Nat) (w : World) :
    Calls Try.prog 14 #[.agg #[.int .i64 k, .slice a m c], .agg #[.int .i64 k', .slice a' m' c']] w fun e w' => ∃ g, w.heap.size ≤ g ∧ e = .returned (.agg #[.int .i64 3, .slice (some ⟨g, 0, none⟩) 2 2]) ∧ w'.cell? ⟨g, 0, none⟩ = some (.int .i64 k) ∧ w'.cell? ⟨g, 1, none⟩ = some (.slice a m c) ∧ w'.cell? ⟨g, 2, none⟩ = some (.int .i64 k') ∧ w'.cell? ⟨g, 3, none⟩ = some (.slice a' m' c') ∧ Below w.heap.size w w' := by
  go_enter Try.func14, Try.ntmps14
  go_wp2_with fail
  refine bodyPost_ret (v := .agg #[.int .i64 3, .slice (some ⟨w.heap.size + 1 + 1 + 1, 0, none⟩) 2 2]) (by simp [results, Try.results14, go_sem]) rfl ⟨_, ?_, rfl, by simp [go_sem], by simp [go_sem], by simp [go_sem], by simp [go_sem], ?_⟩
  · omega
  exact ((((Below.refl _ _).alloc (Nat.le_refl _) _).alloc (by simp) _).alloc (by simp; omega) _).alloc (by simp; omega) _

theorem to_any (x y : Tr) (w : World) (hx : x.In w) (hy : y.In w) :
    Calls Try.prog 14 #[.agg #[.int .i64 x.k, .slice x.a x.l.length x.c], .agg #[.int .i64 y.k, .slice y.a y.l.length y.c]] w fun e w' => ∃ g, w.heap.size ≤ g ∧ e = .returned (.agg #[.int .i64 3, .slice (some ⟨g, 0, none⟩) 2 2]) ∧ (Tr.mk 3 (some ⟨g, 0, none⟩) 2 [x, y]).In w' ∧ Below w.heap.size w w' := by
  refine (to_cells x.k y.k x.a y.a x.l.length y.l.length x.c y.c w).mono ?_
  rintro e w' ⟨g, hg, rfl, c0, c1, c2, c3, hb⟩
  refine ⟨g, hg, rfl, ?_, hb⟩
  exact Tr.In_two c0 c1 c2 c3 (hx.below hb) (hy.below hb)

/-- A type without parts. -/
def leaf (k : Int) : Tr := .mk k none 0 []
theorem leaf_in (k : Int) (w : World) : (leaf k).In w := Tr.In_nil w k none 0
theorem leaf_bl (k : Int) (P : Nat → Prop) : (leaf k).Bl P := Tr.Bl_nil P k none 0

set_option maxHeartbeats 400000 in
theorem ground_fun (a : Option Addr) (m c : Nat) (w : World) :
    Calls Try.prog 23 #[.agg #[.int .i64 3, .slice a m c]] w fun e w' => ∃ g, w.heap.size ≤ g ∧ e = .returned (.agg #[.int .i64 3, .slice (some ⟨g, 0, none⟩) 2 2]) ∧ (Tr.mk 3 (some ⟨g, 0, none⟩) 2 [leaf 0, leaf 0]).In w' ∧ Below w.heap.size w w' := by
  go_enter Try.func23, Try.ntmps23
  go_wp2_with fail
  refine (to_any (leaf 0) (leaf 0) _ (leaf_in _ _) (leaf_in _ _)).mono ?_
  rintro e w1 ⟨g, hg, rfl, hin, hb⟩
  have hz : w.heap.size + 1 < w1.heap.size := by have := hb.size; simp at this; omega
  obtain ⟨hc, hf⟩ := bcell hb
  go_wp2_with fail
  simp only [World.size_alloc] at hg
  have hbl : (Tr.mk 3 (some ⟨g, 0, none⟩) 2 [leaf 0, leaf 0]).Bl (· = g) := Tr.Bl_two rfl (leaf_bl _ _) (leaf_bl _ _)
  refine bodyPost_ret (v := .agg #[.int .i64 3, .slice (some ⟨g, 0, none⟩) 2 2]) (by simp [results, Try.results23, go_sem, hc]) rfl ⟨g, by omega, rfl, hin.congr (P := (· = g)) ?_ hbl, ?_⟩
  · rintro b rfl o
    rw [World.cell?_setCell_other, World.cell?_setCell_other]
    all_goals (intro h; simp only [Addr.mk.injEq] at h; omega)
  · exact (((((Below.refl _ _).alloc (Nat.le_refl _) _).alloc (by simp) _).trans (hb.mono (by simp; omega))).setCell (by simp) _).setCell (by simp) _

set_option maxHeartbeats 400000 in
theorem ground_else (k : Int) (h : (k == 3) = false) (a : Option Addr) (m c : Nat) (w : World) :
    Calls Try.prog 23 #[.agg #[.int .i64 k, .slice a m c]] w fun e w' => e = .returned (.agg #[.int .i64 k, .slice none 0 0]) ∧ Below w.heap.size w w' := by
  go_enter Try.func23, Try.ntmps23
  go_wp2_with fail
  refine bodyPost_ret (v := .agg #[.int .i64 k, .slice none 0 0]) (by simp [results, Try.results23, go_sem]) rfl ⟨rfl, ?_⟩
  exact ((Below.refl _ _).alloc (Nat.le_refl _) _).alloc (by simp) _

set_option maxHeartbeats 400000 in
theorem plain_yes (k : Int) (hk : k = 1 ∨ k = 2) (a : Option Addr) (m c : Nat) (w : World) :
    Calls Try.prog 15 #[.agg #[.int .i64 k, .slice a m c]] w fun e w' => e = .returned (.bool true) ∧ Below w.heap.size w w' := by
  rcases hk with rfl | rfl <;>
  · go_enter Try.func15, Try.ntmps15
    go_wp2_with fail
    go_ret
    exact ⟨rfl, (Below.refl _ _).alloc (Nat.le_refl _) _⟩

set_option maxHeartbeats 400000 in
theorem plain_no (k : Int) (h1 : (k == 1) = false) (h2 : (k == 2) = false) (h3 : (k == 3) = false) (a : Option Addr) (m c : Nat) (w : World) :
    Calls Try.prog 15 #[.agg #[.int .i64 k, .slice a m c]] w fun e w' => e = .returned (.bool false) ∧ Below w.heap.size w w' := by
  go_enter Try.func15, Try.ntmps15
  go_wp2_with fail
  go_ret
  exact ⟨rfl, (Below.refl _ _).alloc (Nat.le_refl _) _⟩

set_option maxHeartbeats 400000 in
theorem plain_fun_no (a : Option Addr) (m c : Nat) (hm : ((m : Int) == 2) = false) (w : World) :
    Calls Try.prog 15 #[.agg #[.int .i64 3, .slice a m c]] w fun e w' => e = .returned (.bool false) ∧ Below w.heap.size w w' := by
  go_enter Try.func15, Try.ntmps15
  go_wp2_with fail
  go_ret
  exact ⟨rfl, (Below.refl _ _).alloc (Nat.le_refl _) _⟩

set_option maxHeartbeats 400000 in
theorem plain_fun (b o c : Nat) (kx ky : Int) (w : World) (x0 : w.cell? ⟨b, o, none⟩ = some (.int .i64 kx)) (y0 : w.cell? ⟨b, o + 2, none⟩ = some (.int .i64 ky)) :
    Calls Try.prog 15 #[.agg #[.int .i64 3, .slice (some ⟨b, o, none⟩) 2 c]] w fun e w' => e = .returned (.bool (kx == 0 && ky == 0)) ∧ Below w.heap.size w w' := by
  have lb : b < w.heap.size := World.block_lt_of_cell? _ _ x0
  by_cases hx : (kx == 0) = true
  · go_enter Try.func15, Try.ntmps15
    go_wp2_with fail
    go_ret
    exact ⟨by simp [hx], (Below.refl _ _).alloc (Nat.le_refl _) _⟩
  · have hx' : (kx == 0) = false := by simpa using hx
    clear hx
    go_enter Try.func15, Try.ntmps15
    go_wp2_with fail
    go_ret
    exact ⟨by simp [hx'], (Below.refl _ _).alloc (Nat.le_refl _) _⟩

def plainT : Tr → Bool
  | ⟨k, _, _, l⟩ => k == 1 || k == 2 || (k == 3 && match l with | [x, y] => x.k == 0 && y.k == 0 | _ => false)

/-- kind.Plain. -/
theorem plain_any (t : Tr) (w : World) (hin : t.In w) :
    Calls Try.prog 15 #[.agg #[.int .i64 t.k, .slice t.a t.l.length t.c]] w fun e w' => e = .returned (.bool (plainT t)) ∧ Below w.heap.size w w' := by
  obtain ⟨k, a, c, l⟩ := t
  dsimp only
  by_cases hk : k = 1 ∨ k = 2
  · refine (plain_yes k hk a l.length c w).mono ?_
    rintro e w' ⟨rfl, hb⟩
    exact ⟨by rcases hk with rfl | rfl <;> simp [plainT], hb⟩
  · have h1 : (k == 1) = false := by simp; omega
    have h2 : (k == 2) = false := by simp; omega
    by_cases h3 : k = 3
    · subst h3
      match l, hin with
      | [], hin =>
        refine (plain_fun_no a 0 c (by decide) w).mono ?_
        rintro e w' ⟨rfl, hb⟩
        exact ⟨by simp [plainT], hb⟩
      | [x], hin =>
        refine (plain_fun_no a 1 c (by decide) w).mono ?_
        rintro e w' ⟨rfl, hb⟩
        exact ⟨by simp [plainT], hb⟩
      | x :: y :: z :: r, hin =>
        refine (plain_fun_no a (x :: y :: z :: r).length c (by simp; omega) w).mono ?_
        rintro e w' ⟨rfl, hb⟩
        exact ⟨by simp [plainT], hb⟩
      | [x, y], hin =>
        obtain ⟨b, o, e0, x0, x1, hx⟩ := hin.at 0 (by simp)
        obtain ⟨b', o', e1, y0, y1, hy⟩ := hin.at 1 (by simp)
        rw [e0] at e1
        obtain ⟨rfl, rfl⟩ : b = b' ∧ o = o' := by simpa using e1
        subst e0
        refine (plain_fun b o c x.k y.k w (by simpa using x0) (by simpa using y0)).mono ?_
        rintro e w' ⟨rfl, hb⟩
        exact ⟨by simp [plainT], hb⟩
    · refine (plain_no k h1 h2 (by simpa using h3) a l.length c w).mono ?_
      rintro e w' ⟨rfl, hb⟩
      exact ⟨by simp [plainT, h1, h2, h3], hb⟩
end Go.Proofs.Ytnddkmccagiclaa

/-
  What the calls of (*later).put, (*later).empty and (*later).take do to a list of pairs that lies behind a pointer.
-/
namespace Go.Proofs.Ytnddkmccagiclaa
open Go.RowKit

theorem Try.info41 : (Try.prog.info? 41).map (fun i => (i.zero, i.size, i.bytes)) = some (some (.agg #[.int .i64 0, .slice none 0 0, .int .i64 0, .slice none 0 0, .pointer none]), 5, 72) := by kernel_rfl

/-- But for block r and one row the memory is as it was. -/
structure Kept (r : Nat) (o : Option Nat) (w w' : World) : Prop where
  os : w'.os = w.os
  tape : w'.tape = w.tape
  output : w'.output = w.output
  size : w.heap.size ≤ w'.heap.size
  block : ∀ k, k < w.heap.size → k ≠ r → some k ≠ o → w'.heap[k]? = w.heap[k]?

theorem Kept.below {r : Nat} {o : Option Nat} {w w' : World} (h : Kept r o w w') (ho : ∀ g, o = some g → r ≤ g) (hr : r ≤ w.heap.size) : Below r w w' :=
  ⟨h.os, h.tape, h.output, h.size, fun k hk => h.block k (by omega) (by omega) (fun e => by have := ho k e.symm; omega)⟩

theorem put_end {r : Nat} {v : Value} {n : Nat} {ys : List Value} {w w1 : World} {X : Obj} {g cap : Nat} (hgrow : (((w.alloc X).alloc X).drew).grownBy w1 v.ownBlock) (hown : w1.ownsRow (r + 1) 41 5 (.slice (some ⟨g, 0, none⟩) (n + 1) cap) (n + 1) ys)
    (hat : v.ownBlock = some g ∨ g = w.heap.size + 2) (hcr : w1.cell? ⟨r, 0, none⟩ = some v) (hfr : w1.frozen? ⟨r, 0, none⟩ = false) :
    ∃ g' cap', (w1.setCell ⟨r, 0, none⟩ (.slice (some ⟨g, 0, none⟩) (n + 1) cap)).cell? ⟨r, 0, none⟩ = some (.slice (some ⟨g', 0, none⟩) (n + 1) cap') ∧ (w1.setCell ⟨r, 0, none⟩ (.slice (some ⟨g, 0, none⟩) (n + 1) cap)).frozen? ⟨r, 0, none⟩ = false ∧
      (w1.setCell ⟨r, 0, none⟩ (.slice (some ⟨g, 0, none⟩) (n + 1) cap)).ownsRow (r + 1) 41 5 (.slice (some ⟨g', 0, none⟩) (n + 1) cap') (n + 1) ys ∧ (v.ownBlock = some g' ∨ w.heap.size ≤ g') ∧ Kept r v.ownBlock w (w1.setCell ⟨r, 0, none⟩ (.slice (some ⟨g, 0, none⟩) (n + 1) cap)) := by
  have hb : Below w.heap.size w ((w.alloc X).alloc X).drew := (((Below.refl _ _).alloc (Nat.le_refl _) _).alloc (by simp) _).drew
  refine ⟨g, cap, World.cell?_setCell_same _ _ _ hcr, by simpa using hfr, ownsRow_setCell_below hown (by simp) _, ?_, ?_⟩
  · rcases hat with h | h
    · exact .inl h
    · exact .inr (by omega)
  · have hs := hgrow.size
    have hsz : ((w.alloc X).alloc X).drew.heap.size = w.heap.size + 1 + 1 := by simp
    refine ⟨hgrow.os.trans hb.os, hgrow.tape.trans hb.tape, hgrow.output.trans hb.output, ?_, fun k hk h1 h2 => ?_⟩
    · rw [show (w1.setCell ⟨r, 0, none⟩ (.slice (some ⟨g, 0, none⟩) (n + 1) cap)).heap.size = w1.heap.size from by simp [World.setCell]]
      omega
    · rw [Below.heap_setCell _ _ _ _ h1, hgrow.block k (by omega) h2, hb.block k hk]

set_option maxHeartbeats 400000 in
theorem empty_any (r : Nat) (a : Option Addr) (n c : Nat) (w : World) (hv : w.cell? ⟨r, 0, none⟩ = some (.slice a n c)) :
    Calls Try.prog 35 #[.pointer (some ⟨r, 0, none⟩)] w fun e w' => e = .returned (.bool ((n : Int) == 0)) ∧ w' = w := by
  go_enter Try.func35, Try.ntmps35
  go_wp2_with fail
  go_ret
  exact ⟨rfl, rfl⟩

set_option maxHeartbeats 400000 in
theorem take_any (r g : Nat) (n c : Nat) (k k' : Int) (a a' : Option Addr) (m m' d d' : Nat) (p : Option Addr) (w : World) (hv : w.cell? ⟨r, 0, none⟩ = some (.slice (some ⟨g, 0, none⟩) (n + 1) c)) (hf : w.frozen? ⟨r, 0, none⟩ = false) (hc : n + 1 ≤ c) (hn : n ≤ 140737488355328)
    (h0 : w.cell? ⟨g, n * 5, none⟩ = some (.int .i64 k)) (h1 : w.cell? ⟨g, n * 5 + 1, none⟩ = some (.slice a m d)) (h2 : w.cell? ⟨g, n * 5 + 2, none⟩ = some (.int .i64 k')) (h3 : w.cell? ⟨g, n * 5 + 3, none⟩ = some (.slice a' m' d')) (h4 : w.cell? ⟨g, n * 5 + 4, none⟩ = some (.pointer p)) :
    Calls Try.prog 37 #[.pointer (some ⟨r, 0, none⟩)] w fun e w' => e = .returned (.agg #[.int .i64 k, .slice a m d, .int .i64 k', .slice a' m' d', .pointer p]) ∧
      w' = ((w.setCell ⟨r, 0, none⟩ (.slice (some ⟨g, 0, none⟩) n c)).alloc (.cells #[.int .i64 k, .slice a m d, .int .i64 k', .slice a' m' d', .pointer p] 41)).alloc (.cells #[.int .i64 k, .slice a m d, .int .i64 k', .slice a' m' d', .pointer p] 41) := by
  have lr : r < w.heap.size := World.block_lt_of_cell? _ _ hv
  have lg : g < w.heap.size := World.block_lt_of_cell? _ _ h0
  go_enter Try.func37, Try.ntmps37
  go_wp2_with fail
  exact bodyPost_ret (v := .agg #[.int .i64 k, .slice a m d, .int .i64 k', .slice a' m' d', .pointer p]) (by simp [results, Try.results37, go_sem]) rfl ⟨rfl, rfl⟩

set_option maxHeartbeats 1000000 in
theorem put_any (r : Nat) (v : Value) (n : Nat) (xs : List Value) (k k' : Int) (a a' : Option Addr) (m m' d d' : Nat) (p : Option Addr) (w : World) (hv : w.cell? ⟨r, 0, none⟩ = some v) (hf : w.frozen? ⟨r, 0, none⟩ = false) (hown : w.ownsRow (r + 1) 41 5 v n xs) (hn : n + 1 ≤ 1000000000) :
    Calls Try.prog 34 #[.pointer (some ⟨r, 0, none⟩), .agg #[.int .i64 k, .slice a m d, .int .i64 k', .slice a' m' d', .pointer p]] w fun e w' => e = .returned (.tuple #[]) ∧
      ∃ g cap, w'.cell? ⟨r, 0, none⟩ = some (.slice (some ⟨g, 0, none⟩) (n + 1) cap) ∧ w'.frozen? ⟨r, 0, none⟩ = false ∧ w'.ownsRow (r + 1) 41 5 (.slice (some ⟨g, 0, none⟩) (n + 1) cap) (n + 1) (xs ++ [.int .i64 k, .slice a m d, .int .i64 k', .slice a' m' d', .pointer p]) ∧ (v.ownBlock = some g ∨ w.heap.size ≤ g) ∧ Kept r v.ownBlock w w' := by
  have lr : r < w.heap.size := World.block_lt_of_cell? _ _ hv
  obtain ⟨i0, hi0, hz0, hz1, hz2⟩ := info_parts Try.info41
  have hnr : v.ownBlock ≠ some r := by
    rcases hown.2 with ⟨rfl, _⟩ | ⟨g, cap, cur, rfl, hg, _⟩
    · simp [Value.ownBlock]
    · simp only [Value.ownBlock, ne_eq, Option.some.injEq]; omega
  have hnw : v.ownBlock ≠ some w.heap.size := by
    rcases hown.2 with ⟨rfl, _⟩ | ⟨g, cap, cur, rfl, hg, hb, _⟩
    · simp [Value.ownBlock]
    · have : g < w.heap.size := by
        rcases Nat.lt_or_ge g w.heap.size with hlt | hge
        · exact hlt
        · rw [Array.getElem?_eq_none hge] at hb; cases hb
      simp only [Value.ownBlock, ne_eq, Option.some.injEq]; omega
  have hfz2 : ((w.alloc (.cells #[.int .i64 k, .slice a m d, .int .i64 k', .slice a' m' d', .pointer p] 41)).alloc (.cells #[.int .i64 k, .slice a m d, .int .i64 k', .slice a' m' d', .pointer p] 41)).drew.frozen? ⟨r, 0, none⟩ = false := by
    have hb : Below w.heap.size w ((w.alloc (.cells #[.int .i64 k, .slice a m d, .int .i64 k', .slice a' m' d', .pointer p] 41)).alloc (.cells #[.int .i64 k, .slice a m d, .int .i64 k', .slice a' m' d', .pointer p] 41)).drew := (((Below.refl _ _).alloc (Nat.le_refl _) _).alloc (by simp) _).drew
    rw [hb.frozen (p := ⟨r, 0, none⟩) lr]; exact hf
  have hvz2 : ((w.alloc (.cells #[.int .i64 k, .slice a m d, .int .i64 k', .slice a' m' d', .pointer p] 41)).alloc (.cells #[.int .i64 k, .slice a m d, .int .i64 k', .slice a' m' d', .pointer p] 41)).drew.cell? ⟨r, 0, none⟩ = some v := by
    have hb : Below w.heap.size w ((w.alloc (.cells #[.int .i64 k, .slice a m d, .int .i64 k', .slice a' m' d', .pointer p] 41)).alloc (.cells #[.int .i64 k, .slice a m d, .int .i64 k', .slice a' m' d', .pointer p] 41)).drew := (((Below.refl _ _).alloc (Nat.le_refl _) _).alloc (by simp) _).drew
    exact cell_later hb hv
  have hblk : ((w.alloc (.cells #[.int .i64 k, .slice a m d, .int .i64 k', .slice a' m' d', .pointer p] 41)).alloc (.cells #[.int .i64 k, .slice a m d, .int .i64 k', .slice a' m' d', .pointer p] 41)).drew.heap[w.heap.size + 1]? = some (.cells #[.int .i64 k, .slice a m d, .int .i64 k', .slice a' m' d', .pointer p] 41) := by
    have h := heap_alloc_new (w.alloc (.cells #[.int .i64 k, .slice a m d, .int .i64 k', .slice a' m' d', .pointer p] 41)) (.cells #[.int .i64 k, .slice a m d, .int .i64 k', .slice a' m' d', .pointer p] 41)
    rw [World.size_alloc] at h
    exact h
  go_enter Try.func34, Try.ntmps34
  go_wp2_with fail
  go_region_law
    ((refine step_append_lies _ (by rfl) _ _ _ (by rfl) (r + 1) 41 i0 _ 5 72 Try.underlying35 hi0 hz0 hz1 hz2 rfl (by omega) v n xs (by rfl) (((hown.alloc _).alloc _).drew)
        ⟨w.heap.size + 1, 0, none⟩ 1 1 [.int .i64 k, .slice a m d, .int .i64 k', .slice a' m' d', .pointer p] (by rfl) (by rfl) (World.news_of_block (cs := #[.int .i64 k, .slice a m d, .int .i64 k', .slice a' m' d', .pointer p]) (t := 41) (fr := (0, 0)) hblk) (by simp [Value.oneCell'])
        (by omega) (by unfold maxLen; omega) (by omega) (by simp; omega) (w.heap.size + 2) (by simp) ?_; intro gg cap w1 hown1 hgrow hat hlt; have hfr : w1.frozen? ⟨r, 0, none⟩ = false := (by rw [hgrow.frozen_far _ (by simp; omega) (Ne.symm hnr)]; exact hfz2); have hcr : w1.cell? ⟨r, 0, none⟩ = some v := (by rw [hgrow.cell_far _ (by simp; omega) (Ne.symm hnr)]; exact hvz2)))
  all_goals
    go_end0
    exact ⟨rfl, put_end hgrow hown1 hat hcr hfr⟩
end Go.Proofs.Ytnddkmccagiclaa

/-
  What the call of kind.same answers at two trees that lie in memory, where there is room for all levels of the first.
-/
namespace Go.Proofs.Ytnddkmccagiclaa
open Go.RowKit

theorem wrap_small (n : Nat) (hn : n ≤ 1000) : IntKind.i64.wrap (n : Int) = (n : Int) := by
  rw [IntKind.wrap_i64]; omega

set_option maxHeartbeats 1000000 in
theorem same_step (n : Nat) (hn : n ≤ 1000) (x y : Tr) (rp : Option Addr) (w : World) (hx : x.In w) (hy : y.In w) (hh : x.hgt ≤ n + 1) (hs : x.sm)
    (ih : Hid (∀ (x y : Tr) (w : World), x.In w → y.In w → x.hgt ≤ n → x.sm → Calls Try.prog 31 #[.agg #[.int .i64 x.k, .slice x.a x.l.length x.c], .agg #[.int .i64 y.k, .slice y.a y.l.length y.c], .int .i64 (n : Int), .pointer rp] w fun e w' => e = .returned (.bool (relY escSame x.ty y.ty)) ∧ Below w.heap.size w w')) :
    Calls Try.prog 31 #[.agg #[.int .i64 x.k, .slice x.a x.l.length x.c], .agg #[.int .i64 y.k, .slice y.a y.l.length y.c], .int .i64 ((n : Int) + 1), .pointer rp] w fun e w' => e = .returned (.bool (relY escSame x.ty y.ty)) ∧ Below w.heap.size w w' := by
  have hz : (((n : Int) + 1) == 0) = false := by simp; omega
  have hlen := hs.len
  by_cases ht0 : (x.k == y.k && (x.l.length : Int) == (y.l.length : Int)) = false
  · have ht : Hid ((x.k == y.k && (x.l.length : Int) == (y.l.length : Int)) = false) := ht0
    clear ht0
    go_enter Try.func31, Try.ntmps31
    go_wp2_with fail
    refine (alike_any _ _ _ _ _ _ _ _ false ht.out _).mono ?_
    rintro e w1 ⟨rfl, hb1⟩
    go_wp2_with fail
    go_ret
    refine ⟨?_, (((Below.refl _ _).alloc (Nat.le_refl _) _).alloc (by simp) _).trans (hb1.mono (by simp; omega))⟩
    rw [relY_top escSame x y rfl ht.out]
    rfl
  · have ht' : Hid ((x.k == y.k && (x.l.length : Int) == (y.l.length : Int)) = true) := by simpa [Hid] using ht0
    clear ht0
    have hk : Hid (x.k = y.k) := by have h := ht'.out; simp at h; exact h.1
    have hl : Hid (x.l.length = y.l.length) := by have h := ht'.out; simp at h; exact Int.ofNat.inj h.2
    go_enter Try.func31, Try.ntmps31
    go_wp2_with fail
    refine (alike_any _ _ _ _ _ _ _ _ true ht'.out _).mono ?_
    rintro e w1 ⟨rfl, hb1⟩
    have hbw : Below w.heap.size w w1 := (((Below.refl _ _).alloc (Nat.le_refl _) _).alloc (by simp) _).trans (hb1.mono (by simp; omega))
    have p1 : w1.cell? ⟨w.heap.size, 1, none⟩ = some (.slice x.a x.l.length x.c) := cell_later hb1 (by simp [go_sem])
    have p3 : w1.cell? ⟨w.heap.size + 1, 1, none⟩ = some (.slice y.a y.l.length y.c) := cell_later hb1 (by simp [go_sem])
    clear hb1
    go_wp2_with fail
    go_loopw [24] (fun i wr => ∃ j : Nat, j ≤ x.l.length ∧ i = .int .i64 (j : Int) ∧ Below w1.heap.size w1 wr ∧ ∀ q (h : q < x.l.length) (h' : q < y.l.length), q < j → relY escSame x.l[q].ty y.l[q].ty = true) (fun i _ => x.l.length - (intOf i).toNat)
    case atStart => exact ⟨0, Nat.zero_le _, rfl, Below.refl _ _, fun q _ _ h => absurd h (by omega)⟩
    case round =>
      obtain ⟨j, hj, rfl, hbr, hall⟩ := hrel
      have HA : Hid (∀ q (h : q < x.l.length) (h' : q < y.l.length), q < j → relY escSame x.l[q].ty y.l[q].ty = true) := hall
      clear hall
      have hbwr : Below w.heap.size w wr := hbw.trans (hbr.mono hbw.size)
      by_cases hlt : j < x.l.length
      · have hlt' : j < y.l.length := hl.out ▸ hlt
        obtain ⟨b, o, ea, x0, x1, hxj⟩ := hx.part j hlt
        obtain ⟨b', o', eb, y0, y1, hyj⟩ := hy.part j hlt'
        have q1 : wr.cell? ⟨w.heap.size, 1, none⟩ = some (.slice (some ⟨b, o, none⟩) x.l.length x.c) := by rw [← ea]; exact cell_later hbr p1
        have q3 : wr.cell? ⟨w.heap.size + 1, 1, none⟩ = some (.slice (some ⟨b', o', none⟩) y.l.length y.c) := by rw [← eb]; exact cell_later hbr p3
        replace x0 := cell_later hbwr x0
        replace x1 := cell_later hbwr x1
        replace y0 := cell_later hbwr y0
        replace y1 := cell_later hbwr y1
        have i1 : (j : Int) < (x.l.length : Int) := by omega
        have i2 : (j : Int) < (y.l.length : Int) := by omega
        have i0 : (0 : Int) ≤ (j : Int) := by omega
        clear p1 p3 ea eb hx hy ht'
        have hwr : IntKind.i64.wrap (n : Int) = (n : Int) := wrap_small n hn
        obtain ⟨r, hr⟩ : ∃ r, relY escSame x.l[j].ty y.l[j].ty = r := ⟨_, rfl⟩
        have HC : Hid (∀ (w : World), x.l[j].In w → y.l[j].In w → Calls Try.prog 31 #[.agg #[.int .i64 x.l[j].k, .slice x.l[j].a x.l[j].l.length x.l[j].c], .agg #[.int .i64 y.l[j].k, .slice y.l[j].a y.l[j].l.length y.l[j].c], .int .i64 (n : Int), .pointer rp] w fun e w' => e = .returned (.bool r) ∧ Below w.heap.size w w') := by
          intro w h1 h2
          have := ih.out x.l[j] y.l[j] w h1 h2 (Tr.hgt_part hh j hlt) (hs.part j hlt)
          rw [hr] at this
          exact this
        have HR : Hid (relY escSame x.l[j].ty y.l[j].ty = r) := hr
        clear hr
        cases r
        · go_wp2_with fail
          go_region_held3 (fun w' => w'.cell? ⟨w.heap.size, 1, none⟩ = some (.slice (some ⟨b, o, none⟩) x.l.length x.c) ∧ w'.cell? ⟨w.heap.size + 1, 1, none⟩ = some (.slice (some ⟨b', o', none⟩) y.l.length y.c) ∧ w'.cell? ⟨b, o + j * 2, none⟩ = some (.int .i64 x.l[j].k) ∧ w'.cell? ⟨b, o + j * 2 + 1, none⟩ = some (.slice x.l[j].a x.l[j].l.length x.l[j].c) ∧ w'.cell? ⟨b', o' + j * 2, none⟩ = some (.int .i64 y.l[j].k) ∧ w'.cell? ⟨b', o' + j * 2 + 1, none⟩ = some (.slice y.l[j].a y.l[j].l.length y.l[j].c)) (first | exact ⟨cell_later hb2 q1, cell_later hb2 q3, cell_later hb2 x0, cell_later hb2 x1, cell_later hb2 y0, cell_later hb2 y1⟩ | go_keep) (first | (go_at_call 31; refine (HC.out _ (hxj.below hbwr.drew) (hyj.below hbwr.drew)).mono ?_; rintro e w2 ⟨rfl, hb2⟩))
          have hbr2 : Below w1.heap.size w1 w2 := hbr.drew.trans (hb2.mono hbr.size)
          go_wp2_with fail
          go_ret
          refine ⟨?_, hbw.trans (hbr2.mono hbw.size)⟩
          rw [relY_part_not escSame x y rfl j hlt hlt' HR.out]
          rfl
        · go_wp2_with fail
          go_region_held3 (fun w' => w'.cell? ⟨w.heap.size, 1, none⟩ = some (.slice (some ⟨b, o, none⟩) x.l.length x.c) ∧ w'.cell? ⟨w.heap.size + 1, 1, none⟩ = some (.slice (some ⟨b', o', none⟩) y.l.length y.c) ∧ w'.cell? ⟨b, o + j * 2, none⟩ = some (.int .i64 x.l[j].k) ∧ w'.cell? ⟨b, o + j * 2 + 1, none⟩ = some (.slice x.l[j].a x.l[j].l.length x.l[j].c) ∧ w'.cell? ⟨b', o' + j * 2, none⟩ = some (.int .i64 y.l[j].k) ∧ w'.cell? ⟨b', o' + j * 2 + 1, none⟩ = some (.slice y.l[j].a y.l[j].l.length y.l[j].c)) (first | exact ⟨cell_later hb2 q1, cell_later hb2 q3, cell_later hb2 x0, cell_later hb2 x1, cell_later hb2 y0, cell_later hb2 y1⟩ | go_keep) (first | (go_at_call 31; refine (HC.out _ (hxj.below hbwr.drew) (hyj.below hbwr.drew)).mono ?_; rintro e w2 ⟨rfl, hb2⟩))
          have hbr2 : Below w1.heap.size w1 w2 := hbr.drew.trans (hb2.mono hbr.size)
          go_wp2_with fail
          go_roundw
          case rel =>
            refine ⟨j + 1, by omega, by go_num, hbr2, fun q h h' hq => ?_⟩
            by_cases e : q = j
            · subst e; exact HR.out
            · exact HA.out q h h' (by omega)
          case measure => simp [intOf]; omega
      · go_wp2_with fail
        go_ret
        refine ⟨?_, hbwr⟩
        rw [relY_parts escSame x y hk.out hl.out fun q h h' => HA.out q h h' (by omega)]
        rfl

theorem same_any (n : Nat) : n ≤ 1000 → ∀ (x y : Tr) (rp : Option Addr) (w : World), x.In w → y.In w → x.hgt ≤ n → x.sm → Calls Try.prog 31 #[.agg #[.int .i64 x.k, .slice x.a x.l.length x.c], .agg #[.int .i64 y.k, .slice y.a y.l.length y.c], .int .i64 (n : Int), .pointer rp] w fun e w' => e = .returned (.bool (relY escSame x.ty y.ty)) ∧ Below w.heap.size w w' := by
  induction n with
  | zero =>
    intro _ x y rp w _ _ h
    have := x.hgt_pos
    omega
  | succ n ih =>
    intro hn x y rp w hx hy h hs
    have e : ((n + 1 : Nat) : Int) = (n : Int) + 1 := by omega
    rw [e]
    exact same_step n (by omega) x y rp w hx hy h hs (fun x y w hx hy h hs => ih (by omega) x y rp w hx hy h hs)
end Go.Proofs.Ytnddkmccagiclaa
