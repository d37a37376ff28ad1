/-
  Trees that stand for Go values of the type 'Type{Kind int, L []Type}', with the addresses at which their lists lie, and what it means that such a tree lies in a world; no program in it.
-/
import Derived.WalkKit
import Derived.WalkSpells
import Derived.Lib.SpaceUEq
import Derived.Lib.FieldsP
import Derived.Lib.Replace
import Derived.Lib.MapLaws
import Derived.Lib.AtoiTie
import Derived.Lib.ItoaNum
import Derived.Lib.ItoaLen
namespace Go.Proofs.YtnddkmccagiclabGreatDoor
open Go.RowKit
/-- A type: its kind, where its list lies, the list's capacity, its parts. -/
structure Tr where
  k : Int
  a : Option Addr
  c : Nat
  l : List Tr
theorem Tr.ind {P : Tr → Prop} (h : ∀ k a c l, (∀ t, t ∈ l → P t) → P ⟨k, a, c, l⟩) : ∀ t, P t
  | ⟨k, a, c, l⟩ => h k a c l fun t _ => Tr.ind h t
/-- The list's value. -/
def Tr.sl (t : Tr) : Value := .slice t.a t.l.length t.c
/-- The tree's parts lie in the world, each in two cells. -/
def Tr.In (w : World) : Tr → Prop
  | ⟨_, a, _, l⟩ => (∀ j (h : j < l.length), ∃ b o, a = some ⟨b, o, none⟩ ∧ w.cell? ⟨b, o + j * 2, none⟩ = some (.int .i64 l[j].k) ∧ w.cell? ⟨b, o + j * 2 + 1, none⟩ = some l[j].sl) ∧ ∀ t, t ∈ l → t.In w
theorem Tr.In_mk {w : World} {k : Int} {a : Option Addr} {c : Nat} {l : List Tr} : (Tr.mk k a c l).In w ↔ (∀ j (h : j < l.length), ∃ b o, a = some ⟨b, o, none⟩ ∧ w.cell? ⟨b, o + j * 2, none⟩ = some (.int .i64 l[j].k) ∧ w.cell? ⟨b, o + j * 2 + 1, none⟩ = some l[j].sl) ∧ ∀ t, t ∈ l → t.In w := by
  rw [Tr.In]
theorem Tr.In_nil (w : World) (k : Int) (a : Option Addr) (c : Nat) : (Tr.mk k a c []).In w :=
  Tr.In_mk.2 ⟨fun j h => absurd h (by simp), fun t h => absurd h (by simp)⟩
theorem Tr.In_two {w : World} {k : Int} {b o c : Nat} {x y : Tr} (c0 : w.cell? ⟨b, o, none⟩ = some (.int .i64 x.k)) (c1 : w.cell? ⟨b, o + 1, none⟩ = some (.slice x.a x.l.length x.c)) (c2 : w.cell? ⟨b, o + 2, none⟩ = some (.int .i64 y.k)) (c3 : w.cell? ⟨b, o + 3, none⟩ = some (.slice y.a y.l.length y.c)) (hx : x.In w) (hy : y.In w) :
    (Tr.mk k (some ⟨b, o, none⟩) c [x, y]).In w := by
  refine Tr.In_mk.2 ⟨fun j h => ?_, fun t h => ?_⟩
  · match j, h with
    | 0, _ => exact ⟨b, o, rfl, by simpa using c0, by simpa [Tr.sl] using c1⟩
    | 1, _ => exact ⟨b, o, rfl, by simpa using c2, by simpa [Tr.sl] using c3⟩
  · rcases List.mem_cons.1 h with rfl | h
    · exact hx
    · rcases List.mem_cons.1 h with rfl | h
      · exact hy
      · cases h
/-- Part j: where it lies, what its two cells hold, and that it lies there whole. -/
theorem Tr.In.part {w : World} {t : Tr} (h : t.In w) (j : Nat) (hj : j < t.l.length) : ∃ b o, t.a = some ⟨b, o, none⟩ ∧ w.cell? ⟨b, o + j * 2, none⟩ = some (.int .i64 t.l[j].k) ∧ w.cell? ⟨b, o + j * 2 + 1, none⟩ = some (.slice t.l[j].a t.l[j].l.length t.l[j].c) ∧ t.l[j].In w := by
  obtain ⟨k, a, c, l⟩ := t
  obtain ⟨hc, hi⟩ := Tr.In_mk.1 h
  obtain ⟨b, o, e, c0, c1⟩ := hc j hj
  exact ⟨b, o, e, c0, c1, hi _ (List.getElem_mem hj)⟩
theorem Tr.In.at {w : World} {k : Int} {a : Option Addr} {c : Nat} {l : List Tr} (h : (Tr.mk k a c l).In w) (j : Nat) (hj : j < l.length) : ∃ b o, a = some ⟨b, o, none⟩ ∧ w.cell? ⟨b, o + j * 2, none⟩ = some (.int .i64 l[j].k) ∧ w.cell? ⟨b, o + j * 2 + 1, none⟩ = some (.slice l[j].a l[j].l.length l[j].c) ∧ l[j].In w :=
  Tr.In.part h j hj
theorem Tr.In.below {w w' : World} (hb : Below w.heap.size w w') {t : Tr} : t.In w → t.In w' := by
  induction t using Tr.ind with
  | h k a c l ih =>
    intro h
    obtain ⟨hc, hi⟩ := Tr.In_mk.1 h
    refine Tr.In_mk.2 ⟨fun j hj => ?_, fun t ht => ih t ht (hi t ht)⟩
    obtain ⟨b, o, e, c0, c1⟩ := hc j hj
    exact ⟨b, o, e, cell_later hb c0, cell_later hb c1⟩
/-- The blocks in which the tree's parts lie are of this kind. -/
def Tr.Bl (P : Nat → Prop) : Tr → Prop
  | ⟨_, a, _, l⟩ => (l ≠ [] → ∀ x, a = some x → P x.block) ∧ ∀ t, t ∈ l → t.Bl P
theorem Tr.Bl_mk {P : Nat → Prop} {k : Int} {a : Option Addr} {c : Nat} {l : List Tr} : (Tr.mk k a c l).Bl P ↔ (l ≠ [] → ∀ x, a = some x → P x.block) ∧ ∀ t, t ∈ l → t.Bl P := by
  rw [Tr.Bl]
theorem Tr.Bl_nil (P : Nat → Prop) (k : Int) (a : Option Addr) (c : Nat) : (Tr.mk k a c []).Bl P :=
  Tr.Bl_mk.2 ⟨fun h => absurd rfl h, fun t h => absurd h (by simp)⟩
theorem Tr.Bl_two {P : Nat → Prop} {k : Int} {b o c : Nat} {x y : Tr} (h : P b) (hx : x.Bl P) (hy : y.Bl P) : (Tr.mk k (some ⟨b, o, none⟩) c [x, y]).Bl P := by
  refine Tr.Bl_mk.2 ⟨fun _ x hx => by cases hx; exact h, fun t ht => ?_⟩
  rcases List.mem_cons.1 ht with rfl | ht
  · exact hx
  · rcases List.mem_cons.1 ht with rfl | ht
    · exact hy
    · cases ht
theorem Tr.Bl.mono {P Q : Nat → Prop} (hPQ : ∀ b, P b → Q b) {t : Tr} : t.Bl P → t.Bl Q := by
  induction t using Tr.ind with
  | h k a c l ih =>
    intro h
    obtain ⟨h1, h2⟩ := Tr.Bl_mk.1 h
    exact Tr.Bl_mk.2 ⟨fun hl x hx => hPQ _ (h1 hl x hx), fun t ht => ih t ht (h2 t ht)⟩
theorem Tr.Bl.and {P Q : Nat → Prop} {t : Tr} : t.Bl P → t.Bl Q → t.Bl (fun b => P b ∧ Q b) := by
  induction t using Tr.ind with
  | h k a c l ih =>
    intro h g
    obtain ⟨h1, h2⟩ := Tr.Bl_mk.1 h
    obtain ⟨g1, g2⟩ := Tr.Bl_mk.1 g
    exact Tr.Bl_mk.2 ⟨fun hl x hx => ⟨h1 hl x hx, g1 hl x hx⟩, fun t ht => ih t ht (h2 t ht) (g2 t ht)⟩
theorem Tr.In.bl {w : World} {t : Tr} : t.In w → t.Bl (· < w.heap.size) := by
  induction t using Tr.ind with
  | h k a c l ih =>
    intro h
    obtain ⟨hc, hi⟩ := Tr.In_mk.1 h
    refine Tr.Bl_mk.2 ⟨fun hl x hx => ?_, fun t ht => ih t ht (hi t ht)⟩
    obtain ⟨b, o, e, c0, _⟩ := hc 0 (List.length_pos_iff.2 hl)
    rw [e] at hx
    have := Option.some.inj hx
    subst this
    exact World.block_lt_of_cell? _ _ c0
/-- What lies in blocks that read as they did lies there still. -/
theorem Tr.In.congr {w w' : World} {P : Nat → Prop} (hP : ∀ b, P b → ∀ o, w'.cell? ⟨b, o, none⟩ = w.cell? ⟨b, o, none⟩) {t : Tr} : t.Bl P → t.In w → t.In w' := by
  induction t using Tr.ind with
  | h k a c l ih =>
    intro hb h
    obtain ⟨hc, hi⟩ := Tr.In_mk.1 h
    obtain ⟨b1, b2⟩ := Tr.Bl_mk.1 hb
    refine Tr.In_mk.2 ⟨fun j hj => ?_, fun t ht => ih t ht (b2 t ht) (hi t ht)⟩
    obtain ⟨b, o, e, c0, c1⟩ := hc j hj
    have hx : P b := b1 (fun e => by rw [e] at hj; simp at hj) _ e
    exact ⟨b, o, e, by rw [hP b hx]; exact c0, by rw [hP b hx]; exact c1⟩
/-- Is it one of the four kinds, of as many good parts as it has, and of at most so many levels? -/
def goodT : Nat → Tr → Bool
  | 0, _ => false
  | n + 1, ⟨k, _, _, l⟩ => match l with
    | [] => k == 0 || k == 1 || k == 2
    | [x, y] => k == 3 && goodT n x && goodT n y
    | _ => false
end Go.Proofs.YtnddkmccagiclabGreatDoor

/-
  Types without addresses, and the plain mathematics of how they go together: alike, fitting, finer, joined, plain, sure; no program in it.
-/
namespace Go.Proofs.YtnddkmccagiclabGreatDoor
structure Ty where
  k : Int
  l : List Ty
theorem Ty.ind {P : Ty → Prop} (h : ∀ k l, (∀ t, t ∈ l → P t) → P ⟨k, l⟩) : ∀ t, P t
  | ⟨k, l⟩ => h k l fun t _ => Ty.ind h t
def Tr.ty : Tr → Ty
  | ⟨k, _, _, l⟩ => ⟨k, l.map fun t => t.ty⟩
theorem Tr.ty_mk (k : Int) (a : Option Addr) (c : Nat) (l : List Tr) : (Tr.mk k a c l).ty = ⟨k, l.map Tr.ty⟩ := by
  rw [Tr.ty]
theorem Tr.ty_k (t : Tr) : t.ty.k = t.k := by cases t; rw [Tr.ty_mk]
theorem Tr.ty_l (t : Tr) : t.ty.l = t.l.map Tr.ty := by cases t; rw [Tr.ty_mk]
/-- Good, without addresses. -/
def goodY : Nat → Ty → Bool
  | 0, _ => false
  | n + 1, ⟨k, l⟩ => match l with
    | [] => k == 0 || k == 1 || k == 2
    | [x, y] => k == 3 && goodY n x && goodY n y
    | _ => false
theorem goodT_eq : ∀ (n : Nat) (t : Tr), goodT n t = goodY n t.ty
  | 0, t => by simp [goodT, goodY]
  | n + 1, ⟨k, a, c, l⟩ => by
    match l with
    | [] => simp [goodT, goodY, Tr.ty_mk]
    | [x] => simp [goodT, goodY, Tr.ty_mk]
    | [x, y] => simp [goodT, goodY, Tr.ty_mk, goodT_eq n]
    | x :: y :: z :: r => simp [goodT, goodY, Tr.ty_mk]
/-- Do two lists go together, each with each? -/
def all2 {α β : Type} : (l : List α) → List β → ((x : α) → x ∈ l → β → Bool) → Bool
  | [], [], _ => true
  | x :: r, y :: s, f => f x List.mem_cons_self y && all2 r s (fun z h y => f z (List.mem_cons_of_mem _ h) y)
  | _, _, _ => false
/-- How two types go together: an escape at the top, or one kind and parts that go together. -/
def relY (esc : Int → Int → Bool) : Ty → Ty → Bool
  | ⟨k, l⟩, ⟨k', l'⟩ => esc k k' || (k == k' && all2 l l' fun x _ y => relY esc x y)
def relL (esc : Int → Int → Bool) : List Ty → List Ty → Bool
  | [], [] => true
  | x :: r, y :: s => relY esc x y && relL esc r s
  | _, _ => false
theorem all2_rel (esc : Int → Int → Bool) : ∀ l l' : List Ty, (all2 l l' fun x _ y => relY esc x y) = relL esc l l'
  | [], [] => by simp [all2, relL]
  | x :: r, y :: s => by simp [all2, relL, all2_rel esc r s]
  | [], _ :: _ => by simp [all2, relL]
  | _ :: _, [] => by simp [all2, relL]
theorem relY_mk (esc : Int → Int → Bool) (k k' : Int) (l l' : List Ty) : relY esc ⟨k, l⟩ ⟨k', l'⟩ = (esc k k' || (k == k' && relL esc l l')) := by
  rw [relY, all2_rel]
def escSame : Int → Int → Bool := fun _ _ => false
def escFits : Int → Int → Bool := fun k k' => k == 0 || k' == 0
def escFiner : Int → Int → Bool := fun _ k' => k' == 0
theorem relL_len (esc : Int → Int → Bool) : ∀ (l l' : List Ty), relL esc l l' = true → l.length = l'.length
  | [], [], _ => rfl
  | x :: r, y :: s, h => by
    simp only [relL, Bool.and_eq_true] at h
    simp [relL_len esc r s h.2]
  | [], _ :: _, h => by simp [relL] at h
  | _ :: _, [], h => by simp [relL] at h
theorem relL_all (esc : Int → Int → Bool) : ∀ (l l' : List Ty) (_ : l.length = l'.length), (∀ j (h : j < l.length) (h' : j < l'.length), relY esc l[j] l'[j] = true) → relL esc l l' = true
  | [], [], _, _ => by simp [relL]
  | x :: r, y :: s, hl, h => by
    simp only [relL, Bool.and_eq_true]
    refine ⟨h 0 (by simp) (by simp), relL_all esc r s (by simpa using hl) fun j h1 h2 => ?_⟩
    exact h (j + 1) (by simpa using h1) (by simpa using h2)
theorem relL_not (esc : Int → Int → Bool) : ∀ (l l' : List Ty) (j : Nat) (h : j < l.length) (h' : j < l'.length), relY esc l[j] l'[j] = false → relL esc l l' = false
  | [], _, j, h, _, _ => by simp at h
  | x :: r, [], j, _, h', _ => by simp at h'
  | x :: r, y :: s, 0, _, _, e => by simp only [List.getElem_cons_zero] at e; simp [relL, e]
  | x :: r, y :: s, j + 1, h, h', e => by
    simp only [relL, relL_not esc r s j (by simpa using h) (by simpa using h') (by simpa using e), Bool.and_false]
/-- Two lists, each with each. -/
def zip2 {α β γ : Type} : (l : List α) → List β → ((x : α) → x ∈ l → β → γ) → List γ
  | x :: r, y :: s, f => f x List.mem_cons_self y :: zip2 r s (fun z h y => f z (List.mem_cons_of_mem _ h) y)
  | _, _, _ => []
/-- What two types both say. -/
def joinY : Ty → Ty → Ty
  | ⟨k, l⟩, ⟨k', l'⟩ => if k = k' then ⟨k, zip2 l l' fun x _ y => joinY x y⟩ else ⟨0, []⟩
def joinL : List Ty → List Ty → List Ty
  | x :: r, y :: s => joinY x y :: joinL r s
  | _, _ => []
theorem zip2_join : ∀ l l' : List Ty, (zip2 l l' fun x _ y => joinY x y) = joinL l l'
  | [], [] => by simp [zip2, joinL]
  | x :: r, y :: s => by simp [zip2, joinL, zip2_join r s]
  | [], _ :: _ => by simp [zip2, joinL]
  | _ :: _, [] => by simp [zip2, joinL]
theorem joinY_mk (k k' : Int) (l l' : List Ty) : joinY ⟨k, l⟩ ⟨k', l'⟩ = if k = k' then ⟨k, joinL l l'⟩ else ⟨0, []⟩ := by
  rw [joinY, zip2_join]
/-- One of the four kinds, Fun of two parts that are right, all others of none. -/
def Tr.right : Tr → Prop
  | ⟨k, _, _, l⟩ => (l = [] ∧ (k = 0 ∨ k = 1 ∨ k = 2) ∨ l.length = 2 ∧ k = 3) ∧ ∀ t, t ∈ l → t.right
theorem Tr.right_mk {k : Int} {a : Option Addr} {c : Nat} {l : List Tr} : (Tr.mk k a c l).right ↔ (l = [] ∧ (k = 0 ∨ k = 1 ∨ k = 2) ∨ l.length = 2 ∧ k = 3) ∧ ∀ t, t ∈ l → t.right := by
  rw [Tr.right]
theorem Tr.right_good : ∀ (n : Nat) (t : Tr), goodT n t = true → t.right
  | 0, t, h => by simp [goodT] at h
  | n + 1, ⟨k, a, c, l⟩, h => by
    refine Tr.right_mk.2 ?_
    match l, h with
    | [], h => exact ⟨.inl ⟨rfl, by simpa [goodT, or_assoc] using h⟩, fun t ht => by cases ht⟩
    | [x], h => simp [goodT] at h
    | [x, y], h =>
      simp only [goodT, Bool.and_eq_true] at h
      refine ⟨.inr ⟨rfl, by simpa using h.1.1⟩, fun t ht => ?_⟩
      rcases List.mem_cons.1 ht with rfl | ht
      · exact Tr.right_good n _ h.1.2
      · rcases List.mem_cons.1 ht with rfl | ht
        · exact Tr.right_good n _ h.2
        · cases ht
    | x :: y :: z :: r, h => simp [goodT] at h
theorem Tr.right.cases {t : Tr} (h : t.right) : (t.l = [] ∧ (t.k = 0 ∨ t.k = 1 ∨ t.k = 2)) ∨ (∃ x y, t.l = [x, y] ∧ t.k = 3 ∧ x.right ∧ y.right) := by
  obtain ⟨k, a, c, l⟩ := t
  rcases Tr.right_mk.1 h with ⟨⟨rfl, hk⟩ | ⟨hl, hk⟩, hr⟩
  · exact .inl ⟨rfl, hk⟩
  · match l, hl, hr with
    | [x, y], _, hr => exact .inr ⟨x, y, rfl, hk, hr x (by simp), hr y (by simp)⟩
/-- How many levels. -/
def Tr.hgt : Tr → Nat
  | ⟨_, _, _, l⟩ => (l.map fun t => t.hgt).foldr max 0 + 1
theorem Tr.hgt_mk (k : Int) (a : Option Addr) (c : Nat) (l : List Tr) : (Tr.mk k a c l).hgt = (l.map Tr.hgt).foldr max 0 + 1 := by
  rw [Tr.hgt]
theorem le_maxes : ∀ (l : List Nat) (j : Nat) (h : j < l.length), l[j] ≤ l.foldr max 0
  | [], j, h => by simp at h
  | x :: r, 0, _ => by simp only [List.getElem_cons_zero, List.foldr_cons]; omega
  | x :: r, j + 1, h => by
    have := le_maxes r j (by simpa using h)
    simp only [List.getElem_cons_succ, List.foldr_cons]; omega
/-- No list in it is longer than any memory. -/
def Tr.sm : Tr → Prop
  | ⟨_, _, _, l⟩ => l.length ≤ 140737488355328 ∧ ∀ t, t ∈ l → t.sm
theorem Tr.sm_mk {k : Int} {a : Option Addr} {c : Nat} {l : List Tr} : (Tr.mk k a c l).sm ↔ l.length ≤ 140737488355328 ∧ ∀ t, t ∈ l → t.sm := by
  rw [Tr.sm]
theorem Tr.sm.len {t : Tr} (h : t.sm) : t.l.length ≤ 140737488355328 := by cases t; exact (Tr.sm_mk.1 h).1
theorem Tr.sm.part {t : Tr} (h : t.sm) (j : Nat) (hj : j < t.l.length) : t.l[j].sm := by
  obtain ⟨k, a, c, l⟩ := t
  exact (Tr.sm_mk.1 h).2 _ (List.getElem_mem hj)
theorem Tr.sm_good : ∀ (n : Nat) (t : Tr), goodT n t = true → t.sm
  | 0, t, h => by simp [goodT] at h
  | n + 1, ⟨k, a, c, l⟩, h => by
    refine Tr.sm_mk.2 ?_
    match l, h with
    | [], _ => exact ⟨by simp, fun t ht => by cases ht⟩
    | [x], h => simp [goodT] at h
    | [x, y], h =>
      simp only [goodT, Bool.and_eq_true] at h
      refine ⟨by simp, fun t ht => ?_⟩
      rcases List.mem_cons.1 ht with rfl | ht
      · exact Tr.sm_good n _ h.1.2
      · rcases List.mem_cons.1 ht with rfl | ht
        · exact Tr.sm_good n _ h.2
        · cases ht
    | x :: y :: z :: r, h => simp [goodT] at h
theorem Tr.hgt_part {t : Tr} {n : Nat} (h : t.hgt ≤ n + 1) (j : Nat) (hj : j < t.l.length) : t.l[j].hgt ≤ n := by
  obtain ⟨k, a, c, l⟩ := t
  rw [Tr.hgt_mk] at h
  have h1 := le_maxes (l.map Tr.hgt) j (by simpa using hj)
  rw [List.getElem_map] at h1
  exact Nat.le_trans h1 (by omega)
theorem Tr.hgt_pos (t : Tr) : 1 ≤ t.hgt := by cases t; rw [Tr.hgt_mk]; omega
theorem Tr.hgt_good : ∀ (n : Nat) (t : Tr), goodT n t = true → t.hgt ≤ n
  | 0, t, h => by simp [goodT] at h
  | n + 1, ⟨k, a, c, l⟩, h => by
    rw [Tr.hgt_mk]
    match l, h with
    | [], _ => simp
    | [x], h => simp [goodT] at h
    | [x, y], h =>
      simp only [goodT, Bool.and_eq_true] at h
      have hx := Tr.hgt_good n x h.1.2
      have hy := Tr.hgt_good n y h.2
      simp only [List.map_cons, List.map_nil, List.foldr_cons, List.foldr_nil]; omega
    | x :: y :: z :: r, h => simp [goodT] at h
theorem relY_top (esc : Int → Int → Bool) (x y : Tr) (he : esc x.k y.k = false) (ht : (x.k == y.k && (x.l.length : Int) == (y.l.length : Int)) = false) : relY esc x.ty y.ty = false := by
  obtain ⟨k, a, c, l⟩ := x
  obtain ⟨k', a', c', l'⟩ := y
  dsimp only at he ht
  rw [Tr.ty_mk, Tr.ty_mk, relY_mk, he, Bool.false_or]
  by_cases hk : (k == k') = true
  · rw [hk, Bool.true_and] at ht
    rw [hk, Bool.true_and]
    cases hr : relL esc (l.map Tr.ty) (l'.map Tr.ty) with
    | false => rfl
    | true =>
      have := relL_len esc _ _ hr
      rw [List.length_map, List.length_map] at this
      rw [this] at ht
      simp at ht
  · have : (k == k') = false := by simpa using hk
    rw [this, Bool.false_and]
theorem relY_esc (esc : Int → Int → Bool) (x y : Tr) (he : esc x.k y.k = true) : relY esc x.ty y.ty = true := by
  obtain ⟨k, a, c, l⟩ := x
  obtain ⟨k', a', c', l'⟩ := y
  dsimp only at he
  rw [Tr.ty_mk, Tr.ty_mk, relY_mk, he, Bool.true_or]
theorem relY_part_not (esc : Int → Int → Bool) (x y : Tr) (he : esc x.k y.k = false) (j : Nat) (h : j < x.l.length) (h' : j < y.l.length) (hr : relY esc x.l[j].ty y.l[j].ty = false) : relY esc x.ty y.ty = false := by
  obtain ⟨k, a, c, l⟩ := x
  obtain ⟨k', a', c', l'⟩ := y
  dsimp only at he h h' hr
  rw [Tr.ty_mk, Tr.ty_mk, relY_mk, he, Bool.false_or, relL_not esc (l.map Tr.ty) (l'.map Tr.ty) j (by simpa using h) (by simpa using h') (by simpa using hr), Bool.and_false]
theorem relY_parts (esc : Int → Int → Bool) (x y : Tr) (hk : x.k = y.k) (hl : x.l.length = y.l.length) (hr : ∀ q (h : q < x.l.length) (h' : q < y.l.length), relY esc x.l[q].ty y.l[q].ty = true) : relY esc x.ty y.ty = true := by
  obtain ⟨k, a, c, l⟩ := x
  obtain ⟨k', a', c', l'⟩ := y
  dsimp only at hk hl hr
  subst hk
  rw [Tr.ty_mk, Tr.ty_mk, relY_mk, relL_all esc (l.map Tr.ty) (l'.map Tr.ty) (by simpa using hl) fun j h h' => by simpa using hr j (by simpa using h) (by simpa using h')]
  simp
end Go.Proofs.YtnddkmccagiclabGreatDoor

/-
  The words of a text, byte by byte: what FieldsFunc at spaces and line ends gives of a text around whose brackets spaces were laid; no program in it.
-/
namespace Go.Proofs.YtnddkmccagiclabGreatDoor
def spB (c : UInt8) : Bool := c == 32 || c == 10
def spR (r : Nat) : Bool := r == 32 || r == 10
def flush (cur : List UInt8) : List (List UInt8) := if cur = [] then [] else [cur]
/-- The words between spaces. -/
def splitW (cur : List UInt8) : List UInt8 → List (List UInt8)
  | [] => flush cur
  | c :: r => if spB c = true then flush cur ++ splitW [] r else splitW (cur ++ [c]) r
theorem splitW_skip : ∀ (k : Nat) (cur l : List UInt8), k ≤ l.length → (∀ j, j < k → spB (l.getD j 0) = false) → splitW cur l = splitW (cur ++ l.take k) (l.drop k)
  | 0, cur, l, _, _ => by simp
  | k + 1, cur, [], h, _ => by simp at h
  | k + 1, cur, b :: t, h, hz => by
    have h0 := hz 0 (by omega)
    simp only [List.getD_cons_zero] at h0
    rw [splitW, if_neg (by simp [h0])]
    rw [splitW_skip k (cur ++ [b]) t (by simpa using h) (fun j hj => by have := hz (j + 1) (by omega); simpa using this)]
    simp
def curOf (s : ByteArray) (st : Option Nat) (pos : Nat) : List UInt8 :=
  match st with
  | none => []
  | some a => (s.data.toList.drop a).take (pos - a)
theorem curOf_ne (s : ByteArray) (a pos : Nat) (h : a < pos) (hp : pos ≤ s.size) : curOf s (some a) pos ≠ [] := by
  intro e
  have : (curOf s (some a) pos).length = 0 := by rw [e]; rfl
  have hl : s.data.toList.length = s.size := Array.length_toList
  simp only [curOf, List.length_take, List.length_drop, hl] at this
  omega
theorem spB_big (c : UInt8) (h : 128 ≤ c.toNat) : spB c = false := by
  simp only [spB, Bool.or_eq_false_iff, beq_eq_false_iff_ne]
  constructor
  · rintro rfl; simp at h
  · rintro rfl; simp at h
theorem spB_spR (c : UInt8) : spR c.toNat = spB c := by
  have e : ∀ n : UInt8, (c.toNat == n.toNat) = (c == n) := by
    intro n
    rw [Bool.eq_iff_iff, beq_iff_eq, beq_iff_eq]
    exact UInt8.toNat_inj
  have e1 := e 32
  have e2 := e 10
  simp only [spR, spB, ← e1, ← e2]
  rfl
theorem cur_step (s : ByteArray) (st : Option Nat) (pos k : Nat) (hst : ∀ a, st = some a → a < pos) :
    curOf s st pos ++ (s.data.toList.drop pos).take k = curOf s (some (st.getD pos)) (pos + k) := by
  cases st with
  | none =>
    simp only [curOf, Option.getD_none, List.nil_append]
    rw [show pos + k - pos = k by omega]
  | some a =>
    have := hst a rfl
    simp only [curOf, Option.getD_some]
    rw [show pos + k - a = (pos - a) + k by omega, List.take_add, List.drop_drop, show a + (pos - a) = pos by omega]
def bytesOf (s : ByteArray) (x : Nat × Nat) : List UInt8 := (s.data.toList.drop x.1).take (x.2 - x.1)
theorem spans_end (s : ByteArray) (f pos : Nat) (st : Option Nat) (acc : List (Nat × Nat)) (hp : pos ≤ s.size) (hlt : ¬ pos < s.size) (hst : ∀ a, st = some a → a < pos) :
    (Lib.closeSpans s (Lib.spansFromP spR s f pos st acc)).map (bytesOf s) = acc.map (bytesOf s) ++ splitW (curOf s st pos) (s.data.toList.drop pos) := by
  have hl : s.data.toList.length = s.size := Array.length_toList
  have e : pos = s.size := by omega
  rw [Lib.spansFromP_end spR s f pos st acc hlt]
  rw [List.drop_eq_nil_of_le (by rw [hl]; omega), splitW]
  cases st with
  | none => simp [Lib.closeSpans, curOf, flush]
  | some a =>
    rw [flush, if_neg (curOf_ne s a pos (hst a rfl) hp)]
    simp [Lib.closeSpans, curOf, bytesOf, e]
theorem spans_split (s : ByteArray) : ∀ (f pos : Nat) (st : Option Nat) (acc : List (Nat × Nat)), pos ≤ s.size → s.size ≤ pos + f → (∀ a, st = some a → a < pos) →
    (Lib.closeSpans s (Lib.spansFromP spR s f pos st acc)).map (bytesOf s) = acc.map (bytesOf s) ++ splitW (curOf s st pos) (s.data.toList.drop pos)
  | 0, pos, st, acc, hp, hf, hst => spans_end s 0 pos st acc hp (by omega) hst
  | f + 1, pos, st, acc, hp, hf, hst => by
    have hl : s.data.toList.length = s.size := Array.length_toList
    by_cases hlt : pos < s.size
    · have hd := Lib.decode_N s pos
      generalize hR : Utf8.decode s pos = D at hd
      have hyes : spR D.1 = true → Lib.spansFromP spR s (f + 1) pos st acc = Lib.spansFromP spR s f (pos + D.2) none (acc ++ (st.map fun a => (a, pos)).toList) := by
        intro h
        cases st <;> simp [Lib.spansFromP, hlt, hR, h]
      have hno : spR D.1 = false → Lib.spansFromP spR s (f + 1) pos st acc = Lib.spansFromP spR s f (pos + D.2) (some (st.getD pos)) acc := by
        intro h
        cases st <;> simp [Lib.spansFromP, hlt, hR, h]
      have hg : s.data.toList.drop pos = s.data.toList.getD pos 0 :: s.data.toList.drop (pos + 1) := by
        rw [List.drop_eq_getElem_cons (by rw [hl]; exact hlt)]
        simp [List.getD_eq_getElem?_getD, hl, hlt]
      have hge : ∀ j, (s.data.toList.drop pos).getD j 0 = s.data.toList.getD (pos + j) 0 := by
        intro j; simp [List.getD_eq_getElem?_getD, List.getElem?_drop]
      have hcon := Lib.decodeN_conts (s.data.toList.length - pos) (s.data.toList.getD pos 0).toNat (s.data.toList.getD (pos + 1) 0).toNat (s.data.toList.getD (pos + 2) 0).toNat (s.data.toList.getD (pos + 3) 0).toNat
      have hge1 := Lib.decodeN_ge1 (s.data.toList.length - pos) (s.data.toList.getD pos 0).toNat (s.data.toList.getD (pos + 1) 0).toNat (s.data.toList.getD (pos + 2) 0).toNat (s.data.toList.getD (pos + 3) 0).toNat
      have hsh := Lib.decodeN_shape (s.data.toList.length - pos) (s.data.toList.getD pos 0).toNat (s.data.toList.getD (pos + 1) 0).toNat (s.data.toList.getD (pos + 2) 0).toNat (s.data.toList.getD (pos + 3) 0).toNat
      rw [← hd] at hcon hge1 hsh
      -- a step that goes on with the word
      have go : ∀ k, D.2 = k → spR D.1 = false → pos + k ≤ s.size → (∀ j, j < k → spB (s.data.toList.getD (pos + j) 0) = false) → 1 ≤ k →
          (Lib.closeSpans s (Lib.spansFromP spR s (f + 1) pos st acc)).map (bytesOf s) = acc.map (bytesOf s) ++ splitW (curOf s st pos) (s.data.toList.drop pos) := by
        intro k hk hs hpk hz h1
        rw [hno hs, hk]
        have ih := spans_split s f (pos + k) (some (st.getD pos)) acc hpk (by omega) (by
          intro a ha
          cases st with
          | none => simp at ha; omega
          | some b => have := hst b rfl; simp at ha; omega)
        rw [splitW_skip k (curOf s st pos) (s.data.toList.drop pos) (by simp [hl]; omega) (fun j hj => by rw [hge]; exact hz j hj), cur_step s st pos k hst, List.drop_drop, ← ih]
      rcases hsh with ⟨hb, he⟩ | ⟨hb, hn, hb1, hb2, he⟩ | ⟨hb, hn, hb1, hb2, hb3, _, he⟩ | ⟨hb, hn, hb1, hb2, hb3, hb4, _, he⟩ | he
      · by_cases hs : spB (s.data.toList.getD pos 0) = true
        · have hr : spR D.1 = true := by rw [he]; exact (spB_spR _).trans hs
          rw [hyes hr, he]
          rw [hg, splitW, if_pos hs]
          cases st with
          | none =>
            rw [spans_split s f (pos + 1) none _ (by omega) (by omega) (by intro a h; cases h)]
            simp [curOf, flush]
          | some a =>
            have ha := hst a rfl
            rw [spans_split s f (pos + 1) none _ (by omega) (by omega) (by intro a h; cases h)]
            rw [flush, if_neg (curOf_ne s a pos ha hp)]
            simp [curOf, bytesOf]
        · have hs' : spB (s.data.toList.getD pos 0) = false := by simpa using hs
          exact go 1 (by rw [he]) (by rw [he]; exact (spB_spR _).trans hs') (by omega) (fun j hj => by rw [show j = 0 by omega]; exact hs') (by omega)
      · refine go 2 (by rw [he]) ?_ (by omega) (fun j hj => ?_) (by omega)
        · rw [he]; simp only [spR, Bool.or_eq_false_iff, beq_eq_false_iff_ne]; omega
        · refine spB_big _ ?_
          obtain rfl | rfl : j = 0 ∨ j = 1 := by omega
          · show 128 ≤ (s.data.toList.getD pos 0).toNat; omega
          · omega
      · refine go 3 (by rw [he]) ?_ (by omega) (fun j hj => ?_) (by omega)
        · rw [he]; simp only [spR, Bool.or_eq_false_iff, beq_eq_false_iff_ne]; omega
        · refine spB_big _ ?_
          obtain rfl | rfl | rfl : j = 0 ∨ j = 1 ∨ j = 2 := by omega
          · show 128 ≤ (s.data.toList.getD pos 0).toNat; omega
          · omega
          · omega
      · refine go 4 (by rw [he]) ?_ (by omega) (fun j hj => ?_) (by omega)
        · rw [he]; simp only [spR, Bool.or_eq_false_iff, beq_eq_false_iff_ne]; omega
        · refine spB_big _ ?_
          obtain rfl | rfl | rfl | rfl : j = 0 ∨ j = 1 ∨ j = 2 ∨ j = 3 := by omega
          · show 128 ≤ (s.data.toList.getD pos 0).toNat; omega
          · omega
          · omega
          · omega
      · by_cases hb : (s.data.toList.getD pos 0).toNat < 128
        · have e2 := Lib.decodeN_ascii (s.data.toList.length - pos) _ (s.data.toList.getD (pos + 1) 0).toNat (s.data.toList.getD (pos + 2) 0).toNat (s.data.toList.getD (pos + 3) 0).toNat hb
          rw [← hd, he] at e2
          have := congrArg Prod.fst e2
          simp only at this
          omega
        · refine go 1 (by rw [he]) (by rw [he]; rfl) (by omega) (fun j hj => ?_) (by omega)
          rw [show j = 0 by omega]
          exact spB_big _ (by show 128 ≤ (s.data.toList.getD pos 0).toNat; omega)
    · exact spans_end s (f + 1) pos st acc hp hlt hst
end Go.Proofs.YtnddkmccagiclabGreatDoor

/-
  Terms without addresses, their text and its words, and how words are read: the plain mathematics of package term; no program in it.
-/
namespace Go.Proofs.YtnddkmccagiclabGreatDoor
/-- tellsType. -/
def tells (k : Int) : Bool := k == 7 || k == 9
/-- Which of the words it is. -/
def atWord (x : ByteArray) : List ByteArray → Nat → Option Nat
  | [], _ => none
  | y :: r, i => if y = x then some i else atWord x r (i + 1)
def truthWs : List ByteArray := [⟨#[110, 111]⟩, ⟨#[121, 101, 115]⟩]
def typeWs : List ByteArray := [⟨#[97, 110, 121]⟩, ⟨#[110, 117, 109]⟩, ⟨#[116, 114, 117, 116, 104]⟩]
def kindWs : List ByteArray := [⟨#[97, 100, 100]⟩, ⟨#[108, 101, 115, 115]⟩, ⟨#[105, 102]⟩, ⟨#[102, 117, 110]⟩, ⟨#[99, 97, 108, 108]⟩, ⟨#[97, 115]⟩]
/-- The kind of a word that opens brackets. -/
def kindAt (x : ByteArray) : Option Nat := atWord x kindWs 4
/-- The number that a word tells, as it is printed. -/
def numOf (d : ByteArray) : Option Int :=
  match Lib.atoiAll d.data.toList with
  | .ok v => if (⟨(Lib.itoa v).toArray⟩ : ByteArray) = d then some v else none
  | _ => none
def opB : ByteArray := ⟨#[40]⟩
def clB : ByteArray := ⟨#[41]⟩
def toB : ByteArray := ⟨#[116, 111]⟩
/-- The words behind that one; none: it isn't the first. -/
def behind (x : ByteArray) : List ByteArray → Option (List ByteArray)
  | y :: r => if y = x then some r else none
  | [] => none
/-- The type that the words tell, and the words behind it. -/
def readTy : Nat → List ByteArray → Option (Ty × List ByteArray)
  | 0, _ => none
  | _ + 1, [] => none
  | n + 1, x :: r =>
    if x = opB then
      (behind toB r).bind fun r1 => (readTy n r1).bind fun p => (readTy n p.2).bind fun q => (behind clB q.2).map fun r4 => (⟨3, [p.1, q.1]⟩, r4)
    else (atWord x typeWs 0).map fun (k : Nat) => (Ty.mk (k : Int) [], r)
/-- A term: its kind, its number, its two types, its parts. -/
structure Tm where
  k : Int
  n : Int
  t : Ty
  f : Ty
  l : List Tm
theorem Tm.ind {P : Tm → Prop} (h : ∀ k n t f l, (∀ x, x ∈ l → P x) → P ⟨k, n, t, f, l⟩) : ∀ t, P t
  | ⟨k, n, t, f, l⟩ => h k n t f l fun x _ => Tm.ind h x
def anyY : Ty := ⟨0, []⟩
/-- How many parts a term of a kind has. -/
def partsOf (k : Int) : Nat := if k = 4 ∨ k = 5 ∨ k = 8 then 2 else if k = 6 then 3 else if k = 7 ∨ k = 9 then 1 else 0
/-- So many things, one behind the other. -/
def readN (f : List ByteArray → Option (Tm × List ByteArray)) : Nat → List ByteArray → Option (List Tm × List ByteArray)
  | 0, ws => some ([], ws)
  | m + 1, ws => (f ws).bind fun p => (readN f m p.2).map fun q => (p.1 :: q.1, q.2)
/-- A word that is no bracket. -/
def readWord (x : ByteArray) (r : List ByteArray) : Option (Tm × List ByteArray) :=
  match atWord x truthWs 0 with
  | some b => some (⟨3, (b : Int), anyY, anyY, []⟩, r)
  | none =>
    match x.data.toList with
    | 35 :: d => (numOf ⟨d.toArray⟩).map fun n => (⟨1, n, anyY, anyY, []⟩, r)
    | _ => (numOf x).map fun n => (⟨2, n, anyY, anyY, []⟩, r)
/-- The type that is told behind the word of a kind. -/
def readT (n : Nat) (k : Nat) (ws : List ByteArray) : Option (Ty × List ByteArray) := if tells (k : Int) = true then readTy n ws else some (anyY, ws)
/-- The term that the words tell, and the words behind it. -/
def readTm : Nat → List ByteArray → Option (Tm × List ByteArray)
  | 0, _ => none
  | _ + 1, [] => none
  | n + 1, x :: r =>
    if x = opB then
      match r with
      | [] => none
      | y :: r1 => (kindAt y).bind fun k => (readT n k r1).bind fun p => (readN (readTm n) (partsOf (k : Int)) p.2).bind fun q => (behind clB q.2).map fun r4 => (⟨(k : Int), 0, p.1, anyY, q.1⟩, r4)
    else readWord x r
/-! ### Good -/
def isAnyY (t : Ty) : Bool := relY escSame t anyY
def okNum (ar ins k n : Int) : Bool := if k = 1 then decide (0 ≤ n) && decide (n - ins < ar) else if k = 2 then decide (-1000000 ≤ n) && decide (n ≤ 1000000) else if k = 3 then n == 0 || n == 1 else n == 0
def okTypes (k : Int) (t f : Ty) : Bool := isAnyY f && (if tells k = true then goodY 4 t else isAnyY t)
/-- All that is asked of a term but of its parts. -/
def okTop (ar ins : Int) (x : Tm) : Bool := (decide (1 ≤ x.k) && decide (x.k ≤ 9) && (x.l.length == partsOf x.k)) && (okTypes x.k x.t x.f && okNum ar ins x.k x.n)
def bindL {α : Type} (f : α → Nat → Option Nat) : List α → Nat → Option Nat
  | [], r => some r
  | x :: xs, r => (f x r).bind fun r' => bindL f xs r'
def insOf (k ins : Int) : Int := if k = 7 then ins + 1 else ins
/-- Good, with the room that is left: none: it isn't. -/
def goodS (ar : Int) : Nat → Int → Tm → Nat → Option Nat
  | 0, _, _, _ => none
  | _ + 1, _, _, 0 => none
  | n + 1, ins, x, r + 1 => if okTop ar ins x = true then bindL (fun y r' => goodS ar n (insOf x.k ins) y r') x.l r else none
/-! ### Texts -/
def bw (w : List UInt8) : ByteArray := ⟨w.toArray⟩
theorem bw_data (w : List UInt8) : (bw w).data.toList = w := rfl
theorem bw_inj {a b : List UInt8} (h : bw a = bw b) : a = b := by
  have := congrArg (fun x : ByteArray => x.data.toList) h
  simpa [bw_data] using this
theorem bw_of (x : ByteArray) : bw x.data.toList = x := rfl
def kindW (k : Int) : List UInt8 := if k = 4 then [97, 100, 100] else if k = 5 then [108, 101, 115, 115] else if k = 6 then [105, 102] else if k = 7 then [102, 117, 110] else if k = 8 then [99, 97, 108, 108] else [97, 115]
def brB (c : UInt8) : Bool := c == 40 || c == 41
/-- The words of a text: brackets are words, too. -/
def tokW (cur : List UInt8) : List UInt8 → List (List UInt8)
  | [] => flush cur
  | c :: r => if spB c = true then flush cur ++ tokW [] r else if brB c = true then flush cur ++ [[c]] ++ tokW [] r else tokW (cur ++ [c]) r
/-- Spaces around each such byte. -/
def around (c : UInt8) (s : List UInt8) : List UInt8 := s.flatMap fun x => if x = c then [32, c, 32] else [x]
theorem around_cons (c x : UInt8) (s : List UInt8) : around c (x :: s) = (if x = c then [32, c, 32] else [x]) ++ around c s := rfl
theorem around_append (c : UInt8) (a b : List UInt8) : around c (a ++ b) = around c a ++ around c b := by simp [around]
theorem split_tok : ∀ (s cur : List UInt8), splitW cur (around 41 (around 40 s)) = tokW cur s
  | [], cur => rfl
  | c :: r, cur => by
    by_cases h40 : c = 40
    · subst h40
      rw [around_cons, if_pos rfl, around_append]
      have e : around 41 [32, 40, 32] = [32, 40, 32] := rfl
      have e1 : spB 32 = true := rfl
      have e2 : spB 40 = false := rfl
      have e3 : brB 40 = true := rfl
      rw [e]
      simp only [List.cons_append, List.nil_append, splitW, tokW, e1, e2, e3, if_true]
      simp [flush, split_tok r []]
    · rw [around_cons, if_neg h40, around_append]
      by_cases h41 : c = 41
      · subst h41
        have e : around 41 [41] = [32, 41, 32] := rfl
        have e1 : spB 32 = true := rfl
        have e2 : spB 41 = false := rfl
        have e3 : brB 41 = true := rfl
        rw [e]
        simp only [List.cons_append, List.nil_append, splitW, tokW, e1, e2, e3, if_true]
        simp [flush, split_tok r []]
      · have e : around 41 [c] = [c] := by simp [around, h41]
        have eb : brB c = false := by simp [brB, h40, h41]
        rw [e]
        simp only [List.cons_append, List.nil_append, splitW, tokW, eb]
        cases spB c
        · simp [split_tok r (cur ++ [c])]
        · simp [split_tok r []]
def plainW (w : List UInt8) : Prop := w ≠ [] ∧ ∀ c ∈ w, spB c = false ∧ brB c = false
def delim (r : List UInt8) : Prop := r = [] ∨ ∃ c s, r = c :: s ∧ (spB c = true ∨ brB c = true)
theorem tok_run : ∀ (w cur r : List UInt8), (∀ c ∈ w, spB c = false ∧ brB c = false) → tokW cur (w ++ r) = tokW (cur ++ w) r
  | [], cur, r, _ => by simp
  | c :: w, cur, r, h => by
    have hc := h c (by simp)
    rw [List.cons_append, tokW, if_neg (by simp [hc.1]), if_neg (by simp [hc.2]), tok_run w (cur ++ [c]) r (fun d hd => h d (by simp [hd]))]
    simp
theorem tok_delim (cur r : List UInt8) (h : delim r) : tokW cur r = flush cur ++ tokW [] r := by
  rcases h with rfl | ⟨c, s, rfl, h⟩
  · simp [tokW, flush]
  · by_cases hs : spB c = true
    · rw [tokW, if_pos hs, tokW, if_pos hs]
      simp [flush]
    · have hb : brB c = true := by
        rcases h with h | h
        · exact absurd h hs
        · exact h
      rw [tokW, if_neg hs, if_pos hb, tokW, if_neg hs, if_pos hb]
      simp [flush]
theorem tok_plain (w r : List UInt8) (hw : plainW w) (h : delim r) : tokW [] (w ++ r) = w :: tokW [] r := by
  rw [tok_run w [] r hw.2, List.nil_append, tok_delim w r h, flush, if_neg hw.1]
  rfl
theorem tok_open (r : List UInt8) : tokW [] (40 :: r) = [40] :: tokW [] r := by
  have e1 : spB 40 = false := rfl
  have e2 : brB 40 = true := rfl
  rw [tokW, if_neg (by simp [e1]), if_pos e2]; simp [flush]
theorem tok_close (r : List UInt8) : tokW [] (41 :: r) = [41] :: tokW [] r := by
  have e1 : spB 41 = false := rfl
  have e2 : brB 41 = true := rfl
  rw [tokW, if_neg (by simp [e1]), if_pos e2]; simp [flush]
/-! ### Numbers -/
theorem decFrom_app : ∀ (a b : List UInt8) (acc : Nat), Lib.decFrom acc (a ++ b) = (Lib.decFrom acc a).bind fun m => Lib.decFrom m b
  | [], b, acc => rfl
  | c :: a, b, acc => by
    simp only [List.cons_append, Lib.decFrom]
    cases Lib.digitVal c with
    | none => rfl
    | some d => exact decFrom_app a b _
theorem digit_one (d : Nat) (h : d < 10) : Lib.digitVal (UInt8.ofNat (48 + d)) = some d := by
  have e : (UInt8.ofNat (48 + d)).toNat = 48 + d := by rw [UInt8.toNat_ofNat']; omega
  rw [Lib.digitVal, e, if_pos (by omega)]
  simp
theorem dec_digits (u : Nat) : Lib.decFrom 0 (Lib.decDigits u) = some u := by
  induction u using Nat.strongRecOn with
  | _ u ih =>
    by_cases h : u < 10
    · rw [Lib.decDigits, dif_pos h]
      simp only [Lib.decFrom, digit_one u h]
      simp
    · rw [Lib.decDigits, dif_neg h, decFrom_app, ih (u / 10) (by omega)]
      simp only [Option.bind_some, Lib.decFrom, digit_one (u % 10) (by omega)]
      congr 1; omega
theorem digits_are (u : Nat) : ∀ c ∈ Lib.decDigits u, 48 ≤ c.toNat ∧ c.toNat ≤ 57 := by
  intro c hc
  obtain ⟨i, hi, rfl⟩ := List.getElem_of_mem hc
  obtain ⟨d, hd⟩ := Lib.digit_of_decFrom _ 0 u (dec_digits u) i _ (List.getElem?_eq_getElem hi)
  have := Lib.digitVal_eq hd
  exact ⟨this.1, this.2.1⟩
theorem digits_ne (u : Nat) : Lib.decDigits u ≠ [] := by
  intro e
  have := dec_digits u
  rw [e] at this
  rw [Lib.decDigits] at e
  split at e
  · cases e
  · simp at e
theorem decNat_digits (u : Nat) : Lib.decNat (Lib.decDigits u) = some u := by
  have := digits_ne u
  cases h : Lib.decDigits u with
  | nil => exact absurd h this
  | cons c r =>
    rw [Lib.decNat, if_neg (by simp), ← h, dec_digits]
end Go.Proofs.YtnddkmccagiclabGreatDoor

/-
  What a run does, in plain mathematics: casts, values, tasks and the machine's step; that each step makes it less; no program in it.
-/
namespace Go.Proofs.YtnddkmccagiclabGreatDoor
/-- An outcome: its kind, its number, whether it is Back. -/
structure Out where
  k : Int
  n : Int
  b : Bool
def out0 : Out := ⟨0, 0, false⟩
def stuckO : Out := ⟨6, 0, false⟩
def fuelO : Out := ⟨5, 0, false⟩
def turnO (o : Out) : Out := ⟨o.k, o.n, !o.b⟩
/-- A cast. -/
structure Ca where
  opens : Bool
  wrong : Out
  kind : Int
  ends : Out
  given : Option Ca
  answer : Option Ca
  hides : Bool
theorem Ca.ind {P : Ca → Prop} (h : ∀ o w k e g a d, (∀ x, g = some x → P x) → (∀ x, a = some x → P x) → P ⟨o, w, k, e, g, a, d⟩) : ∀ c, P c
  | ⟨o, w, k, e, g, a, d⟩ => h o w k e g a d (fun x _hx => Ca.ind h x) (fun x _hx => Ca.ind h x)
  termination_by c => SizeOf.sizeOf c
  decreasing_by
    · subst _hx; simp; omega
    · subst _hx; simp; omega
/-- One cast that does what both do. -/
def thenC : Option Ca → Option Ca → Option Ca
  | none, d => d
  | some c, none => some c
  | some ⟨o, w, k, e, g, a, h⟩, some ⟨_, w', k', e', g', a', h'⟩ =>
    if e.k = 0 then
      if k' = k then some ⟨o, w, k, e', thenC g' g, thenC a a', h'⟩
      else some ⟨o, w, k, w', none, none, false⟩
    else some ⟨o, w, k, e, g, a, h⟩
  termination_by c d => SizeOf.sizeOf c + SizeOf.sizeOf d
  decreasing_by
    · simp; omega
    · simp; omega
theorem thenC_nil (d : Option Ca) : thenC none d = d := by rw [thenC]
theorem thenC_one (c : Option Ca) : thenC c none = c := by cases c <;> rw [thenC]
theorem thenC_two (o : Bool) (w : Out) (k : Int) (e : Out) (g a : Option Ca) (h : Bool) (o' : Bool) (w' : Out) (k' : Int) (e' : Out) (g' a' : Option Ca) (h' : Bool) :
    thenC (some ⟨o, w, k, e, g, a, h⟩) (some ⟨o', w', k', e', g', a', h'⟩) = if e.k = 0 then (if k' = k then some ⟨o, w, k, e', thenC g' g, thenC a a', h'⟩ else some ⟨o, w, k, w', none, none, false⟩) else some ⟨o, w, k, e, g, a, h⟩ := by
  rw [thenC]
theorem thenC_some (c d : Ca) : thenC (some c) (some d) = if c.ends.k = 0 then (if d.kind = c.kind then some ⟨c.opens, c.wrong, c.kind, d.ends, thenC d.given c.given, thenC c.answer d.answer, d.hides⟩ else some ⟨c.opens, c.wrong, c.kind, d.wrong, none, none, false⟩) else some c := by
  cases c; cases d; rw [thenC_two]
/-- What is plain of a type. -/
def groundY (t : Ty) : Ty := if t.k = 3 then ⟨3, [anyY, anyY]⟩ else ⟨t.k, []⟩
def someC (c : Option Ca) (k : Int) : Ca := match c with
  | some c => c
  | none => ⟨false, out0, k, out0, none, none, false⟩
/-- The cast from a type to another one. -/
def newC : Nat → Ty → Ty → Out → Option Ca
  | 0, _, _, _ => none
  | m + 1, f, t, bl =>
    if relY escSame f t = true then none
    else if f.k = 3 ∧ t.k = 3 then some ⟨false, out0, 3, out0, newC m (t.l.getD 0 anyY) (f.l.getD 0 anyY) (turnO bl), newC m (f.l.getD 1 anyY) (t.l.getD 1 anyY) bl, false⟩
    else if t.k = 0 then
      let c := someC (newC m f (groundY f) bl) f.k
      some ⟨c.opens, c.wrong, c.kind, c.ends, c.given, c.answer, true⟩
    else if f.k = 0 then
      let c := someC (newC m (groundY t) t bl) t.k
      some ⟨true, bl, c.kind, c.ends, c.given, c.answer, c.hides⟩
    else some ⟨false, out0, f.k, stuckO, none, none, false⟩
/-- A value: a number, a truth, a function and where it stands, a function that was cast, something under Any. -/
structure Val where
  k : Int
  n : Int
  body : Tm
  env : List Val
  inn : List Val
  given : Option Ca
  answer : Option Ca
  as : Int
theorem Val.ind {P : Val → Prop} (h : ∀ k n b e i g a s, (∀ x, x ∈ e → P x) → (∀ x, x ∈ i → P x) → P ⟨k, n, b, e, i, g, a, s⟩) : ∀ v, P v
  | ⟨k, n, b, e, i, g, a, s⟩ => h k n b e i g a s (fun x _ => Val.ind h x) (fun x _ => Val.ind h x)
def tm0 : Tm := ⟨0, 0, anyY, anyY, []⟩
def numV (n : Int) : Val := ⟨1, n, tm0, [], [], none, none, 0⟩
def truthV (n : Int) : Val := ⟨2, n, tm0, [], [], none, none, 0⟩
def funV (x : Tm) (e : List Val) : Val := ⟨3, 0, x, e, [], none, none, 0⟩
def chapV (v : Val) (g a : Option Ca) : Val := ⟨4, 0, tm0, [], [v], g, a, 0⟩
def knownV (v : Val) (k : Int) : Val := ⟨5, 0, tm0, [], [v], none, none, k⟩
/-- What is within. -/
def Val.core (v : Val) : Val := v.inn.headD (numV 0)
def accompV (f : Val) (c : Ca) : Val := if f.k = 4 then chapV f.core (thenC c.given f.given) (thenC f.answer c.answer) else chapV f c.given c.answer
/-- A value after a cast at which the run goes on. -/
def ofC (c : Ca) (v : Val) : Val :=
  let v1 := if c.opens = true then v.core else v
  let v2 := if c.given.isSome = true ∨ c.answer.isSome = true then accompV v1 c else v1
  if c.hides = true then knownV v2 c.kind else v2
/-- The outcome of a run that came to a value. -/
def toldV (v : Val) : Out :=
  let v := if v.k = 5 then v.core else v
  if v.k = 1 then ⟨1, v.n, false⟩ else if v.k = 2 then ⟨2, v.n, false⟩ else ⟨3, 0, false⟩
/-- What is to be done: 1 look, 2 sum, 3 compare, 4 choose, 5 call, 6 change; 7: a call of what a chaperone goes with. -/
structure Task where
  d : Int
  x : Tm
  s : List Val
  c : Option Ca
def lookT (x : Tm) (s : List Val) : Task := ⟨1, x, s, none⟩
def doT (d : Int) : Task := ⟨d, tm0, [], none⟩
def chooseT (x : Tm) (s : List Val) : Task := ⟨4, x, s, none⟩
def changeT (c : Option Ca) : Task := ⟨6, tm0, [], c⟩
/-- A machine: what is to be done, the next one first; what was made, the last one first. -/
structure St where
  ts : List Task
  vs : List Val
  calls : Nat
  fuel : Nat
  ended : Out
def St.push (s : St) (v : Val) : St := ⟨s.ts, v :: s.vs, s.calls, s.fuel, s.ended⟩
def St.plan (s : St) (t : Task) : St := ⟨t :: s.ts, s.vs, s.calls, s.fuel, s.ended⟩
def St.stop (s : St) (o : Out) : St := ⟨s.ts, s.vs, s.calls, s.fuel, o⟩
def Tm.at (x : Tm) (j : Nat) : Tm := x.l.getD j tm0
def bothS (s : St) (x : Tm) (e : List Val) (d : Int) : St := ((s.plan (doT d)).plan (lookT (x.at 1) e)).plan (lookT (x.at 0) e)
def blameO (n : Int) : Out := ⟨4, n, false⟩
def lookS (s : St) (x : Tm) (e : List Val) : St :=
  if x.k = 1 then (match e[x.n.toNat]? with
    | some v => s.push v
    | none => s.stop stuckO)
  else if x.k = 2 then s.push (numV x.n)
  else if x.k = 3 then s.push (truthV x.n)
  else if x.k = 7 then s.push (funV (x.at 0) e)
  else if x.k = 9 then s.plan (lookT (x.at 0) e)
  else if x.k = 10 then (s.plan (changeT (newC 100 x.f x.t (blameO x.n)))).plan (lookT (x.at 0) e)
  else if x.k = 6 then (s.plan (chooseT x e)).plan (lookT (x.at 0) e)
  else if x.k = 4 then bothS s x e 2
  else if x.k = 5 then bothS s x e 3
  else bothS s x e 5
def clampI (n : Int) : Int := max (-1000000) (min n 1000000)
def enterS (s : St) (f g : Val) : St :=
  if s.calls = s.fuel then s.stop fuelO else ⟨lookT f.body (g :: f.env) :: s.ts, s.vs, s.calls + 1, s.fuel, s.ended⟩
def accompS (s : St) (f g : Val) : St :=
  ⟨changeT f.given :: doT 7 :: changeT f.answer :: s.ts, g :: f.core :: s.vs, s.calls, s.fuel, s.ended⟩
def callS (s : St) (f g : Val) : St := if f.k = 3 then enterS s f g else if f.k = 4 then accompS s f g else s.stop stuckO
def changeS (s : St) (c : Option Ca) (v : Val) : St := match c with
  | none => s.push v
  | some c =>
    if c.opens = true ∧ v.k ≠ 5 then s.stop stuckO
    else if c.opens = true ∧ v.as ≠ c.kind then s.stop c.wrong
    else if c.ends.k ≠ 0 then s.stop c.ends
    else s.push (ofC c v)
/-- The machine with the task taken off. -/
def doS (s : St) (t : Task) : St :=
  if t.d = 1 then lookS s t.x t.s else
  match s.vs with
  | v :: r =>
    if t.d = 6 then changeS ⟨s.ts, r, s.calls, s.fuel, s.ended⟩ t.c v
    else if t.d = 4 then (if v.k = 2 then (St.plan ⟨s.ts, r, s.calls, s.fuel, s.ended⟩ (lookT (t.x.at (if v.n = 1 then 1 else 2)) t.s)) else St.stop ⟨s.ts, r, s.calls, s.fuel, s.ended⟩ stuckO)
    else match r with
    | u :: q =>
      if t.d = 2 then ⟨s.ts, numV (clampI (u.n + v.n)) :: q, s.calls, s.fuel, if u.k = 1 ∧ v.k = 1 then s.ended else stuckO⟩
      else if t.d = 3 then ⟨s.ts, truthV (if u.n < v.n then 1 else 0) :: q, s.calls, s.fuel, if u.k = 1 ∧ v.k = 1 then s.ended else stuckO⟩
      else callS ⟨s.ts, q, s.calls, s.fuel, s.ended⟩ u v
    | [] => s
  | [] => s
/-- A step of the machine. -/
def stepS (s : St) : St :=
  if s.ended.k = 0 then (match s.ts with
    | [] => s
    | t :: r => doS ⟨r, s.vs, s.calls, s.fuel, s.ended⟩ t)
  else s
def runN : Nat → St → St
  | 0, s => s
  | n + 1, s => runN n (stepS s)
def St.done (s : St) : Prop := s.ended.k ≠ 0 ∨ s.ts = []
theorem done_step {s : St} (h : s.done) : stepS s = s := by
  unfold stepS
  rcases h with h | h
  · rw [if_neg h]
  · rw [h]; simp
theorem done_run {s : St} (h : s.done) : ∀ n, runN n s = s
  | 0 => rfl
  | n + 1 => by rw [runN, done_step h, done_run h n]
theorem runN_add (s : St) : ∀ a b, runN (a + b) s = runN b (runN a s)
  | 0, b => by simp [runN]
  | a + 1, b => by rw [show a + 1 + b = (a + b) + 1 by omega, runN, runN, runN_add (stepS s) a b]
theorem runN_succ (s : St) (n : Nat) : runN (n + 1) s = stepS (runN n s) := by
  rw [runN_add s n 1]; rfl
def finO (s : St) : Out := if s.ended.k = 0 then toldV (s.vs.headD (numV 0)) else s.ended
def st0 (x : Tm) (fuel : Nat) : St := ⟨[lookT x []], [], 0, fuel, out0⟩
def bigN : Nat := 200000
def runM (x : Tm) (fuel : Nat) : Out := finO (runN bigN (st0 x fuel))
theorem runM_eq (x : Tm) (fuel : Nat) : runM x fuel = finO (runN bigN (st0 x fuel)) := by rw [runM]
/-- How many parts a term has, a cast too. -/
def partsR (k : Int) : Nat := if k = 10 then 1 else partsOf k
/-- A term that the machine can go through. -/
def shp : Tm → Prop
  | ⟨k, n, t, f, l⟩ => (1 ≤ k ∧ k ≤ 10 ∧ l.length = partsR k ∧ -1000000 ≤ n ∧ n ≤ 1000000 ∧ (k = 1 → 0 ≤ n) ∧ (k = 10 → goodY 46 t = true ∧ goodY 46 f = true)) ∧ ∀ x, x ∈ l → shp x
theorem shp_mk {k n : Int} {t f : Ty} {l : List Tm} : shp ⟨k, n, t, f, l⟩ ↔ (1 ≤ k ∧ k ≤ 10 ∧ l.length = partsR k ∧ -1000000 ≤ n ∧ n ≤ 1000000 ∧ (k = 1 → 0 ≤ n) ∧ (k = 10 → goodY 46 t = true ∧ goodY 46 f = true)) ∧ ∀ x, x ∈ l → shp x := by
  rw [shp]
theorem shp.top {x : Tm} (h : shp x) : 1 ≤ x.k ∧ x.k ≤ 10 ∧ x.l.length = partsR x.k ∧ -1000000 ≤ x.n ∧ x.n ≤ 1000000 ∧ (x.k = 1 → 0 ≤ x.n) ∧ (x.k = 10 → goodY 46 x.t = true ∧ goodY 46 x.f = true) := by
  cases x; exact (shp_mk.1 h).1
theorem Tm.at_mem {x : Tm} {j : Nat} (h : j < x.l.length) : x.at j ∈ x.l := by
  unfold Tm.at
  rw [List.getD_eq_getElem?_getD, List.getElem?_eq_getElem h]
  exact List.getElem_mem h
theorem Tm.at_eq {x : Tm} {j : Nat} (h : j < x.l.length) : x.at j = x.l[j] := by
  unfold Tm.at
  rw [List.getD_eq_getElem?_getD, List.getElem?_eq_getElem h]; rfl
theorem shp.part {x : Tm} (h : shp x) {j : Nat} (hj : j < x.l.length) : shp (x.at j) := by
  have hm := Tm.at_mem hj
  cases x
  exact (shp_mk.1 h).2 _ hm
/-- How many terms there are in one. -/
def Tm.tsz : Tm → Nat
  | ⟨_, _, _, _, l⟩ => (l.map fun x => x.tsz).sum + 1
theorem Tm.tsz_mk (k n : Int) (t f : Ty) (l : List Tm) : (Tm.mk k n t f l).tsz = (l.map Tm.tsz).sum + 1 := by
  rw [Tm.tsz]
theorem Tm.tsz_eq (x : Tm) : x.tsz = (x.l.map Tm.tsz).sum + 1 := by cases x; rw [Tm.tsz_mk]
/-- A cast that opens knows how the run ends if it does not fit. -/
def okC : Ca → Prop
  | ⟨o, w, _, _, g, a, _⟩ => (o = true → w.k = 4) ∧ (∀ x, (h : g = some x) → okC x) ∧ (∀ x, (h : a = some x) → okC x)
  termination_by c => SizeOf.sizeOf c
  decreasing_by
    · subst h; simp; omega
    · subst h; simp; omega
theorem okC_mk {o : Bool} {w : Out} {k : Int} {e : Out} {g a : Option Ca} {d : Bool} : okC ⟨o, w, k, e, g, a, d⟩ ↔ (o = true → w.k = 4) ∧ (∀ x, g = some x → okC x) ∧ (∀ x, a = some x → okC x) := by
  rw [okC]
def okCo (c : Option Ca) : Prop := ∀ x, c = some x → okC x
theorem okCo_none : okCo none := fun _ h => by cases h
theorem okCo_some {c : Ca} (h : okC c) : okCo (some c) := fun _ e => by cases e; exact h
theorem okC.opens {c : Ca} (h : okC c) : c.opens = true → c.wrong.k = 4 := by cases c; exact (okC_mk.1 h).1
theorem okC.given {c : Ca} (h : okC c) : okCo c.given := by cases c; exact (okC_mk.1 h).2.1
theorem okC.answer {c : Ca} (h : okC c) : okCo c.answer := by cases c; exact (okC_mk.1 h).2.2
theorem okC_then : ∀ (n : Nat) (c d : Option Ca), SizeOf.sizeOf c + SizeOf.sizeOf d ≤ n → okCo c → okCo d → okCo (thenC c d)
  | 0, c, d, h, _, _ => by cases c <;> simp at h
  | n + 1, none, d, _, _, h => by rw [thenC_nil]; exact h
  | n + 1, some c, none, _, h, _ => by rw [thenC_one]; exact h
  | n + 1, some ⟨o, w, k, e, g, a, h⟩, some ⟨o', w', k', e', g', a', h'⟩, hn, hc, hd => by
    have hc := hc _ rfl
    have hd := hd _ rfl
    simp at hn
    rw [thenC_two]
    split
    · split
      · exact okCo_some (okC_mk.2 ⟨hc.opens, okC_then n g' g (by omega) hd.given hc.given, okC_then n a a' (by omega) hc.answer hd.answer⟩)
      · exact okCo_some (okC_mk.2 ⟨hc.opens, okCo_none, okCo_none⟩)
    · exact okCo_some hc
theorem okCo_then {c d : Option Ca} (hc : okCo c) (hd : okCo d) : okCo (thenC c d) := okC_then _ c d (Nat.le_refl _) hc hd
theorem okC_new : ∀ (n : Nat) (f t : Ty) (o : Out), o.k = 4 → okCo (newC n f t o)
  | 0, _, _, _, _ => okCo_none
  | n + 1, f, t, o, ho => by
    have hs : ∀ (c : Option Ca) (k : Int), okCo c → okC (someC c k) := fun c k h => by
      cases c with
      | none => exact okC_mk.2 ⟨fun h => (by cases h), okCo_none, okCo_none⟩
      | some c => exact h c rfl
    rw [newC]
    split
    · exact okCo_none
    split
    · exact okCo_some (okC_mk.2 ⟨fun h => (by cases h), okC_new n _ _ _ ho, okC_new n _ _ _ ho⟩)
    split
    · have h := hs _ f.k (okC_new n f (groundY f) o ho)
      exact okCo_some (okC_mk.2 ⟨h.opens, h.given, h.answer⟩)
    split
    · have h := hs _ t.k (okC_new n (groundY t) t o ho)
      exact okCo_some (okC_mk.2 ⟨fun _ => ho, h.given, h.answer⟩)
    · exact okCo_some (okC_mk.2 ⟨fun h => (by cases h), okCo_none, okCo_none⟩)
/-- A value that the machine can go on with. -/
def okV : Val → Prop
  | ⟨k, n, b, e, i, g, a, _⟩ => (1 ≤ k ∧ k ≤ 5 ∧ -1000000 ≤ n ∧ n ≤ 1000000 ∧ (k = 3 → shp b ∧ b.tsz ≤ 100) ∧ (k = 4 → ∃ v, i = [v] ∧ v.k ≠ 4) ∧ (k = 5 → ∃ v, i = [v]) ∧ okCo g ∧ okCo a) ∧ (∀ x, x ∈ e → okV x) ∧ (∀ x, x ∈ i → okV x)
theorem okV_mk {k n : Int} {b : Tm} {e i : List Val} {g a : Option Ca} {s : Int} : okV ⟨k, n, b, e, i, g, a, s⟩ ↔ (1 ≤ k ∧ k ≤ 5 ∧ -1000000 ≤ n ∧ n ≤ 1000000 ∧ (k = 3 → shp b ∧ b.tsz ≤ 100) ∧ (k = 4 → ∃ v, i = [v] ∧ v.k ≠ 4) ∧ (k = 5 → ∃ v, i = [v]) ∧ okCo g ∧ okCo a) ∧ (∀ x, x ∈ e → okV x) ∧ (∀ x, x ∈ i → okV x) := by
  rw [okV]
theorem okV.top {v : Val} (h : okV v) : 1 ≤ v.k ∧ v.k ≤ 5 ∧ -1000000 ≤ v.n ∧ v.n ≤ 1000000 := by
  cases v; have := (okV_mk.1 h).1; exact ⟨this.1, this.2.1, this.2.2.1, this.2.2.2.1⟩
theorem okV.body {v : Val} (h : okV v) (hk : v.k = 3) : shp v.body ∧ v.body.tsz ≤ 100 := by
  cases v; exact (okV_mk.1 h).1.2.2.2.2.1 hk
theorem okV.given {v : Val} (h : okV v) : okCo v.given := by
  cases v; exact (okV_mk.1 h).1.2.2.2.2.2.2.2.1
theorem okV.answer {v : Val} (h : okV v) : okCo v.answer := by
  cases v; exact (okV_mk.1 h).1.2.2.2.2.2.2.2.2
theorem okV.env {v : Val} (h : okV v) : ∀ x, x ∈ v.env → okV x := by
  cases v; exact (okV_mk.1 h).2.1
theorem okV.core4 {v : Val} (h : okV v) (hk : v.k = 4) : v.inn = [v.core] ∧ v.core.k ≠ 4 ∧ okV v.core := by
  cases v
  obtain ⟨⟨_, _, _, _, _, h4, _, _, _⟩, _, hi⟩ := okV_mk.1 h
  obtain ⟨u, rfl, hu⟩ := h4 hk
  exact ⟨rfl, hu, hi u (by simp)⟩
theorem okV.core5 {v : Val} (h : okV v) (hk : v.k = 5) : v.inn = [v.core] ∧ okV v.core := by
  cases v
  obtain ⟨⟨_, _, _, _, _, _, h5, _, _⟩, _, hi⟩ := okV_mk.1 h
  obtain ⟨u, rfl⟩ := h5 hk
  exact ⟨rfl, hi u (by simp)⟩
theorem okV_num {n : Int} (h : -1000000 ≤ n) (h' : n ≤ 1000000) : okV (numV n) := by
  refine okV_mk.2 ⟨⟨by omega, by omega, h, h', by omega, by omega, by omega, okCo_none, okCo_none⟩, fun x hx => (by cases hx), fun x hx => (by cases hx)⟩
theorem okV_truth {n : Int} (h : -1000000 ≤ n) (h' : n ≤ 1000000) : okV (truthV n) := by
  refine okV_mk.2 ⟨⟨by omega, by omega, h, h', by omega, by omega, by omega, okCo_none, okCo_none⟩, fun x hx => (by cases hx), fun x hx => (by cases hx)⟩
theorem okV_fun {b : Tm} {e : List Val} (h : shp b) (h' : b.tsz ≤ 100) (he : ∀ x, x ∈ e → okV x) : okV (funV b e) := by
  refine okV_mk.2 ⟨⟨by omega, by omega, by omega, by omega, fun _ => ⟨h, h'⟩, by omega, by omega, okCo_none, okCo_none⟩, he, fun x hx => by cases hx⟩
theorem okV_chap {v : Val} {g a : Option Ca} (h : okV v) (h4 : v.k ≠ 4) (hg : okCo g) (ha : okCo a) : okV (chapV v g a) := by
  refine okV_mk.2 ⟨⟨by omega, by omega, by omega, by omega, by omega, fun _ => ⟨v, rfl, h4⟩, by omega, hg, ha⟩, fun x hx => (by cases hx), fun x hx => ?_⟩
  simp at hx; subst hx; exact h
theorem okV_known {v : Val} {k : Int} (h : okV v) : okV (knownV v k) := by
  refine okV_mk.2 ⟨⟨by omega, by omega, by omega, by omega, by omega, by omega, fun _ => ⟨v, rfl⟩, okCo_none, okCo_none⟩, fun x hx => (by cases hx), fun x hx => ?_⟩
  simp at hx; subst hx; exact h
theorem okV_accomp {f : Val} {c : Ca} (h : okV f) (hc : okC c) : okV (accompV f c) := by
  unfold accompV
  split
  · rename_i hk
    obtain ⟨_, h2, h3⟩ := h.core4 hk
    exact okV_chap h3 h2 (okCo_then hc.given h.given) (okCo_then h.answer hc.answer)
  · rename_i hk
    exact okV_chap h hk hc.given hc.answer
theorem okV_of {c : Ca} {v : Val} (h : okV v) (hc : okC c) (ho : c.opens = true → v.k = 5) : okV (ofC c v) := by
  have h1 : okV (if c.opens = true then v.core else v) := by
    split
    · rename_i ho'; exact (h.core5 (ho ho')).2
    · exact h
  unfold ofC
  generalize (if c.opens = true then v.core else v) = u at h1
  have h2 : okV (if c.given.isSome = true ∨ c.answer.isSome = true then accompV u c else u) := by
    split
    · exact okV_accomp h1 hc
    · exact h1
  simp only
  generalize (if c.given.isSome = true ∨ c.answer.isSome = true then accompV u c else u) = u2 at h2
  split
  · exact okV_known h2
  · exact h2
/-- A task that the machine can do. -/
def okT (t : Task) : Prop := (t.d = 1 ∨ t.d = 4 → shp t.x ∧ t.x.tsz ≤ 100 ∧ ∀ v, v ∈ t.s → okV v) ∧ (t.d = 4 → t.x.k = 6) ∧ okCo t.c
/-- Which values are no chaperones, for sure. -/
def fl : List Bool → List Val → Prop
  | [], [] => True
  | b :: q, v :: r => (b = true → v.k ≠ 4) ∧ fl q r
  | _, _ => False
/-- That each task finds what it needs. -/
def wfT : List Task → List Bool → Prop
  | [], q => ∃ b, q = [b]
  | t :: ts, q => (t.d = 1 ∧ wfT ts (false :: q)) ∨ ((t.d = 4 ∨ t.d = 6) ∧ ∃ b r, q = b :: r ∧ wfT ts (false :: r)) ∨ ((t.d = 2 ∨ t.d = 3 ∨ t.d = 5) ∧ ∃ a b r, q = a :: b :: r ∧ wfT ts (false :: r)) ∨ (t.d = 7 ∧ ∃ a r, q = a :: true :: r ∧ wfT ts (false :: r))
/-- A machine that can go on. -/
structure okS (s : St) : Prop where
  q : ∃ q, wfT s.ts q ∧ fl q s.vs
  vs : ∀ v, v ∈ s.vs → okV v
  ts : ∀ t, t ∈ s.ts → okT t
  le : s.calls ≤ s.fuel
  max : s.fuel ≤ 100
/-- What a task takes at most. -/
def tw (t : Task) : Nat := if t.d = 1 then 8 * t.x.tsz else if t.d = 4 then 8 * (t.x.at 1).tsz + 8 * (t.x.at 2).tsz + 1 else if t.d = 5 then 5 else 1
/-- What is left to be done. -/
def mu (s : St) : Nat := (s.fuel - s.calls) * 1000 + (s.ts.map tw).sum
theorem fl_cons {q : List Bool} {v : Val} {r : List Val} (h : fl q r) : fl (false :: q) (v :: r) := ⟨fun h => (by cases h), h⟩
theorem fl_one {b : Bool} {q : List Bool} {vs : List Val} (h : fl (b :: q) vs) : ∃ v r, vs = v :: r ∧ (b = true → v.k ≠ 4) ∧ fl q r := by
  match vs, h with
  | v :: r, h => exact ⟨v, r, rfl, h.1, h.2⟩
theorem wf_look {t : Task} {ts : List Task} {q : List Bool} (hd : t.d = 1) (h : wfT ts (false :: q)) : wfT (t :: ts) q := .inl ⟨hd, h⟩
theorem wf_one {t : Task} {ts : List Task} {b : Bool} {q : List Bool} (hd : t.d = 4 ∨ t.d = 6) (h : wfT ts (false :: q)) : wfT (t :: ts) (b :: q) := .inr (.inl ⟨hd, b, q, rfl, h⟩)
theorem wf_two {t : Task} {ts : List Task} {a b : Bool} {q : List Bool} (hd : t.d = 2 ∨ t.d = 3 ∨ t.d = 5) (h : wfT ts (false :: q)) : wfT (t :: ts) (a :: b :: q) := .inr (.inr (.inl ⟨hd, a, b, q, rfl, h⟩))
theorem wf_seven {t : Task} {ts : List Task} {a : Bool} {q : List Bool} (hd : t.d = 7) (h : wfT ts (false :: q)) : wfT (t :: ts) (a :: true :: q) := .inr (.inr (.inr ⟨hd, a, q, rfl, h⟩))
theorem okT_look {x : Tm} {s : List Val} (h : shp x) (h' : x.tsz ≤ 100) (hs : ∀ v, v ∈ s → okV v) : okT (lookT x s) := ⟨fun _ => ⟨h, h', hs⟩, fun h => (by simp [lookT] at h), okCo_none⟩
theorem okT_do (d : Int) (h : d ≠ 1) (h4 : d ≠ 4) : okT (doT d) := ⟨fun h' => (by rcases h' with h' | h' <;> simp [doT] at h' <;> omega), fun h => absurd h h4, okCo_none⟩
theorem okT_change {c : Option Ca} (h : okCo c) : okT (changeT c) := ⟨fun h' => (by rcases h' with h' | h' <;> simp [changeT] at h'), fun h => (by simp [changeT] at h), h⟩
theorem okT_choose {x : Tm} {s : List Val} (h : shp x) (h' : x.tsz ≤ 100) (hs : ∀ v, v ∈ s → okV v) (hk : x.k = 6) : okT (chooseT x s) := ⟨fun _ => ⟨h, h', hs⟩, fun _ => hk, okCo_none⟩
theorem at_tsz : ∀ (l : List Tm) (x : Tm), x ∈ l → x.tsz ≤ (l.map Tm.tsz).sum
  | [], _, h => by cases h
  | y :: r, x, h => by
    rcases List.mem_cons.1 h with rfl | h
    · simp
    · have := at_tsz r x h
      simp; omega
theorem part_tsz {x : Tm} {j : Nat} (h : j < x.l.length) : (x.at j).tsz + 1 ≤ x.tsz := by
  have := at_tsz x.l _ (Tm.at_mem h)
  rw [x.tsz_eq]; omega
theorem two_tsz {x : Tm} (h : x.l.length = 2) : x.tsz = (x.at 0).tsz + (x.at 1).tsz + 1 := by
  rw [x.tsz_eq]
  unfold Tm.at
  match hl : x.l, h with
  | [a, b], _ => simp
theorem three_tsz {x : Tm} (h : x.l.length = 3) : x.tsz = (x.at 0).tsz + (x.at 1).tsz + (x.at 2).tsz + 1 := by
  rw [x.tsz_eq]
  unfold Tm.at
  match hl : x.l, h with
  | [a, b, c], _ => simp; omega
theorem Tm.tsz_pos (x : Tm) : 1 ≤ x.tsz := by rw [x.tsz_eq]; omega
theorem okS.push {s : St} {v : Val} (hq : ∃ q, wfT s.ts (false :: q) ∧ fl q s.vs) (hv : okV v) (h : ∀ v, v ∈ s.vs → okV v) (ht : ∀ t, t ∈ s.ts → okT t) (hl : s.calls ≤ s.fuel) (hm : s.fuel ≤ 100) : okS (s.push v) := by
  obtain ⟨q, h1, h2⟩ := hq
  refine ⟨⟨false :: q, h1, fl_cons h2⟩, fun u hu => ?_, ht, hl, hm⟩
  rcases List.mem_cons.1 hu with rfl | hu
  · exact hv
  · exact h u hu
/-- Where it goes on it can go on, and there is less to do. -/
def Next (s0 s : St) : Prop := s.ended.k = 0 → okS s ∧ mu s < mu s0
theorem both_next {s : St} {x : Tm} {e : List Val} {d : Int} {q : List Bool} (hd : d = 2 ∨ d = 3 ∨ d = 5) (hl : x.l.length = 2) (hx : shp x) (hz : x.tsz ≤ 100) (he : ∀ v, v ∈ e → okV v) (hw : wfT s.ts (false :: q)) (hf : fl q s.vs) (hv : ∀ v, v ∈ s.vs → okV v) (ht : ∀ t, t ∈ s.ts → okT t) (hle : s.calls ≤ s.fuel) (hm : s.fuel ≤ 100) :
    Next ⟨lookT x e :: s.ts, s.vs, s.calls, s.fuel, s.ended⟩ (bothS s x e d) := by
  intro _
  have h0 := part_tsz (x := x) (j := 0) (by omega)
  have h1 := part_tsz (x := x) (j := 1) (by omega)
  refine ⟨⟨⟨q, wf_look rfl (wf_look rfl (wf_two hd hw)), hf⟩, hv, fun t htm => ?_, hle, hm⟩, ?_⟩
  · rcases List.mem_cons.1 htm with rfl | htm
    · exact okT_look (hx.part (by omega)) (by omega) he
    rcases List.mem_cons.1 htm with rfl | htm
    · exact okT_look (hx.part (by omega)) (by omega) he
    rcases List.mem_cons.1 htm with rfl | htm
    · exact okT_do d (by omega) (by omega)
    · exact ht t htm
  · have h2 := two_tsz hl
    have h3 : tw (doT d) ≤ 5 := by unfold tw doT; simp only; split <;> (try split) <;> (try split) <;> simp_all <;> omega
    simp only [mu, bothS, St.plan, List.map_cons, List.sum_cons]
    have e1 : ∀ y : Tm, tw (lookT y e) = 8 * y.tsz := fun y => by simp [tw, lookT]
    rw [e1, e1, e1]
    omega
theorem look_next {s : St} {x : Tm} {e : List Val} {q : List Bool} (hx : shp x) (hz : x.tsz ≤ 100) (he : ∀ v, v ∈ e → okV v) (hw : wfT s.ts (false :: q)) (hf : fl q s.vs) (hv : ∀ v, v ∈ s.vs → okV v) (ht : ∀ t, t ∈ s.ts → okT t) (hle : s.calls ≤ s.fuel) (hm : s.fuel ≤ 100) :
    Next ⟨lookT x e :: s.ts, s.vs, s.calls, s.fuel, s.ended⟩ (lookS s x e) := by
  obtain ⟨k1, k10, hl, n1, n2, hn, hg⟩ := hx.top
  have e1 : ∀ y : Tm, tw (lookT y e) = 8 * y.tsz := fun y => by simp [tw, lookT]
  have hp := x.tsz_pos
  have pushed : ∀ v, okV v → Next ⟨lookT x e :: s.ts, s.vs, s.calls, s.fuel, s.ended⟩ (s.push v) := fun v h _ => by
    refine ⟨okS.push ⟨q, hw, hf⟩ h hv ht hle hm, ?_⟩
    simp only [mu, St.push, List.map_cons, List.sum_cons, e1]
    omega
  have hk : x.k = 1 ∨ x.k = 2 ∨ x.k = 3 ∨ x.k = 4 ∨ x.k = 5 ∨ x.k = 6 ∨ x.k = 7 ∨ x.k = 8 ∨ x.k = 9 ∨ x.k = 10 := by omega
  rcases hk with hk | hk | hk | hk | hk | hk | hk | hk | hk | hk
  · simp only [lookS, hk, if_true]
    cases h : e[x.n.toNat]? with
    | none => intro h; simp [St.stop, stuckO] at h
    | some v => exact pushed v (he v (List.mem_of_getElem? h))
  · simp only [lookS, hk]; exact pushed _ (okV_num n1 n2)
  · simp only [lookS, hk]; exact pushed _ (okV_truth n1 n2)
  · have hl2 : x.l.length = 2 := by rw [hl, hk]; rfl
    simp only [lookS, hk]
    exact both_next (.inl rfl) hl2 hx hz he hw hf hv ht hle hm
  · have hl2 : x.l.length = 2 := by rw [hl, hk]; rfl
    simp only [lookS, hk]
    exact both_next (.inr (.inl rfl)) hl2 hx hz he hw hf hv ht hle hm
  · have hl3 : x.l.length = 3 := by rw [hl, hk]; rfl
    simp only [lookS, hk]
    intro _
    have h0 := part_tsz (x := x) (j := 0) (by omega)
    refine ⟨⟨⟨q, wf_look rfl (wf_one (.inl rfl) hw), hf⟩, hv, fun t htm => ?_, hle, hm⟩, ?_⟩
    · rcases List.mem_cons.1 htm with rfl | htm
      · exact okT_look (hx.part (by omega)) (by omega) he
      rcases List.mem_cons.1 htm with rfl | htm
      · exact okT_choose hx hz he hk
      · exact ht t htm
    · have h3 := three_tsz hl3
      have h4 : tw (chooseT x e) = 8 * (x.at 1).tsz + 8 * (x.at 2).tsz + 1 := by simp [tw, chooseT]
      simp [mu, St.plan, e1, h4]
      omega
  · have hl1 : x.l.length = 1 := by rw [hl, hk]; rfl
    simp only [lookS, hk]
    have h0 := part_tsz (x := x) (j := 0) (by omega)
    exact pushed _ (okV_fun (hx.part (by omega)) (by omega) he)
  · have hl2 : x.l.length = 2 := by rw [hl, hk]; rfl
    simp only [lookS, hk]
    exact both_next (.inr (.inr rfl)) hl2 hx hz he hw hf hv ht hle hm
  · have hl1 : x.l.length = 1 := by rw [hl, hk]; rfl
    simp only [lookS, hk]
    intro _
    have h0 := part_tsz (x := x) (j := 0) (by omega)
    refine ⟨⟨⟨q, wf_look rfl hw, hf⟩, hv, fun t htm => ?_, hle, hm⟩, ?_⟩
    · rcases List.mem_cons.1 htm with rfl | htm
      · exact okT_look (hx.part (by omega)) (by omega) he
      · exact ht t htm
    · simp [mu, St.plan, e1]
      omega
  · have hl1 : x.l.length = 1 := by rw [hl, hk]; rfl
    simp only [lookS, hk]
    intro _
    have h0 := part_tsz (x := x) (j := 0) (by omega)
    refine ⟨⟨⟨q, wf_look rfl (wf_one (.inr rfl) hw), hf⟩, hv, fun t htm => ?_, hle, hm⟩, ?_⟩
    · rcases List.mem_cons.1 htm with rfl | htm
      · exact okT_look (hx.part (by omega)) (by omega) he
      rcases List.mem_cons.1 htm with rfl | htm
      · exact okT_change (okC_new _ _ _ _ rfl)
      · exact ht t htm
    · have h4 : ∀ c, tw (changeT c) = 1 := fun c => by simp [tw, changeT]
      simp [mu, St.plan, e1, h4]
      omega
theorem call_next {t : Task} {ts : List Task} {u v : Val} {vs : List Val} {calls fuel : Nat} {ended : Out} {r : List Bool} (hw : wfT ts (false :: r)) (hf : fl r vs) (hv : okV v) (hu : okV u) (hvs : ∀ u, u ∈ vs → okV u) (hts : ∀ t, t ∈ ts → okT t) (hle : calls ≤ fuel) (hm : fuel ≤ 100) (hp : 1 ≤ tw t) (h5 : u.k = 4 → 4 ≤ tw t) :
    Next ⟨t :: ts, v :: u :: vs, calls, fuel, ended⟩ (callS ⟨ts, vs, calls, fuel, ended⟩ u v) := by
  unfold callS
  split
  · rename_i hk
    unfold enterS
    split
    · intro h; simp [St.stop, fuelO] at h
    · rename_i hc
      simp only at hc
      intro _
      obtain ⟨hb, hb'⟩ := hu.body hk
      refine ⟨⟨⟨r, wf_look rfl hw, hf⟩, hvs, fun x hx => ?_, by simp only; omega, hm⟩, ?_⟩
      · rcases List.mem_cons.1 hx with rfl | hx
        · refine okT_look hb hb' fun y hy => ?_
          rcases List.mem_cons.1 hy with rfl | hy
          · exact hv
          · exact hu.env y hy
        · exact hts x hx
      · have e1 : tw (lookT u.body (v :: u.env)) = 8 * u.body.tsz := by simp [tw, lookT]
        simp only [mu, List.map_cons, List.sum_cons, e1]
        have : (fuel - calls) * 1000 = (fuel - (calls + 1)) * 1000 + 1000 := by omega
        omega
  · split
    · rename_i hk
      unfold accompS
      intro _
      obtain ⟨_, h4, hcore⟩ := hu.core4 hk
      refine ⟨⟨⟨false :: true :: r, wf_one (.inr rfl) (wf_seven rfl (wf_one (.inr rfl) hw)), ⟨fun h => (by cases h), fun _ => h4, hf⟩⟩, fun x hx => ?_, fun x hx => ?_, hle, hm⟩, ?_⟩
      · rcases List.mem_cons.1 hx with rfl | hx
        · exact hv
        rcases List.mem_cons.1 hx with rfl | hx
        · exact hcore
        · exact hvs x hx
      · rcases List.mem_cons.1 hx with rfl | hx
        · exact okT_change hu.given
        rcases List.mem_cons.1 hx with rfl | hx
        · exact okT_do 7 (by omega) (by omega)
        rcases List.mem_cons.1 hx with rfl | hx
        · exact okT_change hu.answer
        · exact hts x hx
      · have h4 : ∀ c, tw (changeT c) = 1 := fun c => by simp [tw, changeT]
        have h7 : tw (doT 7) = 1 := by simp [tw, doT]
        have := h5 hk
        simp only [mu, List.map_cons, List.sum_cons, h4, h7]
        omega
    · intro h; simp [St.stop, stuckO] at h
theorem step_next {s : St} (h : okS s) (h0 : s.ended.k = 0) (ht : s.ts ≠ []) : Next s (stepS s) := by
  obtain ⟨⟨q, hw, hf⟩, hv, hts, hle, hm⟩ := h
  obtain ⟨ts, vs, calls, fuel, ended⟩ := s
  match ts, ht with
  | t :: ts, _ =>
  have e0 : stepS ⟨t :: ts, vs, calls, fuel, ended⟩ = doS ⟨ts, vs, calls, fuel, ended⟩ t := by simp only [stepS]; rw [if_pos h0]
  rw [e0]
  have hts' : ∀ t, t ∈ ts → okT t := fun u hu => hts u (by simp [hu])
  have htt := hts t (by simp)
  simp only at hw hf hv hle hm h0
  have tpos : 1 ≤ tw t := by
    unfold tw
    have := t.x.tsz_pos
    split
    · omega
    · split
      · omega
      · split <;> omega
  rcases hw with ⟨hd, hw⟩ | ⟨hd, b, r, rfl, hw⟩ | ⟨hd, a, b, r, rfl, hw⟩ | ⟨hd, a, r, rfl, hw⟩
  · obtain ⟨hx, hz, he⟩ := htt.1 (.inl hd)
    have := look_next (s := ⟨ts, vs, calls, fuel, ended⟩) hx hz he hw hf hv hts' hle hm
    have e1 : tw t = tw (lookT t.x t.s) := by simp [tw, lookT, hd]
    simp only [doS, hd, if_true]
    intro h1
    refine ⟨(this h1).1, ?_⟩
    have h2 := (this h1).2
    simp only [mu, List.map_cons, List.sum_cons, e1] at h2 ⊢
    exact h2
  · obtain ⟨v, vs', rfl, _, hf'⟩ := fl_one hf
    have hvv := hv v (by simp)
    have hvs : ∀ u, u ∈ vs' → okV u := fun u hu => hv u (by simp [hu])
    have n1 : t.d ≠ 1 := by omega
    simp only [doS, n1, if_false]
    rcases hd with hd | hd
    · obtain ⟨hx, hz, he⟩ := htt.1 (.inr hd)
      have hk6 := htt.2.1 hd
      have hl3 : t.x.l.length = 3 := by rw [hx.top.2.2.1, hk6]; rfl
      simp only [hd]
      by_cases hk : v.k = 2
      · simp only [hk]
        intro _
        have hlt : (if v.n = 1 then 1 else 2) < t.x.l.length := by split <;> omega
        have h0 := part_tsz hlt
        refine ⟨⟨⟨r, wf_look rfl hw, hf'⟩, hvs, fun u hu => ?_, hle, hm⟩, ?_⟩
        · rcases List.mem_cons.1 hu with rfl | hu
          · exact okT_look (hx.part hlt) (by omega) he
          · exact hts' u hu
        · have e2 : tw t = 8 * (t.x.at 1).tsz + 8 * (t.x.at 2).tsz + 1 := by simp [tw, hd]
          have e3 : tw (lookT (t.x.at (if v.n = 1 then 1 else 2)) t.s) ≤ 8 * (t.x.at 1).tsz + 8 * (t.x.at 2).tsz := by
            simp only [tw, lookT, if_true]
            split <;> omega
          have e4 : ¬ ((4 : Int) = 6) := by decide
          simp only [mu, St.plan, List.map_cons, List.sum_cons, e2, e4, if_false, if_true]
          omega
      · simp only [hk]; intro h; simp [St.stop, stuckO] at h
    · simp only [hd]
      have pushed : ∀ u, okV u → Next ⟨t :: ts, v :: vs', calls, fuel, ended⟩ (St.push ⟨ts, vs', calls, fuel, ended⟩ u) := fun u h _ => by
        refine ⟨okS.push ⟨r, hw, hf'⟩ h hvs hts' hle hm, ?_⟩
        simp only [mu, St.push, List.map_cons, List.sum_cons]
        omega
      have stopped : ∀ o : Out, o.k ≠ 0 → Next ⟨t :: ts, v :: vs', calls, fuel, ended⟩ (St.stop ⟨ts, vs', calls, fuel, ended⟩ o) := fun o h h' => absurd h' h
      simp only [changeS]
      cases hc : t.c with
      | none => exact pushed v hvv
      | some c =>
        have hcc := htt.2.2 c hc
        simp only [if_true]
        split
        · exact stopped _ (by simp [stuckO])
        rename_i h1
        split
        · rename_i h2
          exact stopped _ (by rw [hcc.opens h2.1]; omega)
        split
        · rename_i h3; exact stopped _ h3
        · exact pushed _ (okV_of hvv hcc fun ho => Classical.byContradiction fun h => h1 ⟨ho, h⟩)
  · obtain ⟨v, vs1, rfl, _, hf1⟩ := fl_one hf
    obtain ⟨u, vs', rfl, _, hf'⟩ := fl_one hf1
    have hvv := hv v (by simp)
    have huu := hv u (by simp)
    have hvs : ∀ u, u ∈ vs' → okV u := fun u hu => hv u (by simp [hu])
    have n1 : t.d ≠ 1 := by omega
    have n6 : t.d ≠ 6 := by omega
    have n4 : t.d ≠ 4 := by omega
    simp only [doS, n1, n6, n4, if_false]
    have made : ∀ (z : Val) (o : Out), okV z → Next ⟨t :: ts, v :: u :: vs', calls, fuel, ended⟩ ⟨ts, z :: vs', calls, fuel, o⟩ := fun z o h _ => by
      refine ⟨⟨⟨false :: r, hw, fl_cons hf'⟩, fun x hx => ?_, hts', hle, hm⟩, ?_⟩
      · rcases List.mem_cons.1 hx with rfl | hx
        · exact h
        · exact hvs x hx
      · simp only [mu, List.map_cons, List.sum_cons]
        omega
    rcases hd with hd | hd | hd
    · simp only [hd, if_true]
      exact made _ _ (okV_num (by unfold clampI; omega) (by unfold clampI; omega))
    · simp only [hd]
      exact made _ _ (okV_truth (by split <;> omega) (by split <;> omega))
    · simp only [hd]
      have ht5 : tw t = 5 := by simp [tw, hd]
      exact call_next hw hf' hvv huu hvs hts' hle hm (by omega) (fun _ => by omega)
  · obtain ⟨v, vs1, rfl, _, hf1⟩ := fl_one hf
    obtain ⟨u, vs', rfl, h4, hf'⟩ := fl_one hf1
    have hvv := hv v (by simp)
    have huu := hv u (by simp)
    have hvs : ∀ u, u ∈ vs' → okV u := fun u hu => hv u (by simp [hu])
    simp only [doS, hd]
    exact call_next hw hf' hvv huu hvs hts' hle hm tpos (fun h => absurd h (h4 rfl))
/-- The machine that has gone so far. -/
theorem run_ok {s : St} (h : okS s) : ∀ n, (runN n s).ended.k = 0 → okS (runN n s) ∧ (mu (runN n s) + n ≤ mu s ∨ (runN n s).ts = [])
  | 0, _ => ⟨h, .inl (by simp [runN])⟩
  | n + 1, h0 => by
    rw [runN_succ] at h0 ⊢
    by_cases he : (runN n s).ended.k = 0
    · obtain ⟨h1, h2⟩ := run_ok h n he
      by_cases ht : (runN n s).ts = []
      · rw [done_step (.inr ht)]
        exact ⟨h1, .inr ht⟩
      · obtain ⟨h3, h4⟩ := step_next h1 he ht h0
        refine ⟨h3, ?_⟩
        rcases h2 with h2 | h2
        · exact .inl (by omega)
        · exact absurd h2 ht
    · rw [done_step (.inl he)] at h0
      exact absurd h0 he
theorem mu_pos {s : St} (h : okS s) (ht : s.ts ≠ []) : 1 ≤ mu s := by
  obtain ⟨ts, vs, calls, fuel, ended⟩ := s
  match ts, ht with
  | t :: r, _ =>
    have : 1 ≤ tw t := by
      unfold tw
      have := t.x.tsz_pos
      split
      · omega
      · split
        · omega
        · split <;> omega
    simp only [mu, List.map_cons, List.sum_cons]
    omega
theorem run_done {s : St} (h : okS s) : (runN (mu s) s).done := by
  by_cases he : (runN (mu s) s).ended.k = 0
  · obtain ⟨h1, h2⟩ := run_ok h (mu s) he
    rcases h2 with h2 | h2
    · refine .inr (Classical.byContradiction fun ht => ?_)
      have := mu_pos h1 ht
      omega
    · exact .inr h2
  · exact .inl he
theorem run_more {s : St} (h : okS s) {n : Nat} (hn : mu s ≤ n) : runN n s = runN (mu s) s := by
  obtain ⟨m, rfl⟩ : ∃ m, n = mu s + m := ⟨n - mu s, by omega⟩
  rw [runN_add, done_run (run_done h)]
theorem st0_ok {x : Tm} {fuel : Nat} (h : shp x) (hz : x.tsz ≤ 100) (hf : fuel ≤ 100) : okS (st0 x fuel) ∧ mu (st0 x fuel) ≤ 100800 := by
  refine ⟨⟨⟨[], .inl ⟨rfl, false, rfl⟩, trivial⟩, fun v hv => (by cases hv), fun t ht => ?_, Nat.zero_le _, hf⟩, ?_⟩
  · rcases List.mem_cons.1 ht with rfl | ht
    · exact okT_look h hz fun v hv => by cases hv
    · cases ht
  · simp only [mu, st0, List.map_cons, List.sum_cons, List.map_nil, List.sum_nil]
    have : tw (lookT x []) = 8 * x.tsz := by simp [tw, lookT]
    omega
/-- Where the machine has ended, is what is told. -/
theorem runM_of {x : Tm} {fuel : Nat} (h : shp x) (hz : x.tsz ≤ 100) (hf : fuel ≤ 100) {n : Nat} (hd : (runN n (st0 x fuel)).done) : runM x fuel = finO (runN n (st0 x fuel)) := by
  obtain ⟨h1, h2⟩ := st0_ok h hz hf
  rw [runM_eq]
  rw [run_more h1 (n := bigN) (by unfold bigN; omega)]
  rcases Nat.le_total n (mu (st0 x fuel)) with hle | hle
  · obtain ⟨m, e⟩ : ∃ m, mu (st0 x fuel) = n + m := ⟨_, (Nat.add_sub_of_le hle).symm⟩
    rw [e, runN_add, done_run hd]
  · rw [run_more h1 hle]
theorem runM_done {x : Tm} {fuel : Nat} (h : shp x) (hz : x.tsz ≤ 100) (hf : fuel ≤ 100) : (runN bigN (st0 x fuel)).done := by
  obtain ⟨h1, h2⟩ := st0_ok h hz hf
  rw [run_more h1 (n := bigN) (by unfold bigN; omega)]
  exact run_done h1
end Go.Proofs.YtnddkmccagiclabGreatDoor
