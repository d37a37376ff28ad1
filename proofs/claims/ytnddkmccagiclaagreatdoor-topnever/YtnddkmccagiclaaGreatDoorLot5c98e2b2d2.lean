/-
  Trees that stand for Go values of the type 'Type{Kind int, L []Type}', with the addresses at which their lists lie, and what it means that such a tree lies in a world; no program in it.
-/
import Derived.WalkKit
import Derived.WalkSpells
import Derived.Lib.SpaceUEq
import Derived.Lib.FieldsP
import Derived.Lib.Replace
import Derived.Lib.MapLaws
import Derived.Lib.AtoiTie
import Derived.Lib.ItoaNum
import Derived.Lib.ItoaLen
namespace Go.Proofs.YtnddkmccagiclaaGreatDoor
open Go.RowKit
/-- A type: its kind, where its list lies, the list's capacity, its parts. -/
structure Tr where
  k : Int
  a : Option Addr
  c : Nat
  l : List Tr
theorem Tr.ind {P : Tr → Prop} (h : ∀ k a c l, (∀ t, t ∈ l → P t) → P ⟨k, a, c, l⟩) : ∀ t, P t
  | ⟨k, a, c, l⟩ => h k a c l fun t _ => Tr.ind h t
/-- The list's value. -/
def Tr.sl (t : Tr) : Value := .slice t.a t.l.length t.c
/-- The tree's parts lie in the world, each in two cells. -/
def Tr.In (w : World) : Tr → Prop
  | ⟨_, a, _, l⟩ => (∀ j (h : j < l.length), ∃ b o, a = some ⟨b, o, none⟩ ∧ w.cell? ⟨b, o + j * 2, none⟩ = some (.int .i64 l[j].k) ∧ w.cell? ⟨b, o + j * 2 + 1, none⟩ = some l[j].sl) ∧ ∀ t, t ∈ l → t.In w
theorem Tr.In_mk {w : World} {k : Int} {a : Option Addr} {c : Nat} {l : List Tr} : (Tr.mk k a c l).In w ↔ (∀ j (h : j < l.length), ∃ b o, a = some ⟨b, o, none⟩ ∧ w.cell? ⟨b, o + j * 2, none⟩ = some (.int .i64 l[j].k) ∧ w.cell? ⟨b, o + j * 2 + 1, none⟩ = some l[j].sl) ∧ ∀ t, t ∈ l → t.In w := by
  rw [Tr.In]
theorem Tr.In_nil (w : World) (k : Int) (a : Option Addr) (c : Nat) : (Tr.mk k a c []).In w :=
  Tr.In_mk.2 ⟨fun j h => absurd h (by simp), fun t h => absurd h (by simp)⟩
theorem Tr.In_two {w : World} {k : Int} {b o c : Nat} {x y : Tr} (c0 : w.cell? ⟨b, o, none⟩ = some (.int .i64 x.k)) (c1 : w.cell? ⟨b, o + 1, none⟩ = some (.slice x.a x.l.length x.c)) (c2 : w.cell? ⟨b, o + 2, none⟩ = some (.int .i64 y.k)) (c3 : w.cell? ⟨b, o + 3, none⟩ = some (.slice y.a y.l.length y.c)) (hx : x.In w) (hy : y.In w) :
    (Tr.mk k (some ⟨b, o, none⟩) c [x, y]).In w := by
  refine Tr.In_mk.2 ⟨fun j h => ?_, fun t h => ?_⟩
  · match j, h with
    | 0, _ => exact ⟨b, o, rfl, by simpa using c0, by simpa [Tr.sl] using c1⟩
    | 1, _ => exact ⟨b, o, rfl, by simpa using c2, by simpa [Tr.sl] using c3⟩
  · rcases List.mem_cons.1 h with rfl | h
    · exact hx
    · rcases List.mem_cons.1 h with rfl | h
      · exact hy
      · cases h
/-- Part j: where it lies, what its two cells hold, and that it lies there whole. -/
theorem Tr.In.part {w : World} {t : Tr} (h : t.In w) (j : Nat) (hj : j < t.l.length) : ∃ b o, t.a = some ⟨b, o, none⟩ ∧ w.cell? ⟨b, o + j * 2, none⟩ = some (.int .i64 t.l[j].k) ∧ w.cell? ⟨b, o + j * 2 + 1, none⟩ = some (.slice t.l[j].a t.l[j].l.length t.l[j].c) ∧ t.l[j].In w := by
  obtain ⟨k, a, c, l⟩ := t
  obtain ⟨hc, hi⟩ := Tr.In_mk.1 h
  obtain ⟨b, o, e, c0, c1⟩ := hc j hj
  exact ⟨b, o, e, c0, c1, hi _ (List.getElem_mem hj)⟩
theorem Tr.In.at {w : World} {k : Int} {a : Option Addr} {c : Nat} {l : List Tr} (h : (Tr.mk k a c l).In w) (j : Nat) (hj : j < l.length) : ∃ b o, a = some ⟨b, o, none⟩ ∧ w.cell? ⟨b, o + j * 2, none⟩ = some (.int .i64 l[j].k) ∧ w.cell? ⟨b, o + j * 2 + 1, none⟩ = some (.slice l[j].a l[j].l.length l[j].c) ∧ l[j].In w :=
  Tr.In.part h j hj
theorem Tr.In.below {w w' : World} (hb : Below w.heap.size w w') {t : Tr} : t.In w → t.In w' := by
  induction t using Tr.ind with
  | h k a c l ih =>
    intro h
    obtain ⟨hc, hi⟩ := Tr.In_mk.1 h
    refine Tr.In_mk.2 ⟨fun j hj => ?_, fun t ht => ih t ht (hi t ht)⟩
    obtain ⟨b, o, e, c0, c1⟩ := hc j hj
    exact ⟨b, o, e, cell_later hb c0, cell_later hb c1⟩
/-- The blocks in which the tree's parts lie are of this kind. -/
def Tr.Bl (P : Nat → Prop) : Tr → Prop
  | ⟨_, a, _, l⟩ => (l ≠ [] → ∀ x, a = some x → P x.block) ∧ ∀ t, t ∈ l → t.Bl P
theorem Tr.Bl_mk {P : Nat → Prop} {k : Int} {a : Option Addr} {c : Nat} {l : List Tr} : (Tr.mk k a c l).Bl P ↔ (l ≠ [] → ∀ x, a = some x → P x.block) ∧ ∀ t, t ∈ l → t.Bl P := by
  rw [Tr.Bl]
theorem Tr.Bl_nil (P : Nat → Prop) (k : Int) (a : Option Addr) (c : Nat) : (Tr.mk k a c []).Bl P :=
  Tr.Bl_mk.2 ⟨fun h => absurd rfl h, fun t h => absurd h (by simp)⟩
theorem Tr.Bl_two {P : Nat → Prop} {k : Int} {b o c : Nat} {x y : Tr} (h : P b) (hx : x.Bl P) (hy : y.Bl P) : (Tr.mk k (some ⟨b, o, none⟩) c [x, y]).Bl P := by
  refine Tr.Bl_mk.2 ⟨fun _ x hx => by cases hx; exact h, fun t ht => ?_⟩
  rcases List.mem_cons.1 ht with rfl | ht
  · exact hx
  · rcases List.mem_cons.1 ht with rfl | ht
    · exact hy
    · cases ht
theorem Tr.Bl.mono {P Q : Nat → Prop} (hPQ : ∀ b, P b → Q b) {t : Tr} : t.Bl P → t.Bl Q := by
  induction t using Tr.ind with
  | h k a c l ih =>
    intro h
    obtain ⟨h1, h2⟩ := Tr.Bl_mk.1 h
    exact Tr.Bl_mk.2 ⟨fun hl x hx => hPQ _ (h1 hl x hx), fun t ht => ih t ht (h2 t ht)⟩
theorem Tr.Bl.and {P Q : Nat → Prop} {t : Tr} : t.Bl P → t.Bl Q → t.Bl (fun b => P b ∧ Q b) := by
  induction t using Tr.ind with
  | h k a c l ih =>
    intro h g
    obtain ⟨h1, h2⟩ := Tr.Bl_mk.1 h
    obtain ⟨g1, g2⟩ := Tr.Bl_mk.1 g
    exact Tr.Bl_mk.2 ⟨fun hl x hx => ⟨h1 hl x hx, g1 hl x hx⟩, fun t ht => ih t ht (h2 t ht) (g2 t ht)⟩
theorem Tr.In.bl {w : World} {t : Tr} : t.In w → t.Bl (· < w.heap.size) := by
  induction t using Tr.ind with
  | h k a c l ih =>
    intro h
    obtain ⟨hc, hi⟩ := Tr.In_mk.1 h
    refine Tr.Bl_mk.2 ⟨fun hl x hx => ?_, fun t ht => ih t ht (hi t ht)⟩
    obtain ⟨b, o, e, c0, _⟩ := hc 0 (List.length_pos_iff.2 hl)
    rw [e] at hx
    have := Option.some.inj hx
    subst this
    exact World.block_lt_of_cell? _ _ c0
/-- What lies in blocks that read as they did lies there still. -/
theorem Tr.In.congr {w w' : World} {P : Nat → Prop} (hP : ∀ b, P b → ∀ o, w'.cell? ⟨b, o, none⟩ = w.cell? ⟨b, o, none⟩) {t : Tr} : t.Bl P → t.In w → t.In w' := by
  induction t using Tr.ind with
  | h k a c l ih =>
    intro hb h
    obtain ⟨hc, hi⟩ := Tr.In_mk.1 h
    obtain ⟨b1, b2⟩ := Tr.Bl_mk.1 hb
    refine Tr.In_mk.2 ⟨fun j hj => ?_, fun t ht => ih t ht (b2 t ht) (hi t ht)⟩
    obtain ⟨b, o, e, c0, c1⟩ := hc j hj
    have hx : P b := b1 (fun e => by rw [e] at hj; simp at hj) _ e
    exact ⟨b, o, e, by rw [hP b hx]; exact c0, by rw [hP b hx]; exact c1⟩
/-- Is it one of the four kinds, of as many good parts as it has, and of at most so many levels? -/
def goodT : Nat → Tr → Bool
  | 0, _ => false
  | n + 1, ⟨k, _, _, l⟩ => match l with
    | [] => k == 0 || k == 1 || k == 2
    | [x, y] => k == 3 && goodT n x && goodT n y
    | _ => false
end Go.Proofs.YtnddkmccagiclaaGreatDoor

/-
  Types without addresses, and the plain mathematics of how they go together: alike, fitting, finer, joined, plain, sure; no program in it.
-/
namespace Go.Proofs.YtnddkmccagiclaaGreatDoor
structure Ty where
  k : Int
  l : List Ty
theorem Ty.ind {P : Ty → Prop} (h : ∀ k l, (∀ t, t ∈ l → P t) → P ⟨k, l⟩) : ∀ t, P t
  | ⟨k, l⟩ => h k l fun t _ => Ty.ind h t
def Tr.ty : Tr → Ty
  | ⟨k, _, _, l⟩ => ⟨k, l.map fun t => t.ty⟩
theorem Tr.ty_mk (k : Int) (a : Option Addr) (c : Nat) (l : List Tr) : (Tr.mk k a c l).ty = ⟨k, l.map Tr.ty⟩ := by
  rw [Tr.ty]
theorem Tr.ty_k (t : Tr) : t.ty.k = t.k := by cases t; rw [Tr.ty_mk]
theorem Tr.ty_l (t : Tr) : t.ty.l = t.l.map Tr.ty := by cases t; rw [Tr.ty_mk]
/-- Good, without addresses. -/
def goodY : Nat → Ty → Bool
  | 0, _ => false
  | n + 1, ⟨k, l⟩ => match l with
    | [] => k == 0 || k == 1 || k == 2
    | [x, y] => k == 3 && goodY n x && goodY n y
    | _ => false
theorem goodT_eq : ∀ (n : Nat) (t : Tr), goodT n t = goodY n t.ty
  | 0, t => by simp [goodT, goodY]
  | n + 1, ⟨k, a, c, l⟩ => by
    match l with
    | [] => simp [goodT, goodY, Tr.ty_mk]
    | [x] => simp [goodT, goodY, Tr.ty_mk]
    | [x, y] => simp [goodT, goodY, Tr.ty_mk, goodT_eq n]
    | x :: y :: z :: r => simp [goodT, goodY, Tr.ty_mk]
/-- Do two lists go together, each with each? -/
def all2 {α β : Type} : (l : List α) → List β → ((x : α) → x ∈ l → β → Bool) → Bool
  | [], [], _ => true
  | x :: r, y :: s, f => f x List.mem_cons_self y && all2 r s (fun z h y => f z (List.mem_cons_of_mem _ h) y)
  | _, _, _ => false
/-- How two types go together: an escape at the top, or one kind and parts that go together. -/
def relY (esc : Int → Int → Bool) : Ty → Ty → Bool
  | ⟨k, l⟩, ⟨k', l'⟩ => esc k k' || (k == k' && all2 l l' fun x _ y => relY esc x y)
def relL (esc : Int → Int → Bool) : List Ty → List Ty → Bool
  | [], [] => true
  | x :: r, y :: s => relY esc x y && relL esc r s
  | _, _ => false
theorem all2_rel (esc : Int → Int → Bool) : ∀ l l' : List Ty, (all2 l l' fun x _ y => relY esc x y) = relL esc l l'
  | [], [] => by simp [all2, relL]
  | x :: r, y :: s => by simp [all2, relL, all2_rel esc r s]
  | [], _ :: _ => by simp [all2, relL]
  | _ :: _, [] => by simp [all2, relL]
theorem relY_mk (esc : Int → Int → Bool) (k k' : Int) (l l' : List Ty) : relY esc ⟨k, l⟩ ⟨k', l'⟩ = (esc k k' || (k == k' && relL esc l l')) := by
  rw [relY, all2_rel]
def escSame : Int → Int → Bool := fun _ _ => false
def escFits : Int → Int → Bool := fun k k' => k == 0 || k' == 0
def escFiner : Int → Int → Bool := fun _ k' => k' == 0
theorem relL_len (esc : Int → Int → Bool) : ∀ (l l' : List Ty), relL esc l l' = true → l.length = l'.length
  | [], [], _ => rfl
  | x :: r, y :: s, h => by
    simp only [relL, Bool.and_eq_true] at h
    simp [relL_len esc r s h.2]
  | [], _ :: _, h => by simp [relL] at h
  | _ :: _, [], h => by simp [relL] at h
theorem relL_all (esc : Int → Int → Bool) : ∀ (l l' : List Ty) (_ : l.length = l'.length), (∀ j (h : j < l.length) (h' : j < l'.length), relY esc l[j] l'[j] = true) → relL esc l l' = true
  | [], [], _, _ => by simp [relL]
  | x :: r, y :: s, hl, h => by
    simp only [relL, Bool.and_eq_true]
    refine ⟨h 0 (by simp) (by simp), relL_all esc r s (by simpa using hl) fun j h1 h2 => ?_⟩
    exact h (j + 1) (by simpa using h1) (by simpa using h2)
theorem relL_not (esc : Int → Int → Bool) : ∀ (l l' : List Ty) (j : Nat) (h : j < l.length) (h' : j < l'.length), relY esc l[j] l'[j] = false → relL esc l l' = false
  | [], _, j, h, _, _ => by simp at h
  | x :: r, [], j, _, h', _ => by simp at h'
  | x :: r, y :: s, 0, _, _, e => by simp only [List.getElem_cons_zero] at e; simp [relL, e]
  | x :: r, y :: s, j + 1, h, h', e => by
    simp only [relL, relL_not esc r s j (by simpa using h) (by simpa using h') (by simpa using e), Bool.and_false]
/-- Two lists, each with each. -/
def zip2 {α β γ : Type} : (l : List α) → List β → ((x : α) → x ∈ l → β → γ) → List γ
  | x :: r, y :: s, f => f x List.mem_cons_self y :: zip2 r s (fun z h y => f z (List.mem_cons_of_mem _ h) y)
  | _, _, _ => []
/-- What two types both say. -/
def joinY : Ty → Ty → Ty
  | ⟨k, l⟩, ⟨k', l'⟩ => if k = k' then ⟨k, zip2 l l' fun x _ y => joinY x y⟩ else ⟨0, []⟩
def joinL : List Ty → List Ty → List Ty
  | x :: r, y :: s => joinY x y :: joinL r s
  | _, _ => []
theorem zip2_join : ∀ l l' : List Ty, (zip2 l l' fun x _ y => joinY x y) = joinL l l'
  | [], [] => by simp [zip2, joinL]
  | x :: r, y :: s => by simp [zip2, joinL, zip2_join r s]
  | [], _ :: _ => by simp [zip2, joinL]
  | _ :: _, [] => by simp [zip2, joinL]
theorem joinY_mk (k k' : Int) (l l' : List Ty) : joinY ⟨k, l⟩ ⟨k', l'⟩ = if k = k' then ⟨k, joinL l l'⟩ else ⟨0, []⟩ := by
  rw [joinY, zip2_join]
/-- One of the four kinds, Fun of two parts that are right, all others of none. -/
def Tr.right : Tr → Prop
  | ⟨k, _, _, l⟩ => (l = [] ∧ (k = 0 ∨ k = 1 ∨ k = 2) ∨ l.length = 2 ∧ k = 3) ∧ ∀ t, t ∈ l → t.right
theorem Tr.right_mk {k : Int} {a : Option Addr} {c : Nat} {l : List Tr} : (Tr.mk k a c l).right ↔ (l = [] ∧ (k = 0 ∨ k = 1 ∨ k = 2) ∨ l.length = 2 ∧ k = 3) ∧ ∀ t, t ∈ l → t.right := by
  rw [Tr.right]
theorem Tr.right_good : ∀ (n : Nat) (t : Tr), goodT n t = true → t.right
  | 0, t, h => by simp [goodT] at h
  | n + 1, ⟨k, a, c, l⟩, h => by
    refine Tr.right_mk.2 ?_
    match l, h with
    | [], h => exact ⟨.inl ⟨rfl, by simpa [goodT, or_assoc] using h⟩, fun t ht => by cases ht⟩
    | [x], h => simp [goodT] at h
    | [x, y], h =>
      simp only [goodT, Bool.and_eq_true] at h
      refine ⟨.inr ⟨rfl, by simpa using h.1.1⟩, fun t ht => ?_⟩
      rcases List.mem_cons.1 ht with rfl | ht
      · exact Tr.right_good n _ h.1.2
      · rcases List.mem_cons.1 ht with rfl | ht
        · exact Tr.right_good n _ h.2
        · cases ht
    | x :: y :: z :: r, h => simp [goodT] at h
theorem Tr.right.cases {t : Tr} (h : t.right) : (t.l = [] ∧ (t.k = 0 ∨ t.k = 1 ∨ t.k = 2)) ∨ (∃ x y, t.l = [x, y] ∧ t.k = 3 ∧ x.right ∧ y.right) := by
  obtain ⟨k, a, c, l⟩ := t
  rcases Tr.right_mk.1 h with ⟨⟨rfl, hk⟩ | ⟨hl, hk⟩, hr⟩
  · exact .inl ⟨rfl, hk⟩
  · match l, hl, hr with
    | [x, y], _, hr => exact .inr ⟨x, y, rfl, hk, hr x (by simp), hr y (by simp)⟩
/-- How many levels. -/
def Tr.hgt : Tr → Nat
  | ⟨_, _, _, l⟩ => (l.map fun t => t.hgt).foldr max 0 + 1
theorem Tr.hgt_mk (k : Int) (a : Option Addr) (c : Nat) (l : List Tr) : (Tr.mk k a c l).hgt = (l.map Tr.hgt).foldr max 0 + 1 := by
  rw [Tr.hgt]
theorem le_maxes : ∀ (l : List Nat) (j : Nat) (h : j < l.length), l[j] ≤ l.foldr max 0
  | [], j, h => by simp at h
  | x :: r, 0, _ => by simp only [List.getElem_cons_zero, List.foldr_cons]; omega
  | x :: r, j + 1, h => by
    have := le_maxes r j (by simpa using h)
    simp only [List.getElem_cons_succ, List.foldr_cons]; omega
/-- No list in it is longer than any memory. -/
def Tr.sm : Tr → Prop
  | ⟨_, _, _, l⟩ => l.length ≤ 140737488355328 ∧ ∀ t, t ∈ l → t.sm
theorem Tr.sm_mk {k : Int} {a : Option Addr} {c : Nat} {l : List Tr} : (Tr.mk k a c l).sm ↔ l.length ≤ 140737488355328 ∧ ∀ t, t ∈ l → t.sm := by
  rw [Tr.sm]
theorem Tr.sm.len {t : Tr} (h : t.sm) : t.l.length ≤ 140737488355328 := by cases t; exact (Tr.sm_mk.1 h).1
theorem Tr.sm.part {t : Tr} (h : t.sm) (j : Nat) (hj : j < t.l.length) : t.l[j].sm := by
  obtain ⟨k, a, c, l⟩ := t
  exact (Tr.sm_mk.1 h).2 _ (List.getElem_mem hj)
theorem Tr.sm_good : ∀ (n : Nat) (t : Tr), goodT n t = true → t.sm
  | 0, t, h => by simp [goodT] at h
  | n + 1, ⟨k, a, c, l⟩, h => by
    refine Tr.sm_mk.2 ?_
    match l, h with
    | [], _ => exact ⟨by simp, fun t ht => by cases ht⟩
    | [x], h => simp [goodT] at h
    | [x, y], h =>
      simp only [goodT, Bool.and_eq_true] at h
      refine ⟨by simp, fun t ht => ?_⟩
      rcases List.mem_cons.1 ht with rfl | ht
      · exact Tr.sm_good n _ h.1.2
      · rcases List.mem_cons.1 ht with rfl | ht
        · exact Tr.sm_good n _ h.2
        · cases ht
    | x :: y :: z :: r, h => simp [goodT] at h
theorem Tr.hgt_part {t : Tr} {n : Nat} (h : t.hgt ≤ n + 1) (j : Nat) (hj : j < t.l.length) : t.l[j].hgt ≤ n := by
  obtain ⟨k, a, c, l⟩ := t
  rw [Tr.hgt_mk] at h
  have h1 := le_maxes (l.map Tr.hgt) j (by simpa using hj)
  rw [List.getElem_map] at h1
  exact Nat.le_trans h1 (by omega)
theorem Tr.hgt_pos (t : Tr) : 1 ≤ t.hgt := by cases t; rw [Tr.hgt_mk]; omega
theorem Tr.hgt_good : ∀ (n : Nat) (t : Tr), goodT n t = true → t.hgt ≤ n
  | 0, t, h => by simp [goodT] at h
  | n + 1, ⟨k, a, c, l⟩, h => by
    rw [Tr.hgt_mk]
    match l, h with
    | [], _ => simp
    | [x], h => simp [goodT] at h
    | [x, y], h =>
      simp only [goodT, Bool.and_eq_true] at h
      have hx := Tr.hgt_good n x h.1.2
      have hy := Tr.hgt_good n y h.2
      simp only [List.map_cons, List.map_nil, List.foldr_cons, List.foldr_nil]; omega
    | x :: y :: z :: r, h => simp [goodT] at h
theorem relY_top (esc : Int → Int → Bool) (x y : Tr) (he : esc x.k y.k = false) (ht : (x.k == y.k && (x.l.length : Int) == (y.l.length : Int)) = false) : relY esc x.ty y.ty = false := by
  obtain ⟨k, a, c, l⟩ := x
  obtain ⟨k', a', c', l'⟩ := y
  dsimp only at he ht
  rw [Tr.ty_mk, Tr.ty_mk, relY_mk, he, Bool.false_or]
  by_cases hk : (k == k') = true
  · rw [hk, Bool.true_and] at ht
    rw [hk, Bool.true_and]
    cases hr : relL esc (l.map Tr.ty) (l'.map Tr.ty) with
    | false => rfl
    | true =>
      have := relL_len esc _ _ hr
      rw [List.length_map, List.length_map] at this
      rw [this] at ht
      simp at ht
  · have : (k == k') = false := by simpa using hk
    rw [this, Bool.false_and]
theorem relY_esc (esc : Int → Int → Bool) (x y : Tr) (he : esc x.k y.k = true) : relY esc x.ty y.ty = true := by
  obtain ⟨k, a, c, l⟩ := x
  obtain ⟨k', a', c', l'⟩ := y
  dsimp only at he
  rw [Tr.ty_mk, Tr.ty_mk, relY_mk, he, Bool.true_or]
theorem relY_part_not (esc : Int → Int → Bool) (x y : Tr) (he : esc x.k y.k = false) (j : Nat) (h : j < x.l.length) (h' : j < y.l.length) (hr : relY esc x.l[j].ty y.l[j].ty = false) : relY esc x.ty y.ty = false := by
  obtain ⟨k, a, c, l⟩ := x
  obtain ⟨k', a', c', l'⟩ := y
  dsimp only at he h h' hr
  rw [Tr.ty_mk, Tr.ty_mk, relY_mk, he, Bool.false_or, relL_not esc (l.map Tr.ty) (l'.map Tr.ty) j (by simpa using h) (by simpa using h') (by simpa using hr), Bool.and_false]
theorem relY_parts (esc : Int → Int → Bool) (x y : Tr) (hk : x.k = y.k) (hl : x.l.length = y.l.length) (hr : ∀ q (h : q < x.l.length) (h' : q < y.l.length), relY esc x.l[q].ty y.l[q].ty = true) : relY esc x.ty y.ty = true := by
  obtain ⟨k, a, c, l⟩ := x
  obtain ⟨k', a', c', l'⟩ := y
  dsimp only at hk hl hr
  subst hk
  rw [Tr.ty_mk, Tr.ty_mk, relY_mk, relL_all esc (l.map Tr.ty) (l'.map Tr.ty) (by simpa using hl) fun j h h' => by simpa using hr j (by simpa using h) (by simpa using h')]
  simp
end Go.Proofs.YtnddkmccagiclaaGreatDoor

/-
  The words of a text, byte by byte: what FieldsFunc at spaces and line ends gives of a text around whose brackets spaces were laid; no program in it.
-/
namespace Go.Proofs.YtnddkmccagiclaaGreatDoor
def spB (c : UInt8) : Bool := c == 32 || c == 10
def spR (r : Nat) : Bool := r == 32 || r == 10
def flush (cur : List UInt8) : List (List UInt8) := if cur = [] then [] else [cur]
/-- The words between spaces. -/
def splitW (cur : List UInt8) : List UInt8 → List (List UInt8)
  | [] => flush cur
  | c :: r => if spB c = true then flush cur ++ splitW [] r else splitW (cur ++ [c]) r
theorem splitW_skip : ∀ (k : Nat) (cur l : List UInt8), k ≤ l.length → (∀ j, j < k → spB (l.getD j 0) = false) → splitW cur l = splitW (cur ++ l.take k) (l.drop k)
  | 0, cur, l, _, _ => by simp
  | k + 1, cur, [], h, _ => by simp at h
  | k + 1, cur, b :: t, h, hz => by
    have h0 := hz 0 (by omega)
    simp only [List.getD_cons_zero] at h0
    rw [splitW, if_neg (by simp [h0])]
    rw [splitW_skip k (cur ++ [b]) t (by simpa using h) (fun j hj => by have := hz (j + 1) (by omega); simpa using this)]
    simp
def curOf (s : ByteArray) (st : Option Nat) (pos : Nat) : List UInt8 :=
  match st with
  | none => []
  | some a => (s.data.toList.drop a).take (pos - a)
theorem curOf_ne (s : ByteArray) (a pos : Nat) (h : a < pos) (hp : pos ≤ s.size) : curOf s (some a) pos ≠ [] := by
  intro e
  have : (curOf s (some a) pos).length = 0 := by rw [e]; rfl
  have hl : s.data.toList.length = s.size := Array.length_toList
  simp only [curOf, List.length_take, List.length_drop, hl] at this
  omega
theorem spB_big (c : UInt8) (h : 128 ≤ c.toNat) : spB c = false := by
  simp only [spB, Bool.or_eq_false_iff, beq_eq_false_iff_ne]
  constructor
  · rintro rfl; simp at h
  · rintro rfl; simp at h
theorem spB_spR (c : UInt8) : spR c.toNat = spB c := by
  have e : ∀ n : UInt8, (c.toNat == n.toNat) = (c == n) := by
    intro n
    rw [Bool.eq_iff_iff, beq_iff_eq, beq_iff_eq]
    exact UInt8.toNat_inj
  have e1 := e 32
  have e2 := e 10
  simp only [spR, spB, ← e1, ← e2]
  rfl
theorem cur_step (s : ByteArray) (st : Option Nat) (pos k : Nat) (hst : ∀ a, st = some a → a < pos) :
    curOf s st pos ++ (s.data.toList.drop pos).take k = curOf s (some (st.getD pos)) (pos + k) := by
  cases st with
  | none =>
    simp only [curOf, Option.getD_none, List.nil_append]
    rw [show pos + k - pos = k by omega]
  | some a =>
    have := hst a rfl
    simp only [curOf, Option.getD_some]
    rw [show pos + k - a = (pos - a) + k by omega, List.take_add, List.drop_drop, show a + (pos - a) = pos by omega]
def bytesOf (s : ByteArray) (x : Nat × Nat) : List UInt8 := (s.data.toList.drop x.1).take (x.2 - x.1)
theorem spans_end (s : ByteArray) (f pos : Nat) (st : Option Nat) (acc : List (Nat × Nat)) (hp : pos ≤ s.size) (hlt : ¬ pos < s.size) (hst : ∀ a, st = some a → a < pos) :
    (Lib.closeSpans s (Lib.spansFromP spR s f pos st acc)).map (bytesOf s) = acc.map (bytesOf s) ++ splitW (curOf s st pos) (s.data.toList.drop pos) := by
  have hl : s.data.toList.length = s.size := Array.length_toList
  have e : pos = s.size := by omega
  rw [Lib.spansFromP_end spR s f pos st acc hlt]
  rw [List.drop_eq_nil_of_le (by rw [hl]; omega), splitW]
  cases st with
  | none => simp [Lib.closeSpans, curOf, flush]
  | some a =>
    rw [flush, if_neg (curOf_ne s a pos (hst a rfl) hp)]
    simp [Lib.closeSpans, curOf, bytesOf, e]
theorem spans_split (s : ByteArray) : ∀ (f pos : Nat) (st : Option Nat) (acc : List (Nat × Nat)), pos ≤ s.size → s.size ≤ pos + f → (∀ a, st = some a → a < pos) →
    (Lib.closeSpans s (Lib.spansFromP spR s f pos st acc)).map (bytesOf s) = acc.map (bytesOf s) ++ splitW (curOf s st pos) (s.data.toList.drop pos)
  | 0, pos, st, acc, hp, hf, hst => spans_end s 0 pos st acc hp (by omega) hst
  | f + 1, pos, st, acc, hp, hf, hst => by
    have hl : s.data.toList.length = s.size := Array.length_toList
    by_cases hlt : pos < s.size
    · have hd := Lib.decode_N s pos
      generalize hR : Utf8.decode s pos = D at hd
      have hyes : spR D.1 = true → Lib.spansFromP spR s (f + 1) pos st acc = Lib.spansFromP spR s f (pos + D.2) none (acc ++ (st.map fun a => (a, pos)).toList) := by
        intro h
        cases st <;> simp [Lib.spansFromP, hlt, hR, h]
      have hno : spR D.1 = false → Lib.spansFromP spR s (f + 1) pos st acc = Lib.spansFromP spR s f (pos + D.2) (some (st.getD pos)) acc := by
        intro h
        cases st <;> simp [Lib.spansFromP, hlt, hR, h]
      have hg : s.data.toList.drop pos = s.data.toList.getD pos 0 :: s.data.toList.drop (pos + 1) := by
        rw [List.drop_eq_getElem_cons (by rw [hl]; exact hlt)]
        simp [List.getD_eq_getElem?_getD, hl, hlt]
      have hge : ∀ j, (s.data.toList.drop pos).getD j 0 = s.data.toList.getD (pos + j) 0 := by
        intro j; simp [List.getD_eq_getElem?_getD, List.getElem?_drop]
      have hcon := Lib.decodeN_conts (s.data.toList.length - pos) (s.data.toList.getD pos 0).toNat (s.data.toList.getD (pos + 1) 0).toNat (s.data.toList.getD (pos + 2) 0).toNat (s.data.toList.getD (pos + 3) 0).toNat
      have hge1 := Lib.decodeN_ge1 (s.data.toList.length - pos) (s.data.toList.getD pos 0).toNat (s.data.toList.getD (pos + 1) 0).toNat (s.data.toList.getD (pos + 2) 0).toNat (s.data.toList.getD (pos + 3) 0).toNat
      have hsh := Lib.decodeN_shape (s.data.toList.length - pos) (s.data.toList.getD pos 0).toNat (s.data.toList.getD (pos + 1) 0).toNat (s.data.toList.getD (pos + 2) 0).toNat (s.data.toList.getD (pos + 3) 0).toNat
      rw [← hd] at hcon hge1 hsh
      -- a step that goes on with the word
      have go : ∀ k, D.2 = k → spR D.1 = false → pos + k ≤ s.size → (∀ j, j < k → spB (s.data.toList.getD (pos + j) 0) = false) → 1 ≤ k →
          (Lib.closeSpans s (Lib.spansFromP spR s (f + 1) pos st acc)).map (bytesOf s) = acc.map (bytesOf s) ++ splitW (curOf s st pos) (s.data.toList.drop pos) := by
        intro k hk hs hpk hz h1
        rw [hno hs, hk]
        have ih := spans_split s f (pos + k) (some (st.getD pos)) acc hpk (by omega) (by
          intro a ha
          cases st with
          | none => simp at ha; omega
          | some b => have := hst b rfl; simp at ha; omega)
        rw [splitW_skip k (curOf s st pos) (s.data.toList.drop pos) (by simp [hl]; omega) (fun j hj => by rw [hge]; exact hz j hj), cur_step s st pos k hst, List.drop_drop, ← ih]
      rcases hsh with ⟨hb, he⟩ | ⟨hb, hn, hb1, hb2, he⟩ | ⟨hb, hn, hb1, hb2, hb3, _, he⟩ | ⟨hb, hn, hb1, hb2, hb3, hb4, _, he⟩ | he
      · by_cases hs : spB (s.data.toList.getD pos 0) = true
        · have hr : spR D.1 = true := by rw [he]; exact (spB_spR _).trans hs
          rw [hyes hr, he]
          rw [hg, splitW, if_pos hs]
          cases st with
          | none =>
            rw [spans_split s f (pos + 1) none _ (by omega) (by omega) (by intro a h; cases h)]
            simp [curOf, flush]
          | some a =>
            have ha := hst a rfl
            rw [spans_split s f (pos + 1) none _ (by omega) (by omega) (by intro a h; cases h)]
            rw [flush, if_neg (curOf_ne s a pos ha hp)]
            simp [curOf, bytesOf]
        · have hs' : spB (s.data.toList.getD pos 0) = false := by simpa using hs
          exact go 1 (by rw [he]) (by rw [he]; exact (spB_spR _).trans hs') (by omega) (fun j hj => by rw [show j = 0 by omega]; exact hs') (by omega)
      · refine go 2 (by rw [he]) ?_ (by omega) (fun j hj => ?_) (by omega)
        · rw [he]; simp only [spR, Bool.or_eq_false_iff, beq_eq_false_iff_ne]; omega
        · refine spB_big _ ?_
          obtain rfl | rfl : j = 0 ∨ j = 1 := by omega
          · show 128 ≤ (s.data.toList.getD pos 0).toNat; omega
          · omega
      · refine go 3 (by rw [he]) ?_ (by omega) (fun j hj => ?_) (by omega)
        · rw [he]; simp only [spR, Bool.or_eq_false_iff, beq_eq_false_iff_ne]; omega
        · refine spB_big _ ?_
          obtain rfl | rfl | rfl : j = 0 ∨ j = 1 ∨ j = 2 := by omega
          · show 128 ≤ (s.data.toList.getD pos 0).toNat; omega
          · omega
          · omega
      · refine go 4 (by rw [he]) ?_ (by omega) (fun j hj => ?_) (by omega)
        · rw [he]; simp only [spR, Bool.or_eq_false_iff, beq_eq_false_iff_ne]; omega
        · refine spB_big _ ?_
          obtain rfl | rfl | rfl | rfl : j = 0 ∨ j = 1 ∨ j = 2 ∨ j = 3 := by omega
          · show 128 ≤ (s.data.toList.getD pos 0).toNat; omega
          · omega
          · omega
          · omega
      · by_cases hb : (s.data.toList.getD pos 0).toNat < 128
        · have e2 := Lib.decodeN_ascii (s.data.toList.length - pos) _ (s.data.toList.getD (pos + 1) 0).toNat (s.data.toList.getD (pos + 2) 0).toNat (s.data.toList.getD (pos + 3) 0).toNat hb
          rw [← hd, he] at e2
          have := congrArg Prod.fst e2
          simp only at this
          omega
        · refine go 1 (by rw [he]) (by rw [he]; rfl) (by omega) (fun j hj => ?_) (by omega)
          rw [show j = 0 by omega]
          exact spB_big _ (by show 128 ≤ (s.data.toList.getD pos 0).toNat; omega)
    · exact spans_end s (f + 1) pos st acc hp hlt hst
end Go.Proofs.YtnddkmccagiclaaGreatDoor

/-
  Terms without addresses, their text and its words, and how words are read: the plain mathematics of package term; no program in it.
-/
namespace Go.Proofs.YtnddkmccagiclaaGreatDoor
/-- tellsType. -/
def tells (k : Int) : Bool := k == 7 || k == 9
/-- Which of the words it is. -/
def atWord (x : ByteArray) : List ByteArray → Nat → Option Nat
  | [], _ => none
  | y :: r, i => if y = x then some i else atWord x r (i + 1)
def truthWs : List ByteArray := [⟨#[110, 111]⟩, ⟨#[121, 101, 115]⟩]
def typeWs : List ByteArray := [⟨#[97, 110, 121]⟩, ⟨#[110, 117, 109]⟩, ⟨#[116, 114, 117, 116, 104]⟩]
def kindWs : List ByteArray := [⟨#[97, 100, 100]⟩, ⟨#[108, 101, 115, 115]⟩, ⟨#[105, 102]⟩, ⟨#[102, 117, 110]⟩, ⟨#[99, 97, 108, 108]⟩, ⟨#[97, 115]⟩]
/-- The kind of a word that opens brackets. -/
def kindAt (x : ByteArray) : Option Nat := atWord x kindWs 4
/-- The number that a word tells, as it is printed. -/
def numOf (d : ByteArray) : Option Int :=
  match Lib.atoiAll d.data.toList with
  | .ok v => if (⟨(Lib.itoa v).toArray⟩ : ByteArray) = d then some v else none
  | _ => none
def opB : ByteArray := ⟨#[40]⟩
def clB : ByteArray := ⟨#[41]⟩
def toB : ByteArray := ⟨#[116, 111]⟩
/-- The words behind that one; none: it isn't the first. -/
def behind (x : ByteArray) : List ByteArray → Option (List ByteArray)
  | y :: r => if y = x then some r else none
  | [] => none
/-- The type that the words tell, and the words behind it. -/
def readTy : Nat → List ByteArray → Option (Ty × List ByteArray)
  | 0, _ => none
  | _ + 1, [] => none
  | n + 1, x :: r =>
    if x = opB then
      (behind toB r).bind fun r1 => (readTy n r1).bind fun p => (readTy n p.2).bind fun q => (behind clB q.2).map fun r4 => (⟨3, [p.1, q.1]⟩, r4)
    else (atWord x typeWs 0).map fun (k : Nat) => (Ty.mk (k : Int) [], r)
/-- A term: its kind, its number, its two types, its parts. -/
structure Tm where
  k : Int
  n : Int
  t : Ty
  f : Ty
  l : List Tm
theorem Tm.ind {P : Tm → Prop} (h : ∀ k n t f l, (∀ x, x ∈ l → P x) → P ⟨k, n, t, f, l⟩) : ∀ t, P t
  | ⟨k, n, t, f, l⟩ => h k n t f l fun x _ => Tm.ind h x
def anyY : Ty := ⟨0, []⟩
/-- How many parts a term of a kind has. -/
def partsOf (k : Int) : Nat := if k = 4 ∨ k = 5 ∨ k = 8 then 2 else if k = 6 then 3 else if k = 7 ∨ k = 9 then 1 else 0
/-- So many things, one behind the other. -/
def readN (f : List ByteArray → Option (Tm × List ByteArray)) : Nat → List ByteArray → Option (List Tm × List ByteArray)
  | 0, ws => some ([], ws)
  | m + 1, ws => (f ws).bind fun p => (readN f m p.2).map fun q => (p.1 :: q.1, q.2)
/-- A word that is no bracket. -/
def readWord (x : ByteArray) (r : List ByteArray) : Option (Tm × List ByteArray) :=
  match atWord x truthWs 0 with
  | some b => some (⟨3, (b : Int), anyY, anyY, []⟩, r)
  | none =>
    match x.data.toList with
    | 35 :: d => (numOf ⟨d.toArray⟩).map fun n => (⟨1, n, anyY, anyY, []⟩, r)
    | _ => (numOf x).map fun n => (⟨2, n, anyY, anyY, []⟩, r)
/-- The type that is told behind the word of a kind. -/
def readT (n : Nat) (k : Nat) (ws : List ByteArray) : Option (Ty × List ByteArray) := if tells (k : Int) = true then readTy n ws else some (anyY, ws)
/-- The term that the words tell, and the words behind it. -/
def readTm : Nat → List ByteArray → Option (Tm × List ByteArray)
  | 0, _ => none
  | _ + 1, [] => none
  | n + 1, x :: r =>
    if x = opB then
      match r with
      | [] => none
      | y :: r1 => (kindAt y).bind fun k => (readT n k r1).bind fun p => (readN (readTm n) (partsOf (k : Int)) p.2).bind fun q => (behind clB q.2).map fun r4 => (⟨(k : Int), 0, p.1, anyY, q.1⟩, r4)
    else readWord x r
/-! ### Good -/
def isAnyY (t : Ty) : Bool := relY escSame t anyY
def okNum (ar ins k n : Int) : Bool := if k = 1 then decide (0 ≤ n) && decide (n - ins < ar) else if k = 2 then decide (-1000000 ≤ n) && decide (n ≤ 1000000) else if k = 3 then n == 0 || n == 1 else n == 0
def okTypes (k : Int) (t f : Ty) : Bool := isAnyY f && (if tells k = true then goodY 4 t else isAnyY t)
/-- All that is asked of a term but of its parts. -/
def okTop (ar ins : Int) (x : Tm) : Bool := (decide (1 ≤ x.k) && decide (x.k ≤ 9) && (x.l.length == partsOf x.k)) && (okTypes x.k x.t x.f && okNum ar ins x.k x.n)
def bindL {α : Type} (f : α → Nat → Option Nat) : List α → Nat → Option Nat
  | [], r => some r
  | x :: xs, r => (f x r).bind fun r' => bindL f xs r'
def insOf (k ins : Int) : Int := if k = 7 then ins + 1 else ins
/-- Good, with the room that is left: none: it isn't. -/
def goodS (ar : Int) : Nat → Int → Tm → Nat → Option Nat
  | 0, _, _, _ => none
  | _ + 1, _, _, 0 => none
  | n + 1, ins, x, r + 1 => if okTop ar ins x = true then bindL (fun y r' => goodS ar n (insOf x.k ins) y r') x.l r else none
/-! ### Texts -/
def bw (w : List UInt8) : ByteArray := ⟨w.toArray⟩
theorem bw_data (w : List UInt8) : (bw w).data.toList = w := rfl
def brB (c : UInt8) : Bool := c == 40 || c == 41
/-- The words of a text: brackets are words, too. -/
def tokW (cur : List UInt8) : List UInt8 → List (List UInt8)
  | [] => flush cur
  | c :: r => if spB c = true then flush cur ++ tokW [] r else if brB c = true then flush cur ++ [[c]] ++ tokW [] r else tokW (cur ++ [c]) r
/-- Spaces around each such byte. -/
def around (c : UInt8) (s : List UInt8) : List UInt8 := s.flatMap fun x => if x = c then [32, c, 32] else [x]
theorem around_cons (c x : UInt8) (s : List UInt8) : around c (x :: s) = (if x = c then [32, c, 32] else [x]) ++ around c s := rfl
theorem around_append (c : UInt8) (a b : List UInt8) : around c (a ++ b) = around c a ++ around c b := by simp [around]
theorem split_tok : ∀ (s cur : List UInt8), splitW cur (around 41 (around 40 s)) = tokW cur s
  | [], cur => rfl
  | c :: r, cur => by
    by_cases h40 : c = 40
    · subst h40
      rw [around_cons, if_pos rfl, around_append]
      have e : around 41 [32, 40, 32] = [32, 40, 32] := rfl
      have e1 : spB 32 = true := rfl
      have e2 : spB 40 = false := rfl
      have e3 : brB 40 = true := rfl
      rw [e]
      simp only [List.cons_append, List.nil_append, splitW, tokW, e1, e2, e3, if_true]
      simp [flush, split_tok r []]
    · rw [around_cons, if_neg h40, around_append]
      by_cases h41 : c = 41
      · subst h41
        have e : around 41 [41] = [32, 41, 32] := rfl
        have e1 : spB 32 = true := rfl
        have e2 : spB 41 = false := rfl
        have e3 : brB 41 = true := rfl
        rw [e]
        simp only [List.cons_append, List.nil_append, splitW, tokW, e1, e2, e3, if_true]
        simp [flush, split_tok r []]
      · have e : around 41 [c] = [c] := by simp [around, h41]
        have eb : brB c = false := by simp [brB, h40, h41]
        rw [e]
        simp only [List.cons_append, List.nil_append, splitW, tokW, eb]
        cases spB c
        · simp [split_tok r (cur ++ [c])]
        · simp [split_tok r []]
/-! ### Numbers -/
end Go.Proofs.YtnddkmccagiclaaGreatDoor
