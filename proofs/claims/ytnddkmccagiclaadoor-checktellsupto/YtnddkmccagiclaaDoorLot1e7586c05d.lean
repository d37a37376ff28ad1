/-
  Trees that stand for Go values of the type 'Type{Kind int, L []Type}', with the addresses at which their lists lie, and what it means that such a tree lies in a world; no program in it.
-/
import Derived.WalkKit
import Derived.WalkSpells
import Derived.Test.YtnddkmccagiclaaDoorRows
import Derived.Deep.RegionHeld3
import Derived.Deep.AppendLies
import Derived.Deep.RegionLaw
import Derived.Deep.LoopGhost
namespace Go.Proofs.YtnddkmccagiclaaDoor
open Go.RowKit
/-- A type: its kind, where its list lies, the list's capacity, its parts. -/
structure Tr where
  k : Int
  a : Option Addr
  c : Nat
  l : List Tr
theorem Tr.ind {P : Tr → Prop} (h : ∀ k a c l, (∀ t, t ∈ l → P t) → P ⟨k, a, c, l⟩) : ∀ t, P t
  | ⟨k, a, c, l⟩ => h k a c l fun t _ => Tr.ind h t
/-- The list's value. -/
def Tr.sl (t : Tr) : Value := .slice t.a t.l.length t.c
/-- The tree's parts lie in the world, each in two cells. -/
def Tr.In (w : World) : Tr → Prop
  | ⟨_, a, _, l⟩ => (∀ j (h : j < l.length), ∃ b o, a = some ⟨b, o, none⟩ ∧ w.cell? ⟨b, o + j * 2, none⟩ = some (.int .i64 l[j].k) ∧ w.cell? ⟨b, o + j * 2 + 1, none⟩ = some l[j].sl) ∧ ∀ t, t ∈ l → t.In w
theorem Tr.In_mk {w : World} {k : Int} {a : Option Addr} {c : Nat} {l : List Tr} : (Tr.mk k a c l).In w ↔ (∀ j (h : j < l.length), ∃ b o, a = some ⟨b, o, none⟩ ∧ w.cell? ⟨b, o + j * 2, none⟩ = some (.int .i64 l[j].k) ∧ w.cell? ⟨b, o + j * 2 + 1, none⟩ = some l[j].sl) ∧ ∀ t, t ∈ l → t.In w := by
  rw [Tr.In]
theorem Tr.In_nil (w : World) (k : Int) (a : Option Addr) (c : Nat) : (Tr.mk k a c []).In w :=
  Tr.In_mk.2 ⟨fun j h => absurd h (by simp), fun t h => absurd h (by simp)⟩
theorem Tr.In_two {w : World} {k : Int} {b o c : Nat} {x y : Tr} (c0 : w.cell? ⟨b, o, none⟩ = some (.int .i64 x.k)) (c1 : w.cell? ⟨b, o + 1, none⟩ = some (.slice x.a x.l.length x.c)) (c2 : w.cell? ⟨b, o + 2, none⟩ = some (.int .i64 y.k)) (c3 : w.cell? ⟨b, o + 3, none⟩ = some (.slice y.a y.l.length y.c)) (hx : x.In w) (hy : y.In w) :
    (Tr.mk k (some ⟨b, o, none⟩) c [x, y]).In w := by
  refine Tr.In_mk.2 ⟨fun j h => ?_, fun t h => ?_⟩
  · match j, h with
    | 0, _ => exact ⟨b, o, rfl, by simpa using c0, by simpa [Tr.sl] using c1⟩
    | 1, _ => exact ⟨b, o, rfl, by simpa using c2, by simpa [Tr.sl] using c3⟩
  · rcases List.mem_cons.1 h with rfl | h
    · exact hx
    · rcases List.mem_cons.1 h with rfl | h
      · exact hy
      · cases h
/-- Part j: where it lies, what its two cells hold, and that it lies there whole. -/
theorem Tr.In.part {w : World} {t : Tr} (h : t.In w) (j : Nat) (hj : j < t.l.length) : ∃ b o, t.a = some ⟨b, o, none⟩ ∧ w.cell? ⟨b, o + j * 2, none⟩ = some (.int .i64 t.l[j].k) ∧ w.cell? ⟨b, o + j * 2 + 1, none⟩ = some (.slice t.l[j].a t.l[j].l.length t.l[j].c) ∧ t.l[j].In w := by
  obtain ⟨k, a, c, l⟩ := t
  obtain ⟨hc, hi⟩ := Tr.In_mk.1 h
  obtain ⟨b, o, e, c0, c1⟩ := hc j hj
  exact ⟨b, o, e, c0, c1, hi _ (List.getElem_mem hj)⟩
theorem Tr.In.at {w : World} {k : Int} {a : Option Addr} {c : Nat} {l : List Tr} (h : (Tr.mk k a c l).In w) (j : Nat) (hj : j < l.length) : ∃ b o, a = some ⟨b, o, none⟩ ∧ w.cell? ⟨b, o + j * 2, none⟩ = some (.int .i64 l[j].k) ∧ w.cell? ⟨b, o + j * 2 + 1, none⟩ = some (.slice l[j].a l[j].l.length l[j].c) ∧ l[j].In w :=
  Tr.In.part h j hj
theorem Tr.In.below {w w' : World} (hb : Below w.heap.size w w') {t : Tr} : t.In w → t.In w' := by
  induction t using Tr.ind with
  | h k a c l ih =>
    intro h
    obtain ⟨hc, hi⟩ := Tr.In_mk.1 h
    refine Tr.In_mk.2 ⟨fun j hj => ?_, fun t ht => ih t ht (hi t ht)⟩
    obtain ⟨b, o, e, c0, c1⟩ := hc j hj
    exact ⟨b, o, e, cell_later hb c0, cell_later hb c1⟩
/-- The blocks in which the tree's parts lie are of this kind. -/
def Tr.Bl (P : Nat → Prop) : Tr → Prop
  | ⟨_, a, _, l⟩ => (l ≠ [] → ∀ x, a = some x → P x.block) ∧ ∀ t, t ∈ l → t.Bl P
theorem Tr.Bl_mk {P : Nat → Prop} {k : Int} {a : Option Addr} {c : Nat} {l : List Tr} : (Tr.mk k a c l).Bl P ↔ (l ≠ [] → ∀ x, a = some x → P x.block) ∧ ∀ t, t ∈ l → t.Bl P := by
  rw [Tr.Bl]
theorem Tr.Bl_nil (P : Nat → Prop) (k : Int) (a : Option Addr) (c : Nat) : (Tr.mk k a c []).Bl P :=
  Tr.Bl_mk.2 ⟨fun h => absurd rfl h, fun t h => absurd h (by simp)⟩
theorem Tr.Bl_two {P : Nat → Prop} {k : Int} {b o c : Nat} {x y : Tr} (h : P b) (hx : x.Bl P) (hy : y.Bl P) : (Tr.mk k (some ⟨b, o, none⟩) c [x, y]).Bl P := by
  refine Tr.Bl_mk.2 ⟨fun _ x hx => by cases hx; exact h, fun t ht => ?_⟩
  rcases List.mem_cons.1 ht with rfl | ht
  · exact hx
  · rcases List.mem_cons.1 ht with rfl | ht
    · exact hy
    · cases ht
theorem Tr.Bl.mono {P Q : Nat → Prop} (hPQ : ∀ b, P b → Q b) {t : Tr} : t.Bl P → t.Bl Q := by
  induction t using Tr.ind with
  | h k a c l ih =>
    intro h
    obtain ⟨h1, h2⟩ := Tr.Bl_mk.1 h
    exact Tr.Bl_mk.2 ⟨fun hl x hx => hPQ _ (h1 hl x hx), fun t ht => ih t ht (h2 t ht)⟩
theorem Tr.Bl.and {P Q : Nat → Prop} {t : Tr} : t.Bl P → t.Bl Q → t.Bl (fun b => P b ∧ Q b) := by
  induction t using Tr.ind with
  | h k a c l ih =>
    intro h g
    obtain ⟨h1, h2⟩ := Tr.Bl_mk.1 h
    obtain ⟨g1, g2⟩ := Tr.Bl_mk.1 g
    exact Tr.Bl_mk.2 ⟨fun hl x hx => ⟨h1 hl x hx, g1 hl x hx⟩, fun t ht => ih t ht (h2 t ht) (g2 t ht)⟩
theorem Tr.In.bl {w : World} {t : Tr} : t.In w → t.Bl (· < w.heap.size) := by
  induction t using Tr.ind with
  | h k a c l ih =>
    intro h
    obtain ⟨hc, hi⟩ := Tr.In_mk.1 h
    refine Tr.Bl_mk.2 ⟨fun hl x hx => ?_, fun t ht => ih t ht (hi t ht)⟩
    obtain ⟨b, o, e, c0, _⟩ := hc 0 (List.length_pos_iff.2 hl)
    rw [e] at hx
    have := Option.some.inj hx
    subst this
    exact World.block_lt_of_cell? _ _ c0
/-- What lies in blocks that read as they did lies there still. -/
theorem Tr.In.congr {w w' : World} {P : Nat → Prop} (hP : ∀ b, P b → ∀ o, w'.cell? ⟨b, o, none⟩ = w.cell? ⟨b, o, none⟩) {t : Tr} : t.Bl P → t.In w → t.In w' := by
  induction t using Tr.ind with
  | h k a c l ih =>
    intro hb h
    obtain ⟨hc, hi⟩ := Tr.In_mk.1 h
    obtain ⟨b1, b2⟩ := Tr.Bl_mk.1 hb
    refine Tr.In_mk.2 ⟨fun j hj => ?_, fun t ht => ih t ht (b2 t ht) (hi t ht)⟩
    obtain ⟨b, o, e, c0, c1⟩ := hc j hj
    have hx : P b := b1 (fun e => by rw [e] at hj; simp at hj) _ e
    exact ⟨b, o, e, by rw [hP b hx]; exact c0, by rw [hP b hx]; exact c1⟩
/-- Is it one of the four kinds, of as many good parts as it has, and of at most so many levels? -/
def goodT : Nat → Tr → Bool
  | 0, _ => false
  | n + 1, ⟨k, _, _, l⟩ => match l with
    | [] => k == 0 || k == 1 || k == 2
    | [x, y] => k == 3 && goodT n x && goodT n y
    | _ => false
end Go.Proofs.YtnddkmccagiclaaDoor

/-
  Types without addresses, and the plain mathematics of how they go together: alike, fitting, finer, joined, plain, sure; no program in it.
-/
namespace Go.Proofs.YtnddkmccagiclaaDoor
structure Ty where
  k : Int
  l : List Ty
theorem Ty.ind {P : Ty → Prop} (h : ∀ k l, (∀ t, t ∈ l → P t) → P ⟨k, l⟩) : ∀ t, P t
  | ⟨k, l⟩ => h k l fun t _ => Ty.ind h t
def Tr.ty : Tr → Ty
  | ⟨k, _, _, l⟩ => ⟨k, l.map fun t => t.ty⟩
theorem Tr.ty_mk (k : Int) (a : Option Addr) (c : Nat) (l : List Tr) : (Tr.mk k a c l).ty = ⟨k, l.map Tr.ty⟩ := by
  rw [Tr.ty]
theorem Tr.ty_k (t : Tr) : t.ty.k = t.k := by cases t; rw [Tr.ty_mk]
theorem Tr.ty_l (t : Tr) : t.ty.l = t.l.map Tr.ty := by cases t; rw [Tr.ty_mk]
/-- Good, without addresses. -/
def goodY : Nat → Ty → Bool
  | 0, _ => false
  | n + 1, ⟨k, l⟩ => match l with
    | [] => k == 0 || k == 1 || k == 2
    | [x, y] => k == 3 && goodY n x && goodY n y
    | _ => false
theorem goodT_eq : ∀ (n : Nat) (t : Tr), goodT n t = goodY n t.ty
  | 0, t => by simp [goodT, goodY]
  | n + 1, ⟨k, a, c, l⟩ => by
    match l with
    | [] => simp [goodT, goodY, Tr.ty_mk]
    | [x] => simp [goodT, goodY, Tr.ty_mk]
    | [x, y] => simp [goodT, goodY, Tr.ty_mk, goodT_eq n]
    | x :: y :: z :: r => simp [goodT, goodY, Tr.ty_mk]
/-- Do two lists go together, each with each? -/
def all2 {α β : Type} : (l : List α) → List β → ((x : α) → x ∈ l → β → Bool) → Bool
  | [], [], _ => true
  | x :: r, y :: s, f => f x List.mem_cons_self y && all2 r s (fun z h y => f z (List.mem_cons_of_mem _ h) y)
  | _, _, _ => false
/-- How two types go together: an escape at the top, or one kind and parts that go together. -/
def relY (esc : Int → Int → Bool) : Ty → Ty → Bool
  | ⟨k, l⟩, ⟨k', l'⟩ => esc k k' || (k == k' && all2 l l' fun x _ y => relY esc x y)
def relL (esc : Int → Int → Bool) : List Ty → List Ty → Bool
  | [], [] => true
  | x :: r, y :: s => relY esc x y && relL esc r s
  | _, _ => false
theorem all2_rel (esc : Int → Int → Bool) : ∀ l l' : List Ty, (all2 l l' fun x _ y => relY esc x y) = relL esc l l'
  | [], [] => by simp [all2, relL]
  | x :: r, y :: s => by simp [all2, relL, all2_rel esc r s]
  | [], _ :: _ => by simp [all2, relL]
  | _ :: _, [] => by simp [all2, relL]
theorem relY_mk (esc : Int → Int → Bool) (k k' : Int) (l l' : List Ty) : relY esc ⟨k, l⟩ ⟨k', l'⟩ = (esc k k' || (k == k' && relL esc l l')) := by
  rw [relY, all2_rel]
def escSame : Int → Int → Bool := fun _ _ => false
def escFits : Int → Int → Bool := fun k k' => k == 0 || k' == 0
def escFiner : Int → Int → Bool := fun _ k' => k' == 0
theorem relL_len (esc : Int → Int → Bool) : ∀ (l l' : List Ty), relL esc l l' = true → l.length = l'.length
  | [], [], _ => rfl
  | x :: r, y :: s, h => by
    simp only [relL, Bool.and_eq_true] at h
    simp [relL_len esc r s h.2]
  | [], _ :: _, h => by simp [relL] at h
  | _ :: _, [], h => by simp [relL] at h
theorem relL_all (esc : Int → Int → Bool) : ∀ (l l' : List Ty) (_ : l.length = l'.length), (∀ j (h : j < l.length) (h' : j < l'.length), relY esc l[j] l'[j] = true) → relL esc l l' = true
  | [], [], _, _ => by simp [relL]
  | x :: r, y :: s, hl, h => by
    simp only [relL, Bool.and_eq_true]
    refine ⟨h 0 (by simp) (by simp), relL_all esc r s (by simpa using hl) fun j h1 h2 => ?_⟩
    exact h (j + 1) (by simpa using h1) (by simpa using h2)
theorem relL_not (esc : Int → Int → Bool) : ∀ (l l' : List Ty) (j : Nat) (h : j < l.length) (h' : j < l'.length), relY esc l[j] l'[j] = false → relL esc l l' = false
  | [], _, j, h, _, _ => by simp at h
  | x :: r, [], j, _, h', _ => by simp at h'
  | x :: r, y :: s, 0, _, _, e => by simp only [List.getElem_cons_zero] at e; simp [relL, e]
  | x :: r, y :: s, j + 1, h, h', e => by
    simp only [relL, relL_not esc r s j (by simpa using h) (by simpa using h') (by simpa using e), Bool.and_false]
/-- Two lists, each with each. -/
def zip2 {α β γ : Type} : (l : List α) → List β → ((x : α) → x ∈ l → β → γ) → List γ
  | x :: r, y :: s, f => f x List.mem_cons_self y :: zip2 r s (fun z h y => f z (List.mem_cons_of_mem _ h) y)
  | _, _, _ => []
/-- What two types both say. -/
def joinY : Ty → Ty → Ty
  | ⟨k, l⟩, ⟨k', l'⟩ => if k = k' then ⟨k, zip2 l l' fun x _ y => joinY x y⟩ else ⟨0, []⟩
def joinL : List Ty → List Ty → List Ty
  | x :: r, y :: s => joinY x y :: joinL r s
  | _, _ => []
theorem zip2_join : ∀ l l' : List Ty, (zip2 l l' fun x _ y => joinY x y) = joinL l l'
  | [], [] => by simp [zip2, joinL]
  | x :: r, y :: s => by simp [zip2, joinL, zip2_join r s]
  | [], _ :: _ => by simp [zip2, joinL]
  | _ :: _, [] => by simp [zip2, joinL]
theorem joinY_mk (k k' : Int) (l l' : List Ty) : joinY ⟨k, l⟩ ⟨k', l'⟩ = if k = k' then ⟨k, joinL l l'⟩ else ⟨0, []⟩ := by
  rw [joinY, zip2_join]
/-- One of the four kinds, Fun of two parts that are right, all others of none. -/
def Tr.right : Tr → Prop
  | ⟨k, _, _, l⟩ => (l = [] ∧ (k = 0 ∨ k = 1 ∨ k = 2) ∨ l.length = 2 ∧ k = 3) ∧ ∀ t, t ∈ l → t.right
theorem Tr.right_mk {k : Int} {a : Option Addr} {c : Nat} {l : List Tr} : (Tr.mk k a c l).right ↔ (l = [] ∧ (k = 0 ∨ k = 1 ∨ k = 2) ∨ l.length = 2 ∧ k = 3) ∧ ∀ t, t ∈ l → t.right := by
  rw [Tr.right]
theorem Tr.right_good : ∀ (n : Nat) (t : Tr), goodT n t = true → t.right
  | 0, t, h => by simp [goodT] at h
  | n + 1, ⟨k, a, c, l⟩, h => by
    refine Tr.right_mk.2 ?_
    match l, h with
    | [], h => exact ⟨.inl ⟨rfl, by simpa [goodT, or_assoc] using h⟩, fun t ht => by cases ht⟩
    | [x], h => simp [goodT] at h
    | [x, y], h =>
      simp only [goodT, Bool.and_eq_true] at h
      refine ⟨.inr ⟨rfl, by simpa using h.1.1⟩, fun t ht => ?_⟩
      rcases List.mem_cons.1 ht with rfl | ht
      · exact Tr.right_good n _ h.1.2
      · rcases List.mem_cons.1 ht with rfl | ht
        · exact Tr.right_good n _ h.2
        · cases ht
    | x :: y :: z :: r, h => simp [goodT] at h
theorem Tr.right.cases {t : Tr} (h : t.right) : (t.l = [] ∧ (t.k = 0 ∨ t.k = 1 ∨ t.k = 2)) ∨ (∃ x y, t.l = [x, y] ∧ t.k = 3 ∧ x.right ∧ y.right) := by
  obtain ⟨k, a, c, l⟩ := t
  rcases Tr.right_mk.1 h with ⟨⟨rfl, hk⟩ | ⟨hl, hk⟩, hr⟩
  · exact .inl ⟨rfl, hk⟩
  · match l, hl, hr with
    | [x, y], _, hr => exact .inr ⟨x, y, rfl, hk, hr x (by simp), hr y (by simp)⟩
/-- How many levels. -/
def Tr.hgt : Tr → Nat
  | ⟨_, _, _, l⟩ => (l.map fun t => t.hgt).foldr max 0 + 1
theorem Tr.hgt_mk (k : Int) (a : Option Addr) (c : Nat) (l : List Tr) : (Tr.mk k a c l).hgt = (l.map Tr.hgt).foldr max 0 + 1 := by
  rw [Tr.hgt]
theorem le_maxes : ∀ (l : List Nat) (j : Nat) (h : j < l.length), l[j] ≤ l.foldr max 0
  | [], j, h => by simp at h
  | x :: r, 0, _ => by simp only [List.getElem_cons_zero, List.foldr_cons]; omega
  | x :: r, j + 1, h => by
    have := le_maxes r j (by simpa using h)
    simp only [List.getElem_cons_succ, List.foldr_cons]; omega
/-- No list in it is longer than any memory. -/
def Tr.sm : Tr → Prop
  | ⟨_, _, _, l⟩ => l.length ≤ 140737488355328 ∧ ∀ t, t ∈ l → t.sm
theorem Tr.sm_mk {k : Int} {a : Option Addr} {c : Nat} {l : List Tr} : (Tr.mk k a c l).sm ↔ l.length ≤ 140737488355328 ∧ ∀ t, t ∈ l → t.sm := by
  rw [Tr.sm]
theorem Tr.sm.len {t : Tr} (h : t.sm) : t.l.length ≤ 140737488355328 := by cases t; exact (Tr.sm_mk.1 h).1
theorem Tr.sm.part {t : Tr} (h : t.sm) (j : Nat) (hj : j < t.l.length) : t.l[j].sm := by
  obtain ⟨k, a, c, l⟩ := t
  exact (Tr.sm_mk.1 h).2 _ (List.getElem_mem hj)
theorem Tr.sm_good : ∀ (n : Nat) (t : Tr), goodT n t = true → t.sm
  | 0, t, h => by simp [goodT] at h
  | n + 1, ⟨k, a, c, l⟩, h => by
    refine Tr.sm_mk.2 ?_
    match l, h with
    | [], _ => exact ⟨by simp, fun t ht => by cases ht⟩
    | [x], h => simp [goodT] at h
    | [x, y], h =>
      simp only [goodT, Bool.and_eq_true] at h
      refine ⟨by simp, fun t ht => ?_⟩
      rcases List.mem_cons.1 ht with rfl | ht
      · exact Tr.sm_good n _ h.1.2
      · rcases List.mem_cons.1 ht with rfl | ht
        · exact Tr.sm_good n _ h.2
        · cases ht
    | x :: y :: z :: r, h => simp [goodT] at h
theorem Tr.hgt_part {t : Tr} {n : Nat} (h : t.hgt ≤ n + 1) (j : Nat) (hj : j < t.l.length) : t.l[j].hgt ≤ n := by
  obtain ⟨k, a, c, l⟩ := t
  rw [Tr.hgt_mk] at h
  have h1 := le_maxes (l.map Tr.hgt) j (by simpa using hj)
  rw [List.getElem_map] at h1
  exact Nat.le_trans h1 (by omega)
theorem Tr.hgt_pos (t : Tr) : 1 ≤ t.hgt := by cases t; rw [Tr.hgt_mk]; omega
theorem Tr.hgt_good : ∀ (n : Nat) (t : Tr), goodT n t = true → t.hgt ≤ n
  | 0, t, h => by simp [goodT] at h
  | n + 1, ⟨k, a, c, l⟩, h => by
    rw [Tr.hgt_mk]
    match l, h with
    | [], _ => simp
    | [x], h => simp [goodT] at h
    | [x, y], h =>
      simp only [goodT, Bool.and_eq_true] at h
      have hx := Tr.hgt_good n x h.1.2
      have hy := Tr.hgt_good n y h.2
      simp only [List.map_cons, List.map_nil, List.foldr_cons, List.foldr_nil]; omega
    | x :: y :: z :: r, h => simp [goodT] at h
theorem relY_top (esc : Int → Int → Bool) (x y : Tr) (he : esc x.k y.k = false) (ht : (x.k == y.k && (x.l.length : Int) == (y.l.length : Int)) = false) : relY esc x.ty y.ty = false := by
  obtain ⟨k, a, c, l⟩ := x
  obtain ⟨k', a', c', l'⟩ := y
  dsimp only at he ht
  rw [Tr.ty_mk, Tr.ty_mk, relY_mk, he, Bool.false_or]
  by_cases hk : (k == k') = true
  · rw [hk, Bool.true_and] at ht
    rw [hk, Bool.true_and]
    cases hr : relL esc (l.map Tr.ty) (l'.map Tr.ty) with
    | false => rfl
    | true =>
      have := relL_len esc _ _ hr
      rw [List.length_map, List.length_map] at this
      rw [this] at ht
      simp at ht
  · have : (k == k') = false := by simpa using hk
    rw [this, Bool.false_and]
theorem relY_esc (esc : Int → Int → Bool) (x y : Tr) (he : esc x.k y.k = true) : relY esc x.ty y.ty = true := by
  obtain ⟨k, a, c, l⟩ := x
  obtain ⟨k', a', c', l'⟩ := y
  dsimp only at he
  rw [Tr.ty_mk, Tr.ty_mk, relY_mk, he, Bool.true_or]
theorem relY_part_not (esc : Int → Int → Bool) (x y : Tr) (he : esc x.k y.k = false) (j : Nat) (h : j < x.l.length) (h' : j < y.l.length) (hr : relY esc x.l[j].ty y.l[j].ty = false) : relY esc x.ty y.ty = false := by
  obtain ⟨k, a, c, l⟩ := x
  obtain ⟨k', a', c', l'⟩ := y
  dsimp only at he h h' hr
  rw [Tr.ty_mk, Tr.ty_mk, relY_mk, he, Bool.false_or, relL_not esc (l.map Tr.ty) (l'.map Tr.ty) j (by simpa using h) (by simpa using h') (by simpa using hr), Bool.and_false]
theorem relY_parts (esc : Int → Int → Bool) (x y : Tr) (hk : x.k = y.k) (hl : x.l.length = y.l.length) (hr : ∀ q (h : q < x.l.length) (h' : q < y.l.length), relY esc x.l[q].ty y.l[q].ty = true) : relY esc x.ty y.ty = true := by
  obtain ⟨k, a, c, l⟩ := x
  obtain ⟨k', a', c', l'⟩ := y
  dsimp only at hk hl hr
  subst hk
  rw [Tr.ty_mk, Tr.ty_mk, relY_mk, relL_all esc (l.map Tr.ty) (l'.map Tr.ty) (by simpa using hl) fun j h h' => by simpa using hr j (by simpa using h) (by simpa using h')]
  simp
end Go.Proofs.YtnddkmccagiclaaDoor

/-
  What the calls of kind.To, kind.Ground, kind.Plain and kind.alikeAtTop answer, at whatever trees lie in memory.
-/
namespace Go.Proofs.YtnddkmccagiclaaDoor
open Go.RowKit
set_option maxHeartbeats 400000 in
/-- kind.alikeAtTop. -/
theorem alike_walk (k k' : Int) (a a' : Option Addr) (m m' c c' : Nat) (w : World) :
    Calls Tryd.prog 78 #[.agg #[.int .i64 k, .slice a m c], .agg #[.int .i64 k', .slice a' m' c']] w fun e w' => e = .returned (.bool (k == k' && (m : Int) == (m' : Int))) ∧ Below w.heap.size w w' := by
  by_cases h : (k == k') = true
  · go_enter Tryd.func78, Tryd.ntmps78
    go_wp2_with fail
    go_ret
    exact ⟨by simp [h], ((Below.refl _ _).alloc (Nat.le_refl _) _).alloc (by simp) _⟩
  · have h' : (k == k') = false := by simpa using h
    clear h
    go_enter Tryd.func78, Tryd.ntmps78
    go_wp2_with fail
    go_ret
    exact ⟨by simp [h'], ((Below.refl _ _).alloc (Nat.le_refl _) _).alloc (by simp) _⟩
theorem alike_any (k k' : Int) (a a' : Option Addr) (m m' c c' : Nat) (r : Bool) (hr : (k == k' && (m : Int) == (m' : Int)) = r) (w : World) :
    Calls Tryd.prog 78 #[.agg #[.int .i64 k, .slice a m c], .agg #[.int .i64 k', .slice a' m' c']] w fun e w' => e = .returned (.bool r) ∧ Below w.heap.size w w' := by
  rw [← hr]
  exact alike_walk k k' a a' m m' c c' w
set_option maxHeartbeats 400000 in
/-- kind.To. -/
theorem to_cells (k k' : Int) (a a' : Option Addr) (m m' c c' : Nat) (w : World) :
    Calls Tryd.prog 90 #[.agg #[.int .i64 k, .slice a m c], .agg #[.int .i64 k', .slice a' m' c']] w fun e w' => ∃ g, w.heap.size ≤ g ∧ e = .returned (.agg #[.int .i64 3, .slice (some ⟨g, 0, none⟩) 2 2]) ∧ w'.cell? ⟨g, 0, none⟩ = some (.int .i64 k) ∧ w'.cell? ⟨g, 1, none⟩ = some (.slice a m c) ∧ w'.cell? ⟨g, 2, none⟩ = some (.int .i64 k') ∧ w'.cell? ⟨g, 3, none⟩ = some (.slice a' m' c') ∧ Below w.heap.size w w' := by
  go_enter Tryd.func90, Tryd.ntmps90
  go_wp2_with fail
  refine bodyPost_ret (v := .agg #[.int .i64 3, .slice (some ⟨w.heap.size + 1 + 1 + 1, 0, none⟩) 2 2]) (by simp [results, Tryd.results90, go_sem]) rfl ⟨_, ?_, rfl, by simp [go_sem], by simp [go_sem], by simp [go_sem], by simp [go_sem], ?_⟩
  · omega
  exact ((((Below.refl _ _).alloc (Nat.le_refl _) _).alloc (by simp) _).alloc (by simp; omega) _).alloc (by simp; omega) _
theorem to_any (x y : Tr) (w : World) (hx : x.In w) (hy : y.In w) :
    Calls Tryd.prog 90 #[.agg #[.int .i64 x.k, .slice x.a x.l.length x.c], .agg #[.int .i64 y.k, .slice y.a y.l.length y.c]] w fun e w' => ∃ g, w.heap.size ≤ g ∧ e = .returned (.agg #[.int .i64 3, .slice (some ⟨g, 0, none⟩) 2 2]) ∧ (Tr.mk 3 (some ⟨g, 0, none⟩) 2 [x, y]).In w' ∧ Below w.heap.size w w' := by
  refine (to_cells x.k y.k x.a y.a x.l.length y.l.length x.c y.c w).mono ?_
  rintro e w' ⟨g, hg, rfl, c0, c1, c2, c3, hb⟩
  refine ⟨g, hg, rfl, ?_, hb⟩
  exact Tr.In_two c0 c1 c2 c3 (hx.below hb) (hy.below hb)
/-- A type without parts. -/
def leaf (k : Int) : Tr := .mk k none 0 []
theorem leaf_in (k : Int) (w : World) : (leaf k).In w := Tr.In_nil w k none 0
theorem leaf_bl (k : Int) (P : Nat → Prop) : (leaf k).Bl P := Tr.Bl_nil P k none 0
end Go.Proofs.YtnddkmccagiclaaDoor

/-
  What the calls of (*later).put, (*later).empty and (*later).take do to a list of pairs that lies behind a pointer.
-/
namespace Go.Proofs.YtnddkmccagiclaaDoor
open Go.RowKit
theorem Tryd.info118 : (Tryd.prog.info? 118).map (fun i => (i.zero, i.size, i.bytes)) = some (some (.agg #[.int .i64 0, .slice none 0 0, .int .i64 0, .slice none 0 0, .pointer none]), 5, 72) := by kernel_rfl
/-- But for block r and one row the memory is as it was. -/
structure Kept (r : Nat) (o : Option Nat) (w w' : World) : Prop where
  os : w'.os = w.os
  tape : w'.tape = w.tape
  output : w'.output = w.output
  size : w.heap.size ≤ w'.heap.size
  block : ∀ k, k < w.heap.size → k ≠ r → some k ≠ o → w'.heap[k]? = w.heap[k]?
theorem Kept.below {r : Nat} {o : Option Nat} {w w' : World} (h : Kept r o w w') (ho : ∀ g, o = some g → r ≤ g) (hr : r ≤ w.heap.size) : Below r w w' :=
  ⟨h.os, h.tape, h.output, h.size, fun k hk => h.block k (by omega) (by omega) (fun e => by have := ho k e.symm; omega)⟩
theorem put_end {r : Nat} {v : Value} {n : Nat} {ys : List Value} {w w1 : World} {X : Obj} {g cap : Nat} (hgrow : (((w.alloc X).alloc X).drew).grownBy w1 v.ownBlock) (hown : w1.ownsRow (r + 1) 118 5 (.slice (some ⟨g, 0, none⟩) (n + 1) cap) (n + 1) ys)
    (hat : v.ownBlock = some g ∨ g = w.heap.size + 2) (hcr : w1.cell? ⟨r, 0, none⟩ = some v) (hfr : w1.frozen? ⟨r, 0, none⟩ = false) :
    ∃ g' cap', (w1.setCell ⟨r, 0, none⟩ (.slice (some ⟨g, 0, none⟩) (n + 1) cap)).cell? ⟨r, 0, none⟩ = some (.slice (some ⟨g', 0, none⟩) (n + 1) cap') ∧ (w1.setCell ⟨r, 0, none⟩ (.slice (some ⟨g, 0, none⟩) (n + 1) cap)).frozen? ⟨r, 0, none⟩ = false ∧
      (w1.setCell ⟨r, 0, none⟩ (.slice (some ⟨g, 0, none⟩) (n + 1) cap)).ownsRow (r + 1) 118 5 (.slice (some ⟨g', 0, none⟩) (n + 1) cap') (n + 1) ys ∧ (v.ownBlock = some g' ∨ w.heap.size ≤ g') ∧ Kept r v.ownBlock w (w1.setCell ⟨r, 0, none⟩ (.slice (some ⟨g, 0, none⟩) (n + 1) cap)) := by
  have hb : Below w.heap.size w ((w.alloc X).alloc X).drew := (((Below.refl _ _).alloc (Nat.le_refl _) _).alloc (by simp) _).drew
  refine ⟨g, cap, World.cell?_setCell_same _ _ _ hcr, by simpa using hfr, ownsRow_setCell_below hown (by simp) _, ?_, ?_⟩
  · rcases hat with h | h
    · exact .inl h
    · exact .inr (by omega)
  · have hs := hgrow.size
    have hsz : ((w.alloc X).alloc X).drew.heap.size = w.heap.size + 1 + 1 := by simp
    refine ⟨hgrow.os.trans hb.os, hgrow.tape.trans hb.tape, hgrow.output.trans hb.output, ?_, fun k hk h1 h2 => ?_⟩
    · rw [show (w1.setCell ⟨r, 0, none⟩ (.slice (some ⟨g, 0, none⟩) (n + 1) cap)).heap.size = w1.heap.size from by simp [World.setCell]]
      omega
    · rw [Below.heap_setCell _ _ _ _ h1, hgrow.block k (by omega) h2, hb.block k hk]
set_option maxHeartbeats 400000 in
theorem empty_any (r : Nat) (a : Option Addr) (n c : Nat) (w : World) (hv : w.cell? ⟨r, 0, none⟩ = some (.slice a n c)) :
    Calls Tryd.prog 76 #[.pointer (some ⟨r, 0, none⟩)] w fun e w' => e = .returned (.bool ((n : Int) == 0)) ∧ w' = w := by
  go_enter Tryd.func76, Tryd.ntmps76
  go_wp2_with fail
  go_ret
  exact ⟨rfl, rfl⟩
set_option maxHeartbeats 400000 in
theorem take_any (r g : Nat) (n c : Nat) (k k' : Int) (a a' : Option Addr) (m m' d d' : Nat) (p : Option Addr) (w : World) (hv : w.cell? ⟨r, 0, none⟩ = some (.slice (some ⟨g, 0, none⟩) (n + 1) c)) (hf : w.frozen? ⟨r, 0, none⟩ = false) (hc : n + 1 ≤ c) (hn : n ≤ 140737488355328)
    (h0 : w.cell? ⟨g, n * 5, none⟩ = some (.int .i64 k)) (h1 : w.cell? ⟨g, n * 5 + 1, none⟩ = some (.slice a m d)) (h2 : w.cell? ⟨g, n * 5 + 2, none⟩ = some (.int .i64 k')) (h3 : w.cell? ⟨g, n * 5 + 3, none⟩ = some (.slice a' m' d')) (h4 : w.cell? ⟨g, n * 5 + 4, none⟩ = some (.pointer p)) :
    Calls Tryd.prog 77 #[.pointer (some ⟨r, 0, none⟩)] w fun e w' => e = .returned (.agg #[.int .i64 k, .slice a m d, .int .i64 k', .slice a' m' d', .pointer p]) ∧
      w' = ((w.setCell ⟨r, 0, none⟩ (.slice (some ⟨g, 0, none⟩) n c)).alloc (.cells #[.int .i64 k, .slice a m d, .int .i64 k', .slice a' m' d', .pointer p] 118)).alloc (.cells #[.int .i64 k, .slice a m d, .int .i64 k', .slice a' m' d', .pointer p] 118) := by
  have lr : r < w.heap.size := World.block_lt_of_cell? _ _ hv
  have lg : g < w.heap.size := World.block_lt_of_cell? _ _ h0
  go_enter Tryd.func77, Tryd.ntmps77
  go_wp2_with fail
  exact bodyPost_ret (v := .agg #[.int .i64 k, .slice a m d, .int .i64 k', .slice a' m' d', .pointer p]) (by simp [results, Tryd.results77, go_sem]) rfl ⟨rfl, rfl⟩
set_option maxHeartbeats 1000000 in
theorem put_any (r : Nat) (v : Value) (n : Nat) (xs : List Value) (k k' : Int) (a a' : Option Addr) (m m' d d' : Nat) (p : Option Addr) (w : World) (hv : w.cell? ⟨r, 0, none⟩ = some v) (hf : w.frozen? ⟨r, 0, none⟩ = false) (hown : w.ownsRow (r + 1) 118 5 v n xs) (hn : n + 1 ≤ 1000000000) :
    Calls Tryd.prog 75 #[.pointer (some ⟨r, 0, none⟩), .agg #[.int .i64 k, .slice a m d, .int .i64 k', .slice a' m' d', .pointer p]] w fun e w' => e = .returned (.tuple #[]) ∧
      ∃ g cap, w'.cell? ⟨r, 0, none⟩ = some (.slice (some ⟨g, 0, none⟩) (n + 1) cap) ∧ w'.frozen? ⟨r, 0, none⟩ = false ∧ w'.ownsRow (r + 1) 118 5 (.slice (some ⟨g, 0, none⟩) (n + 1) cap) (n + 1) (xs ++ [.int .i64 k, .slice a m d, .int .i64 k', .slice a' m' d', .pointer p]) ∧ (v.ownBlock = some g ∨ w.heap.size ≤ g) ∧ Kept r v.ownBlock w w' := by
  have lr : r < w.heap.size := World.block_lt_of_cell? _ _ hv
  obtain ⟨i0, hi0, hz0, hz1, hz2⟩ := info_parts Tryd.info118
  have hnr : v.ownBlock ≠ some r := by
    rcases hown.2 with ⟨rfl, _⟩ | ⟨g, cap, cur, rfl, hg, _⟩
    · simp [Value.ownBlock]
    · simp only [Value.ownBlock, ne_eq, Option.some.injEq]; omega
  have hnw : v.ownBlock ≠ some w.heap.size := by
    rcases hown.2 with ⟨rfl, _⟩ | ⟨g, cap, cur, rfl, hg, hb, _⟩
    · simp [Value.ownBlock]
    · have : g < w.heap.size := by
        rcases Nat.lt_or_ge g w.heap.size with hlt | hge
        · exact hlt
        · rw [Array.getElem?_eq_none hge] at hb; cases hb
      simp only [Value.ownBlock, ne_eq, Option.some.injEq]; omega
  have hfz2 : ((w.alloc (.cells #[.int .i64 k, .slice a m d, .int .i64 k', .slice a' m' d', .pointer p] 118)).alloc (.cells #[.int .i64 k, .slice a m d, .int .i64 k', .slice a' m' d', .pointer p] 118)).drew.frozen? ⟨r, 0, none⟩ = false := by
    have hb : Below w.heap.size w ((w.alloc (.cells #[.int .i64 k, .slice a m d, .int .i64 k', .slice a' m' d', .pointer p] 118)).alloc (.cells #[.int .i64 k, .slice a m d, .int .i64 k', .slice a' m' d', .pointer p] 118)).drew := (((Below.refl _ _).alloc (Nat.le_refl _) _).alloc (by simp) _).drew
    rw [hb.frozen (p := ⟨r, 0, none⟩) lr]; exact hf
  have hvz2 : ((w.alloc (.cells #[.int .i64 k, .slice a m d, .int .i64 k', .slice a' m' d', .pointer p] 118)).alloc (.cells #[.int .i64 k, .slice a m d, .int .i64 k', .slice a' m' d', .pointer p] 118)).drew.cell? ⟨r, 0, none⟩ = some v := by
    have hb : Below w.heap.size w ((w.alloc (.cells #[.int .i64 k, .slice a m d, .int .i64 k', .slice a' m' d', .pointer p] 118)).alloc (.cells #[.int .i64 k, .slice a m d, .int .i64 k', .slice a' m' d', .pointer p] 118)).drew := (((Below.refl _ _).alloc (Nat.le_refl _) _).alloc (by simp) _).drew
    exact cell_later hb hv
  have hblk : ((w.alloc (.cells #[.int .i64 k, .slice a m d, .int .i64 k', .slice a' m' d', .pointer p] 118)).alloc (.cells #[.int .i64 k, .slice a m d, .int .i64 k', .slice a' m' d', .pointer p] 118)).drew.heap[w.heap.size + 1]? = some (.cells #[.int .i64 k, .slice a m d, .int .i64 k', .slice a' m' d', .pointer p] 118) := by
    have h := heap_alloc_new (w.alloc (.cells #[.int .i64 k, .slice a m d, .int .i64 k', .slice a' m' d', .pointer p] 118)) (.cells #[.int .i64 k, .slice a m d, .int .i64 k', .slice a' m' d', .pointer p] 118)
    rw [World.size_alloc] at h
    exact h
  go_enter Tryd.func75, Tryd.ntmps75
  go_wp2_with fail
  go_region_law
    ((refine step_append_lies _ (by rfl) _ _ _ (by rfl) (r + 1) 118 i0 _ 5 72 Tryd.underlying112 hi0 hz0 hz1 hz2 rfl (by omega) v n xs (by rfl) (((hown.alloc _).alloc _).drew)
        ⟨w.heap.size + 1, 0, none⟩ 1 1 [.int .i64 k, .slice a m d, .int .i64 k', .slice a' m' d', .pointer p] (by rfl) (by rfl) (World.news_of_block (cs := #[.int .i64 k, .slice a m d, .int .i64 k', .slice a' m' d', .pointer p]) (t := 118) (fr := (0, 0)) hblk) (by simp [Value.oneCell'])
        (by omega) (by unfold maxLen; omega) (by omega) (by simp; omega) (w.heap.size + 2) (by simp) ?_; intro gg cap w1 hown1 hgrow hat hlt; have hfr : w1.frozen? ⟨r, 0, none⟩ = false := (by rw [hgrow.frozen_far _ (by simp; omega) (Ne.symm hnr)]; exact hfz2); have hcr : w1.cell? ⟨r, 0, none⟩ = some v := (by rw [hgrow.cell_far _ (by simp; omega) (Ne.symm hnr)]; exact hvz2)))
  all_goals
    go_end0
    exact ⟨rfl, put_end hgrow hown1 hat hcr hfr⟩
end Go.Proofs.YtnddkmccagiclaaDoor

/-
  What the calls of kind.join and kind.Join do at two right trees of which the first has no more levels than there is room for.
-/
namespace Go.Proofs.YtnddkmccagiclaaDoor
open Go.RowKit
/-- But for two cells of one block the memory that was there is as it was. -/
structure Wrote (ib io : Nat) (w w' : World) : Prop where
  os : w'.os = w.os
  tape : w'.tape = w.tape
  output : w'.output = w.output
  size : w.heap.size ≤ w'.heap.size
  block : ∀ k, k < w.heap.size → k ≠ ib → w'.heap[k]? = w.heap[k]?
  cell : ∀ o, o ≠ io → o ≠ io + 1 → w'.cell? ⟨ib, o, none⟩ = w.cell? ⟨ib, o, none⟩
  frozen : ∀ o, w'.frozen? ⟨ib, o, none⟩ = w.frozen? ⟨ib, o, none⟩
theorem Wrote.alloc {ib io : Nat} {w w' : World} (h : Wrote ib io w w') (hi : ib < w.heap.size) (o : Obj) : Wrote ib io w (w'.alloc o) :=
  have hs := h.size
  have hb : Below w'.heap.size w' (w'.alloc o) := (Below.refl _ _).alloc (Nat.le_refl _) o
  ⟨h.os, h.tape, h.output, by rw [World.size_alloc]; omega, fun k hk hne => (hb.block k (by omega)).trans (h.block k hk hne), fun q h0 h1 => (hb.cell (p := ⟨ib, q, none⟩) (by simp; omega)).trans (h.cell q h0 h1), fun q => (hb.frozen (p := ⟨ib, q, none⟩) (by simp; omega)).trans (h.frozen q)⟩
theorem Wrote.of_below {ib io : Nat} {w w' : World} (h : Below w.heap.size w w') (hi : ib < w.heap.size) : Wrote ib io w w' :=
  ⟨h.os, h.tape, h.output, h.size, fun k hk _ => h.block k hk, fun q _ _ => h.cell (p := ⟨ib, q, none⟩) hi, fun q => h.frozen (p := ⟨ib, q, none⟩) hi⟩
theorem Wrote.set {ib io : Nat} {w w' : World} (h : Wrote ib io w w') (u v : Value) : Wrote ib io w ((w'.setCell ⟨ib, io, none⟩ u).setCell ⟨ib, io + 1, none⟩ v) := by
  refine ⟨h.os, h.tape, h.output, ?_, fun k hk hne => ?_, fun q h0 h1 => ?_, fun q => ?_⟩
  · have hs := h.size
    simp only [World.setCell, Array.size_modify]; exact hs
  · rw [Below.heap_setCell _ _ _ _ hne, Below.heap_setCell _ _ _ _ hne]; exact h.block k hk hne
  · rw [World.cell?_setCell_other, World.cell?_setCell_other]
    · exact h.cell q h0 h1
    · intro e; simp only [Addr.mk.injEq] at e; omega
    · intro e; simp only [Addr.mk.injEq] at e; omega
  · rw [World.frozen?_setCell, World.frozen?_setCell]; exact h.frozen q
theorem set_cells {ib io : Nat} {w : World} {u v u' v' : Value} (h0 : w.cell? ⟨ib, io, none⟩ = some u') (h1 : w.cell? ⟨ib, io + 1, none⟩ = some v') :
    ((w.setCell ⟨ib, io, none⟩ u).setCell ⟨ib, io + 1, none⟩ v).cell? ⟨ib, io, none⟩ = some u ∧ ((w.setCell ⟨ib, io, none⟩ u).setCell ⟨ib, io + 1, none⟩ v).cell? ⟨ib, io + 1, none⟩ = some v := by
  have hne : (⟨ib, io + 1, none⟩ : Addr) ≠ ⟨ib, io, none⟩ := by intro e; simp only [Addr.mk.injEq] at e; omega
  constructor
  · rw [World.cell?_setCell_other _ _ _ _ hne]; exact World.cell?_setCell_same _ _ _ h0
  · refine World.cell?_setCell_same _ _ _ (u := v') ?_
    rw [World.cell?_setCell_other _ _ _ _ (Ne.symm hne)]; exact h1
/-- What the call of join leaves: what both say, in new memory, but for the two cells that it was to be written into. -/
def Joined (x y : Tr) (ib io : Nat) (w w' : World) : Prop :=
  ∃ t : Tr, t.ty = joinY x.ty y.ty ∧ t.In w' ∧ t.Bl (w.heap.size ≤ ·) ∧ w'.cell? ⟨ib, io, none⟩ = some (.int .i64 t.k) ∧ w'.cell? ⟨ib, io + 1, none⟩ = some (.slice t.a t.l.length t.c) ∧ Wrote ib io w w'
/-- The two parts while they are made. -/
def JI (W1 : World) (P : Nat) (x0 x1 y0 y1 : Tr) (j : Nat) (wr : World) : Prop :=
  Below P W1 wr ∧ (∀ o, wr.frozen? ⟨P, o, none⟩ = false) ∧ ∃ s0 s1 : Tr, s0.In wr ∧ s1.In wr ∧ s0.Bl (P < ·) ∧ s1.Bl (P < ·) ∧
    wr.cell? ⟨P, 0, none⟩ = some (.int .i64 s0.k) ∧ wr.cell? ⟨P, 1, none⟩ = some (.slice s0.a s0.l.length s0.c) ∧ wr.cell? ⟨P, 2, none⟩ = some (.int .i64 s1.k) ∧ wr.cell? ⟨P, 3, none⟩ = some (.slice s1.a s1.l.length s1.c) ∧
    (0 < j → s0.ty = joinY x0.ty y0.ty) ∧ (1 < j → s1.ty = joinY x1.ty y1.ty) ∧ (j ≤ 0 → s0 = leaf 0) ∧ (j ≤ 1 → s1 = leaf 0)
theorem Wrote.under {ib io : Nat} {w w' : World} (h : Wrote ib io w w') (hi : ib ≤ w.heap.size) : Below ib w w' :=
  ⟨h.os, h.tape, h.output, h.size, fun k hk => h.block k (by omega) (by omega)⟩
theorem Joined.under {x y : Tr} {P io : Nat} {w w' : World} (h : Joined x y P io w.drew w') (hP : P ≤ w.heap.size) : Below P w w' := by
  obtain ⟨_, _, _, _, _, _, hw⟩ := h
  exact ((Below.refl _ _).drew).trans (hw.under hP)
/-- What lies in other blocks stays. -/
theorem Wrote.keeps {ib io : Nat} {w w' : World} (h : Wrote ib io w w') {t : Tr} (hin : t.In w) (hne : t.Bl (· ≠ ib)) : t.In w' := by
  refine hin.congr (P := fun b => b < w.heap.size ∧ b ≠ ib) ?_ (hin.bl.and hne)
  rintro b ⟨hb, hn⟩ o
  exact World.cell?_of_block (a := ⟨b, o, none⟩) (h.block b hb hn)
theorem JI.start {W1 : World} {x0 x1 y0 y1 : Tr} : JI W1 W1.heap.size x0 x1 y0 y1 0 (W1.alloc (.cells #[.int .i64 0, .slice none 0 0, .int .i64 0, .slice none 0 0] 24)) := by
  refine ⟨(Below.refl _ _).alloc (Nat.le_refl _) _, fun o => by simp [go_sem], leaf 0, leaf 0, leaf_in _ _, leaf_in _ _, leaf_bl _ _, leaf_bl _ _, by simp [go_sem, leaf], by simp [go_sem, leaf], by simp [go_sem, leaf], by simp [go_sem, leaf], fun h => absurd h (by omega), fun h => absurd h (by omega), fun _ => rfl, fun _ => rfl⟩
theorem JI.step0 {W1 wr w2 : World} {P : Nat} {x0 x1 y0 y1 : Tr} (h : JI W1 P x0 x1 y0 y1 0 wr) (hj : Joined x0 y0 P 0 wr.drew w2) : JI W1 P x0 x1 y0 y1 1 w2 := by
  obtain ⟨hb, hf, s0, s1, i0, i1, b0, b1, c0, c1, c2, c3, t0, t1, z0, z1⟩ := h
  obtain ⟨t, ht, hin, hbl, d0, d1, hw⟩ := hj
  have hP : P < wr.heap.size := World.block_lt_of_cell? _ _ c0
  refine ⟨hb.drew.trans (hw.under (Nat.le_of_lt hP)), fun o => (hw.frozen o).trans (hf o), t, s1, hin, hw.keeps (w := wr.drew) (i1.below ((Below.refl _ _).drew)) (b1.mono fun b hb => by omega), hbl.mono (fun b hb => Nat.lt_of_lt_of_le hP hb), b1, d0, d1, (hw.cell 2 (by omega) (by omega)).trans c2, (hw.cell 3 (by omega) (by omega)).trans c3, fun _ => ht, fun h => absurd h (by omega), fun h => absurd h (by omega), fun _ => z1 (by omega)⟩
theorem JI.step1 {W1 wr w2 : World} {P : Nat} {x0 x1 y0 y1 : Tr} (h : JI W1 P x0 x1 y0 y1 1 wr) (hj : Joined x1 y1 P 2 wr.drew w2) : JI W1 P x0 x1 y0 y1 2 w2 := by
  obtain ⟨hb, hf, s0, s1, i0, i1, b0, b1, c0, c1, c2, c3, t0, t1, z0, z1⟩ := h
  obtain ⟨t, ht, hin, hbl, d0, d1, hw⟩ := hj
  have hP : P < wr.heap.size := World.block_lt_of_cell? _ _ c0
  refine ⟨hb.drew.trans (hw.under (Nat.le_of_lt hP)), fun o => (hw.frozen o).trans (hf o), s0, t, hw.keeps (w := wr.drew) (i0.below ((Below.refl _ _).drew)) (b0.mono fun b hb => by omega), hin, b0, hbl.mono (fun b hb => Nat.lt_of_lt_of_le hP hb), (hw.cell 0 (by omega) (by omega)).trans c0, (hw.cell 1 (by omega) (by omega)).trans c1, d0, d1, fun _ => t0 (by omega), fun _ => ht, fun h => absurd h (by omega), fun h => absurd h (by omega)⟩
theorem Tryd.info24 : (Tryd.prog.info? 24).map (fun i => (i.zero, i.size, i.bytes)) = some (some (.agg #[.int .i64 0, .slice none 0 0]), 2, 32) := by kernel_rfl
theorem make0 (w : World) : (Instr.makeSlice 22 (.int .i64 0) (.int .i64 0)).run Tryd.prog w = .ok (.slice (some ⟨w.heap.size, 0, none⟩) 0 0) (w.alloc (.cells #[] 24)) := by
  obtain ⟨i0, hi0, hz0, hz1, hz2⟩ := info_parts Tryd.info24
  have h := run_make (P := Tryd.prog) w 22 24 i0 _ Tryd.underlying22 hi0 hz0 .i64 .i64 0 0 (by omega) (by omega) (by omega) (by omega)
  rw [h, hz1]
  have e : madeCells (Value.agg #[.int .i64 0, .slice none 0 0]).cells (Int.toNat 0 * 2) = #[] := by
    apply Array.ext'
    simp [madeCells, Array.range_zero']
  rw [e]
  rfl
theorem make2 (w : World) : (Instr.makeSlice 22 (.int .i64 2) (.int .i64 2)).run Tryd.prog w = .ok (.slice (some ⟨w.heap.size, 0, none⟩) 2 2) (w.alloc (.cells #[.int .i64 0, .slice none 0 0, .int .i64 0, .slice none 0 0] 24)) := by
  obtain ⟨i0, hi0, hz0, hz1, hz2⟩ := info_parts Tryd.info24
  have h := run_make (P := Tryd.prog) w 22 24 i0 _ Tryd.underlying22 hi0 hz0 .i64 .i64 2 2 (by omega) (by omega) (by rw [hz2]; omega) (by omega)
  rw [h, hz1]
  have e : madeCells (Value.agg #[.int .i64 0, .slice none 0 0]).cells (Int.toNat 2 * 2) = #[.int .i64 0, .slice none 0 0, .int .i64 0, .slice none 0 0] := by
    apply Array.ext'
    simp [madeCells, Value.cells, List.range_succ]
  rw [e]
  rfl
set_option maxHeartbeats 400000 in
theorem join_diff (n : Nat) (hn : n ≤ 1000) (k k' : Int) (hk : (k != k') = true) (a a' p rp : Option Addr) (m m' c c' : Nat) (w : World) :
    Calls Tryd.prog 93 #[.agg #[.int .i64 k, .slice a m c, .int .i64 k', .slice a' m' c', .pointer p], .int .i64 ((n : Int) + 1), .pointer rp] w fun e w' => e = .returned (.tuple #[]) ∧ w' = w.alloc (.cells #[.int .i64 k, .slice a m c, .int .i64 k', .slice a' m' c', .pointer p] 118) := by
  have hz : (((n : Int) + 1) == 0) = false := by simp; omega
  go_enter Tryd.func93, Tryd.ntmps93
  go_wp2_with fail
  exact bodyPost_ret (v := .tuple #[]) (by simp [results, Tryd.results93, go_sem]) rfl ⟨rfl, rfl⟩
set_option maxHeartbeats 400000 in
theorem join_leaf (n : Nat) (hn : n ≤ 1000) (k : Int) (a a' rp : Option Addr) (c c' ib io : Nat) (w : World) (z0 : w.cell? ⟨ib, io, none⟩ = some (.int .i64 0)) (z1 : w.cell? ⟨ib, io + 1, none⟩ = some (.slice none 0 0)) (f0 : w.frozen? ⟨ib, io, none⟩ = false) (f1 : w.frozen? ⟨ib, io + 1, none⟩ = false) :
    Calls Tryd.prog 93 #[.agg #[.int .i64 k, .slice a 0 c, .int .i64 k, .slice a' 0 c', .pointer (some ⟨ib, io, none⟩)], .int .i64 ((n : Int) + 1), .pointer rp] w fun e w' => e = .returned (.tuple #[]) ∧ ∃ g, w'.cell? ⟨ib, io, none⟩ = some (.int .i64 k) ∧ w'.cell? ⟨ib, io + 1, none⟩ = some (.slice (some ⟨g, 0, none⟩) 0 0) ∧ Wrote ib io w w' := by
  have hz : (((n : Int) + 1) == 0) = false := by simp; omega
  have lb : ib < w.heap.size := World.block_lt_of_cell? _ _ z0
  have hmk := make0
  go_enter Tryd.func93, Tryd.ntmps93
  go_wp2_with fail
  go_loopw [32] (fun i wr => i = .int .i64 0 ∧ wr = (w.alloc (.cells #[.int .i64 k, .slice a 0 c, .int .i64 k, .slice a' 0 c', .pointer (some ⟨ib, io, none⟩)] 118)).alloc (.cells #[] 24)) (fun _ _ => 0)
  case atStart => exact ⟨rfl, rfl⟩
  case round =>
    obtain ⟨rfl, rfl⟩ := hrel
    go_wp2_with fail
    go_end0
    refine ⟨rfl, w.heap.size + 1, ?_, ?_, ((Wrote.of_below (Below.refl _ _) lb).set _ _).alloc lb _ |>.alloc lb _⟩
    · refine cell_later (((Below.refl _ _).alloc (Nat.le_refl _) _).alloc (by simp) _) (set_cells z0 z1).1
    · refine cell_later (((Below.refl _ _).alloc (Nat.le_refl _) _).alloc (by simp) _) (set_cells z0 z1).2
set_option maxHeartbeats 1000000 in
theorem join_fun (n : Nat) (hn : n ≤ 1000) (rp : Option Addr) (bx ox by' oy c c' ib io : Nat) (x0 x1 y0 y1 : Tr) (w : World) (z0 : w.cell? ⟨ib, io, none⟩ = some (.int .i64 0)) (z1 : w.cell? ⟨ib, io + 1, none⟩ = some (.slice none 0 0)) (f0 : w.frozen? ⟨ib, io, none⟩ = false) (f1 : w.frozen? ⟨ib, io + 1, none⟩ = false)
    (cx0 : w.cell? ⟨bx, ox, none⟩ = some (.int .i64 x0.k)) (cx1 : w.cell? ⟨bx, ox + 1, none⟩ = some (.slice x0.a x0.l.length x0.c)) (cx2 : w.cell? ⟨bx, ox + 2, none⟩ = some (.int .i64 x1.k)) (cx3 : w.cell? ⟨bx, ox + 3, none⟩ = some (.slice x1.a x1.l.length x1.c))
    (cy0 : w.cell? ⟨by', oy, none⟩ = some (.int .i64 y0.k)) (cy1 : w.cell? ⟨by', oy + 1, none⟩ = some (.slice y0.a y0.l.length y0.c)) (cy2 : w.cell? ⟨by', oy + 2, none⟩ = some (.int .i64 y1.k)) (cy3 : w.cell? ⟨by', oy + 3, none⟩ = some (.slice y1.a y1.l.length y1.c))
    (H0 : Hid (∀ (P : Nat) (W : World), w.heap.size ≤ P → Below w.heap.size w W → W.cell? ⟨P, 0, none⟩ = some (.int .i64 0) → W.cell? ⟨P, 0 + 1, none⟩ = some (.slice none 0 0) → (∀ o, W.frozen? ⟨P, o, none⟩ = false) → Calls Tryd.prog 93 #[.agg #[.int .i64 x0.k, .slice x0.a x0.l.length x0.c, .int .i64 y0.k, .slice y0.a y0.l.length y0.c, .pointer (some ⟨P, 0, none⟩)], .int .i64 (n : Int), .pointer rp] W fun e w' => e = .returned (.tuple #[]) ∧ Joined x0 y0 P 0 W w'))
    (H1 : Hid (∀ (P : Nat) (W : World), w.heap.size ≤ P → Below w.heap.size w W → W.cell? ⟨P, 2, none⟩ = some (.int .i64 0) → W.cell? ⟨P, 2 + 1, none⟩ = some (.slice none 0 0) → (∀ o, W.frozen? ⟨P, o, none⟩ = false) → Calls Tryd.prog 93 #[.agg #[.int .i64 x1.k, .slice x1.a x1.l.length x1.c, .int .i64 y1.k, .slice y1.a y1.l.length y1.c, .pointer (some ⟨P, 2, none⟩)], .int .i64 (n : Int), .pointer rp] W fun e w' => e = .returned (.tuple #[]) ∧ Joined x1 y1 P 2 W w')) :
    Calls Tryd.prog 93 #[.agg #[.int .i64 3, .slice (some ⟨bx, ox, none⟩) 2 c, .int .i64 3, .slice (some ⟨by', oy, none⟩) 2 c', .pointer (some ⟨ib, io, none⟩)], .int .i64 ((n : Int) + 1), .pointer rp] w fun e w' => e = .returned (.tuple #[]) ∧ ∃ W1 wr P, w.heap.size ≤ P ∧ Below w.heap.size w wr ∧ JI W1 P x0 x1 y0 y1 2 wr ∧ w' = (wr.setCell ⟨ib, io, none⟩ (.int .i64 3)).setCell ⟨ib, io + 1, none⟩ (.slice (some ⟨P, 0, none⟩) 2 2) := by
  have hz : (((n : Int) + 1) == 0) = false := by simp; omega
  have lb : ib < w.heap.size := World.block_lt_of_cell? _ _ z0
  have lbx : bx < w.heap.size := World.block_lt_of_cell? _ _ cx0
  have lby : by' < w.heap.size := World.block_lt_of_cell? _ _ cy0
  have hmk := make2
  have hwr : IntKind.i64.wrap (n : Int) = (n : Int) := by rw [IntKind.wrap_i64]; omega
  go_enter Tryd.func93, Tryd.ntmps93
  go_wp2_with fail
  go_loopg [32] 2 (fun k i wr => ∃ j : Nat, k + j = 2 ∧ i = .int .i64 (j : Int) ∧ JI (w.alloc (.cells #[.int .i64 3, .slice (some ⟨bx, ox, none⟩) 2 c, .int .i64 3, .slice (some ⟨by', oy, none⟩) 2 c', .pointer (some ⟨ib, io, none⟩)] 118)) (w.heap.size + 1) x0 x1 y0 y1 j wr)
  case atStart => exact ⟨0, rfl, rfl, by simpa using JI.start (W1 := w.alloc (.cells #[.int .i64 3, .slice (some ⟨bx, ox, none⟩) 2 c, .int .i64 3, .slice (some ⟨by', oy, none⟩) 2 c', .pointer (some ⟨ib, io, none⟩)] 118)) (x0 := x0) (x1 := x1) (y0 := y0) (y1 := y1)⟩
  case round =>
    obtain ⟨j, hj, rfl, hji⟩ := hrel
    have HJ : Hid (JI (w.alloc (.cells #[.int .i64 3, .slice (some ⟨bx, ox, none⟩) 2 c, .int .i64 3, .slice (some ⟨by', oy, none⟩) 2 c', .pointer (some ⟨ib, io, none⟩)] 118)) (w.heap.size + 1) x0 x1 y0 y1 j wr) := hji
    obtain ⟨hb, hf, s0, s1, i0, i1, b0, b1, d0, d1, d2, d3, t0, t1, e0, e1⟩ := hji
    have hbw : Below w.heap.size w wr := ((Below.refl _ _).alloc (Nat.le_refl _) _).trans (hb.mono (by omega))
    have q1 : wr.cell? ⟨w.heap.size, 1, none⟩ = some (.slice (some ⟨bx, ox, none⟩) 2 c) := by rw [hb.cell (p := ⟨w.heap.size, 1, none⟩) (by simp)]; simp [go_sem]
    have q3 : wr.cell? ⟨w.heap.size, 3, none⟩ = some (.slice (some ⟨by', oy, none⟩) 2 c') := by rw [hb.cell (p := ⟨w.heap.size, 3, none⟩) (by simp)]; simp [go_sem]
    have q4 : wr.cell? ⟨w.heap.size, 4, none⟩ = some (.pointer (some ⟨ib, io, none⟩)) := by rw [hb.cell (p := ⟨w.heap.size, 4, none⟩) (by simp)]; simp [go_sem]
    have q0 : wr.cell? ⟨w.heap.size, 0, none⟩ = some (.int .i64 3) := by rw [hb.cell (p := ⟨w.heap.size, 0, none⟩) (by simp)]; simp [go_sem]
    replace cx0 := cell_later hbw cx0
    replace cx1 := cell_later hbw cx1
    replace cx2 := cell_later hbw cx2
    replace cx3 := cell_later hbw cx3
    replace cy0 := cell_later hbw cy0
    replace cy1 := cell_later hbw cy1
    replace cy2 := cell_later hbw cy2
    replace cy3 := cell_later hbw cy3
    have hP : w.heap.size + 1 ≤ wr.heap.size := Nat.le_of_lt (World.block_lt_of_cell? _ _ d0)
    obtain rfl | rfl | rfl : j = 0 ∨ j = 1 ∨ j = 2 := by omega
    · obtain rfl := e0 (by omega)
      have HG : Hid ((wr.drew.cell? ⟨w.heap.size + 1, 0, none⟩ = some (.int .i64 0)) ∧ (wr.drew.cell? ⟨w.heap.size + 1, 0 + 1, none⟩ = some (.slice none 0 0)) ∧ ∀ o, wr.drew.frozen? ⟨w.heap.size + 1, o, none⟩ = false) := ⟨d0, d1, hf⟩
      clear hf i0 i1 b0 b1 d0 d1 d2 d3 t0 t1 e0 e1 z0 z1 f0 f1 q0 q4
      go_wp2_with fail
      go_region_held3 (fun w' => w'.cell? ⟨w.heap.size, 1, none⟩ = some (.slice (some ⟨bx, ox, none⟩) 2 c) ∧ w'.cell? ⟨w.heap.size, 3, none⟩ = some (.slice (some ⟨by', oy, none⟩) 2 c') ∧ w'.cell? ⟨bx, ox, none⟩ = some (.int .i64 x0.k) ∧ w'.cell? ⟨bx, ox + 1, none⟩ = some (.slice x0.a x0.l.length x0.c) ∧ w'.cell? ⟨by', oy, none⟩ = some (.int .i64 y0.k) ∧ w'.cell? ⟨by', oy + 1, none⟩ = some (.slice y0.a y0.l.length y0.c))
        (first
          | exact ⟨(hu.cell (p := ⟨w.heap.size, 1, none⟩) (by simp)).trans q1, (hu.cell (p := ⟨w.heap.size, 3, none⟩) (by simp)).trans q3, (hu.cell (p := ⟨bx, _, none⟩) (Nat.lt_succ_of_lt lbx)).trans cx0, (hu.cell (p := ⟨bx, _, none⟩) (Nat.lt_succ_of_lt lbx)).trans cx1, (hu.cell (p := ⟨by', _, none⟩) (Nat.lt_succ_of_lt lby)).trans cy0, (hu.cell (p := ⟨by', _, none⟩) (Nat.lt_succ_of_lt lby)).trans cy1⟩
          | go_keep)
        (first
          | (go_at_call 93; refine (H0.out _ _ (Nat.le_succ _) hbw.drew HG.out.1 HG.out.2.1 HG.out.2.2).mono ?_; rintro e w2 ⟨rfl, hj2⟩; have hu := hj2.under hP))
      have HJ2 : Hid (JI (w.alloc (.cells #[.int .i64 3, .slice (some ⟨bx, ox, none⟩) 2 c, .int .i64 3, .slice (some ⟨by', oy, none⟩) 2 c', .pointer (some ⟨ib, io, none⟩)] 118)) (w.heap.size + 1) x0 x1 y0 y1 1 w2) := JI.step0 HJ.out hj2
      clear hj2
      go_wp2_with fail
      go_roundg 1
      case measure => omega
      case rel => exact ⟨1, rfl, rfl, HJ2⟩
    · obtain rfl := e1 (by omega)
      have HG : Hid ((wr.drew.cell? ⟨w.heap.size + 1, 2, none⟩ = some (.int .i64 0)) ∧ (wr.drew.cell? ⟨w.heap.size + 1, 2 + 1, none⟩ = some (.slice none 0 0)) ∧ ∀ o, wr.drew.frozen? ⟨w.heap.size + 1, o, none⟩ = false) := ⟨d2, d3, hf⟩
      clear hf i0 i1 b0 b1 d0 d1 d2 d3 t0 t1 e0 e1 z0 z1 f0 f1 q0 q4
      go_wp2_with fail
      go_region_held3 (fun w' => w'.cell? ⟨w.heap.size, 1, none⟩ = some (.slice (some ⟨bx, ox, none⟩) 2 c) ∧ w'.cell? ⟨w.heap.size, 3, none⟩ = some (.slice (some ⟨by', oy, none⟩) 2 c') ∧ w'.cell? ⟨bx, ox + 2, none⟩ = some (.int .i64 x1.k) ∧ w'.cell? ⟨bx, ox + 3, none⟩ = some (.slice x1.a x1.l.length x1.c) ∧ w'.cell? ⟨by', oy + 2, none⟩ = some (.int .i64 y1.k) ∧ w'.cell? ⟨by', oy + 3, none⟩ = some (.slice y1.a y1.l.length y1.c))
        (first
          | exact ⟨(hu.cell (p := ⟨w.heap.size, 1, none⟩) (by simp)).trans q1, (hu.cell (p := ⟨w.heap.size, 3, none⟩) (by simp)).trans q3, (hu.cell (p := ⟨bx, _, none⟩) (Nat.lt_succ_of_lt lbx)).trans cx2, (hu.cell (p := ⟨bx, _, none⟩) (Nat.lt_succ_of_lt lbx)).trans cx3, (hu.cell (p := ⟨by', _, none⟩) (Nat.lt_succ_of_lt lby)).trans cy2, (hu.cell (p := ⟨by', _, none⟩) (Nat.lt_succ_of_lt lby)).trans cy3⟩
          | go_keep)
        (first
          | (go_at_call 93; refine (H1.out _ _ (Nat.le_succ _) hbw.drew HG.out.1 HG.out.2.1 HG.out.2.2).mono ?_; rintro e w2 ⟨rfl, hj2⟩; have hu := hj2.under hP))
      have HJ2 : Hid (JI (w.alloc (.cells #[.int .i64 3, .slice (some ⟨bx, ox, none⟩) 2 c, .int .i64 3, .slice (some ⟨by', oy, none⟩) 2 c', .pointer (some ⟨ib, io, none⟩)] 118)) (w.heap.size + 1) x0 x1 y0 y1 2 w2) := JI.step1 HJ.out hj2
      clear hj2
      go_wp2_with fail
      go_roundg 0
      case measure => omega
      case rel => exact ⟨2, rfl, rfl, HJ2⟩
    · have zz0 := cell_later hbw z0
      have zz1 := cell_later hbw z1
      have ff0 : wr.frozen? ⟨ib, io, none⟩ = false := (hbw.frozen (p := ⟨ib, io, none⟩) lb).trans f0
      have ff1 : wr.frozen? ⟨ib, io + 1, none⟩ = false := (hbw.frozen (p := ⟨ib, io + 1, none⟩) lb).trans f1
      clear hf i0 i1 b0 b1 d0 d1 d2 d3 t0 t1 e0 e1 z0 z1 f0 f1
      go_wp2_with fail
      go_end0
      exact ⟨rfl, _, _, _, Nat.le_succ _, hbw, HJ.out, rfl⟩
end Go.Proofs.YtnddkmccagiclaaDoor

/-
  What the calls of kind.join and kind.Join answer at two right trees of which the first has at most a thousand levels.
-/
namespace Go.Proofs.YtnddkmccagiclaaDoor
open Go.RowKit
theorem set_keeps {ib io : Nat} {w : World} {u v : Value} {t : Tr} (hin : t.In w) (hne : t.Bl (· ≠ ib)) : t.In ((w.setCell ⟨ib, io, none⟩ u).setCell ⟨ib, io + 1, none⟩ v) := by
  refine hin.congr (P := (· ≠ ib)) ?_ hne
  intro b hb o
  rw [World.cell?_setCell_other, World.cell?_setCell_other]
  · intro e; simp only [Addr.mk.injEq] at e; omega
  · intro e; simp only [Addr.mk.injEq] at e; omega
theorem Joined.of_parts {x y x0 x1 y0 y1 : Tr} {ib io P : Nat} {w wr W1 : World} (hx : x.l = [x0, x1]) (hy : y.l = [y0, y1]) (kx : x.k = 3) (ky : y.k = 3) (hib : ib < w.heap.size) (hP : w.heap.size ≤ P) (hb : Below w.heap.size w wr) (h : JI W1 P x0 x1 y0 y1 2 wr)
    (z0 : w.cell? ⟨ib, io, none⟩ = some (.int .i64 0)) (z1 : w.cell? ⟨ib, io + 1, none⟩ = some (.slice none 0 0)) :
    Joined x y ib io w ((wr.setCell ⟨ib, io, none⟩ (.int .i64 3)).setCell ⟨ib, io + 1, none⟩ (.slice (some ⟨P, 0, none⟩) 2 2)) := by
  obtain ⟨_, hf, s0, s1, i0, i1, b0, b1, d0, d1, d2, d3, t0, t1, _, _⟩ := h
  have hc := set_cells (u := .int .i64 3) (v := .slice (some ⟨P, 0, none⟩) 2 2) (cell_later hb z0) (cell_later hb z1)
  have hcell : ∀ o, ((wr.setCell ⟨ib, io, none⟩ (.int .i64 3)).setCell ⟨ib, io + 1, none⟩ (.slice (some ⟨P, 0, none⟩) 2 2)).cell? ⟨P, o, none⟩ = wr.cell? ⟨P, o, none⟩ := by
    intro o
    rw [World.cell?_setCell_other, World.cell?_setCell_other]
    · intro e; simp only [Addr.mk.injEq] at e; omega
    · intro e; simp only [Addr.mk.injEq] at e; omega
  refine ⟨.mk 3 (some ⟨P, 0, none⟩) 2 [s0, s1], ?_, ?_, ?_, hc.1, hc.2, (Wrote.of_below hb hib).set _ _⟩
  · obtain ⟨k, a, c, l⟩ := x
    obtain ⟨k', a', c', l'⟩ := y
    dsimp only at hx hy kx ky
    subst hx hy kx ky
    simp [Tr.ty_mk, joinY_mk, joinL, t0 (by omega), t1 (by omega)]
  · exact Tr.In_two (by rw [hcell]; exact d0) (by rw [hcell]; exact d1) (by rw [hcell]; exact d2) (by rw [hcell]; exact d3) (set_keeps i0 (b0.mono fun b hb => by omega)) (set_keeps i1 (b1.mono fun b hb => by omega))
  · exact Tr.Bl_two hP (b0.mono fun b hb => by omega) (b1.mono fun b hb => by omega)
theorem Joined.of_diff {x y : Tr} {ib io : Nat} {w w' : World} (hk : x.k ≠ y.k) (hib : ib < w.heap.size) (hb : Below w.heap.size w w') (z0 : w.cell? ⟨ib, io, none⟩ = some (.int .i64 0)) (z1 : w.cell? ⟨ib, io + 1, none⟩ = some (.slice none 0 0)) : Joined x y ib io w w' := by
  refine ⟨leaf 0, ?_, leaf_in _ _, leaf_bl _ _, cell_later hb z0, cell_later hb z1, Wrote.of_below hb hib⟩
  obtain ⟨k, a, c, l⟩ := x
  obtain ⟨k', a', c', l'⟩ := y
  dsimp only at hk
  simp [leaf, Tr.ty_mk, joinY_mk, if_neg hk]
theorem join_any (n : Nat) : n ≤ 1000 → ∀ (x y : Tr) (rp : Option Addr) (ib io : Nat) (w : World), x.In w → y.In w → x.right → y.right → x.hgt ≤ n → w.cell? ⟨ib, io, none⟩ = some (.int .i64 0) → w.cell? ⟨ib, io + 1, none⟩ = some (.slice none 0 0) → w.frozen? ⟨ib, io, none⟩ = false → w.frozen? ⟨ib, io + 1, none⟩ = false →
    Calls Tryd.prog 93 #[.agg #[.int .i64 x.k, .slice x.a x.l.length x.c, .int .i64 y.k, .slice y.a y.l.length y.c, .pointer (some ⟨ib, io, none⟩)], .int .i64 (n : Int), .pointer rp] w fun e w' => e = .returned (.tuple #[]) ∧ Joined x y ib io w w' := by
  induction n with
  | zero =>
    intro _ x y rp ib io w _ _ _ _ h
    have := x.hgt_pos
    omega
  | succ n ih =>
    intro hn x y rp ib io w hx hy rx ry hh z0 z1 f0 f1
    have lb : ib < w.heap.size := World.block_lt_of_cell? _ _ z0
    have e : ((n + 1 : Nat) : Int) = (n : Int) + 1 := by omega
    rw [e]
    by_cases hk : x.k = y.k
    · rcases rx.cases with ⟨lx, kx⟩ | ⟨x0, x1, lx, kx, r0, r1⟩
      · rcases ry.cases with ⟨ly, ky⟩ | ⟨y0, y1, ly, ky, _, _⟩
        · rw [lx, ly, ← hk]
          refine (join_leaf n (by omega) x.k x.a y.a rp x.c y.c ib io w z0 z1 f0 f1).mono ?_
          rintro e w' ⟨rfl, g, c0, c1, hw⟩
          refine ⟨rfl, .mk x.k (some ⟨g, 0, none⟩) 0 [], ?_, Tr.In_nil _ _ _ _, Tr.Bl_nil _ _ _ _, c0, c1, hw⟩
          obtain ⟨k, a, c, l⟩ := x
          obtain ⟨k', a', c', l'⟩ := y
          dsimp only at lx ly hk
          subst lx ly hk
          simp [Tr.ty_mk, joinY_mk, joinL]
        · omega
      · rcases ry.cases with ⟨ly, ky⟩ | ⟨y0, y1, ly, ky, q0, q1⟩
        · omega
        · obtain ⟨bx, ox, ax, cx0, cx1, hx0⟩ := hx.part 0 (by simp [lx])
          obtain ⟨bx', ox', ax', cx2, cx3, hx1⟩ := hx.part 1 (by simp [lx])
          obtain ⟨by', oy, ay, cy0, cy1, hy0⟩ := hy.part 0 (by simp [ly])
          obtain ⟨by'', oy', ay', cy2, cy3, hy1⟩ := hy.part 1 (by simp [ly])
          have hg0 := Tr.hgt_part hh 0 (by simp [lx])
          have hg1 := Tr.hgt_part hh 1 (by simp [lx])
          rw [ax] at ax'
          rw [ay] at ay'
          obtain ⟨rfl, rfl⟩ : bx = bx' ∧ ox = ox' := by simpa using ax'
          obtain ⟨rfl, rfl⟩ : by' = by'' ∧ oy = oy' := by simpa using ay'
          simp only [lx, List.getElem_cons_zero, List.getElem_cons_succ] at cx0 cx1 cx2 cx3 hx0 hx1 hg0 hg1
          simp only [ly, List.getElem_cons_zero, List.getElem_cons_succ] at cy0 cy1 cy2 cy3 hy0 hy1
          rw [ax, ay, lx, ly, kx, ky]
          refine (join_fun n (by omega) rp bx ox by' oy x.c y.c ib io x0 x1 y0 y1 w z0 z1 f0 f1 (by simpa using cx0) (by simpa using cx1) (by simpa using cx2) (by simpa using cx3) (by simpa using cy0) (by simpa using cy1) (by simpa using cy2) (by simpa using cy3)
            (fun P W _ hb g0 g1 gf => ih (by omega) x0 y0 rp P 0 W (hx0.below hb) (hy0.below hb) r0 q0 hg0 g0 g1 (gf _) (gf _))
            (fun P W _ hb g0 g1 gf => ih (by omega) x1 y1 rp P 2 W (hx1.below hb) (hy1.below hb) r1 q1 hg1 g0 g1 (gf _) (gf _))).mono ?_
          rintro e w' ⟨rfl, W1, wr, P, hP, hb, hji, rfl⟩
          exact ⟨rfl, Joined.of_parts lx ly kx ky lb hP hb hji z0 z1⟩
    · refine (join_diff n (by omega) x.k y.k (by simpa using hk) x.a y.a (some ⟨ib, io, none⟩) rp x.l.length y.l.length x.c y.c w).mono ?_
      rintro e w' ⟨rfl, rfl⟩
      exact ⟨rfl, Joined.of_diff hk lb ((Below.refl _ _).alloc (Nat.le_refl _) _) z0 z1⟩
end Go.Proofs.YtnddkmccagiclaaDoor
