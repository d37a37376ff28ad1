/-
  Trees that stand for Go values of the type 'Type{Kind int, L []Type}', with the addresses at which their lists lie, and what it means that such a tree lies in a world; no program in it.
-/
import Derived.WalkKit
import Derived.WalkSpells
import Derived.Test.YtnddkmccagiclaaRows
import Derived.Deep.LoopGhost
import Derived.Deep.AppendLies
import Derived.Deep.AppendSrc
import Derived.Deep.RegionLaw
import Derived.WalkSmall
import Derived.Deep.DeepCutAuto
namespace Go.Proofs.Ytnddkmccagiclaa
open Go.RowKit

/-- A type: its kind, where its list lies, the list's capacity, its parts. -/
structure Tr where
  k : Int
  a : Option Addr
  c : Nat
  l : List Tr

theorem Tr.ind {P : Tr → Prop} (h : ∀ k a c l, (∀ t, t ∈ l → P t) → P ⟨k, a, c, l⟩) : ∀ t, P t
  | ⟨k, a, c, l⟩ => h k a c l fun t _ => Tr.ind h t

/-- The list's value. -/
def Tr.sl (t : Tr) : Value := .slice t.a t.l.length t.c

/-- The tree's parts lie in the world, each in two cells. -/
def Tr.In (w : World) : Tr → Prop
  | ⟨_, a, _, l⟩ => (∀ j (h : j < l.length), ∃ b o, a = some ⟨b, o, none⟩ ∧ w.cell? ⟨b, o + j * 2, none⟩ = some (.int .i64 l[j].k) ∧ w.cell? ⟨b, o + j * 2 + 1, none⟩ = some l[j].sl) ∧ ∀ t, t ∈ l → t.In w

theorem Tr.In_mk {w : World} {k : Int} {a : Option Addr} {c : Nat} {l : List Tr} : (Tr.mk k a c l).In w ↔ (∀ j (h : j < l.length), ∃ b o, a = some ⟨b, o, none⟩ ∧ w.cell? ⟨b, o + j * 2, none⟩ = some (.int .i64 l[j].k) ∧ w.cell? ⟨b, o + j * 2 + 1, none⟩ = some l[j].sl) ∧ ∀ t, t ∈ l → t.In w := by
  rw [Tr.In]

theorem Tr.In_nil (w : World) (k : Int) (a : Option Addr) (c : Nat) : (Tr.mk k a c []).In w :=
  Tr.In_mk.2 ⟨fun j h => absurd h (by simp), fun t h => absurd h (by simp)⟩

theorem Tr.In_two {w : World} {k : Int} {b o c : Nat} {x y : Tr} (c0 : w.cell? ⟨b, o, none⟩ = some (.int .i64 x.k)) (c1 : w.cell? ⟨b, o + 1, none⟩ = some (.slice x.a x.l.length x.c)) (c2 : w.cell? ⟨b, o + 2, none⟩ = some (.int .i64 y.k)) (c3 : w.cell? ⟨b, o + 3, none⟩ = some (.slice y.a y.l.length y.c)) (hx : x.In w) (hy : y.In w) :
    (Tr.mk k (some ⟨b, o, none⟩) c [x, y]).In w := by
  refine Tr.In_mk.2 ⟨fun j h => ?_, fun t h => ?_⟩
  · match j, h with
    | 0, _ => exact ⟨b, o, rfl, by simpa using c0, by simpa [Tr.sl] using c1⟩
    | 1, _ => exact ⟨b, o, rfl, by simpa using c2, by simpa [Tr.sl] using c3⟩
  · rcases List.mem_cons.1 h with rfl | h
    · exact hx
    · rcases List.mem_cons.1 h with rfl | h
      · exact hy
      · cases h

/-- Part j: where it lies, what its two cells hold, and that it lies there whole. -/
theorem Tr.In.part {w : World} {t : Tr} (h : t.In w) (j : Nat) (hj : j < t.l.length) : ∃ b o, t.a = some ⟨b, o, none⟩ ∧ w.cell? ⟨b, o + j * 2, none⟩ = some (.int .i64 t.l[j].k) ∧ w.cell? ⟨b, o + j * 2 + 1, none⟩ = some (.slice t.l[j].a t.l[j].l.length t.l[j].c) ∧ t.l[j].In w := by
  obtain ⟨k, a, c, l⟩ := t
  obtain ⟨hc, hi⟩ := Tr.In_mk.1 h
  obtain ⟨b, o, e, c0, c1⟩ := hc j hj
  exact ⟨b, o, e, c0, c1, hi _ (List.getElem_mem hj)⟩

theorem Tr.In.at {w : World} {k : Int} {a : Option Addr} {c : Nat} {l : List Tr} (h : (Tr.mk k a c l).In w) (j : Nat) (hj : j < l.length) : ∃ b o, a = some ⟨b, o, none⟩ ∧ w.cell? ⟨b, o + j * 2, none⟩ = some (.int .i64 l[j].k) ∧ w.cell? ⟨b, o + j * 2 + 1, none⟩ = some (.slice l[j].a l[j].l.length l[j].c) ∧ l[j].In w :=
  Tr.In.part h j hj

theorem Tr.In.below {w w' : World} (hb : Below w.heap.size w w') {t : Tr} : t.In w → t.In w' := by
  induction t using Tr.ind with
  | h k a c l ih =>
    intro h
    obtain ⟨hc, hi⟩ := Tr.In_mk.1 h
    refine Tr.In_mk.2 ⟨fun j hj => ?_, fun t ht => ih t ht (hi t ht)⟩
    obtain ⟨b, o, e, c0, c1⟩ := hc j hj
    exact ⟨b, o, e, cell_later hb c0, cell_later hb c1⟩

/-- The blocks in which the tree's parts lie are of this kind. -/
def Tr.Bl (P : Nat → Prop) : Tr → Prop
  | ⟨_, a, _, l⟩ => (l ≠ [] → ∀ x, a = some x → P x.block) ∧ ∀ t, t ∈ l → t.Bl P

theorem Tr.Bl_mk {P : Nat → Prop} {k : Int} {a : Option Addr} {c : Nat} {l : List Tr} : (Tr.mk k a c l).Bl P ↔ (l ≠ [] → ∀ x, a = some x → P x.block) ∧ ∀ t, t ∈ l → t.Bl P := by
  rw [Tr.Bl]

theorem Tr.Bl_nil (P : Nat → Prop) (k : Int) (a : Option Addr) (c : Nat) : (Tr.mk k a c []).Bl P :=
  Tr.Bl_mk.2 ⟨fun h => absurd rfl h, fun t h => absurd h (by simp)⟩

theorem Tr.Bl_two {P : Nat → Prop} {k : Int} {b o c : Nat} {x y : Tr} (h : P b) (hx : x.Bl P) (hy : y.Bl P) : (Tr.mk k (some ⟨b, o, none⟩) c [x, y]).Bl P := by
  refine Tr.Bl_mk.2 ⟨fun _ x hx => by cases hx; exact h, fun t ht => ?_⟩
  rcases List.mem_cons.1 ht with rfl | ht
  · exact hx
  · rcases List.mem_cons.1 ht with rfl | ht
    · exact hy
    · cases ht

theorem Tr.Bl.mono {P Q : Nat → Prop} (hPQ : ∀ b, P b → Q b) {t : Tr} : t.Bl P → t.Bl Q := by
  induction t using Tr.ind with
  | h k a c l ih =>
    intro h
    obtain ⟨h1, h2⟩ := Tr.Bl_mk.1 h
    exact Tr.Bl_mk.2 ⟨fun hl x hx => hPQ _ (h1 hl x hx), fun t ht => ih t ht (h2 t ht)⟩

theorem Tr.Bl.and {P Q : Nat → Prop} {t : Tr} : t.Bl P → t.Bl Q → t.Bl (fun b => P b ∧ Q b) := by
  induction t using Tr.ind with
  | h k a c l ih =>
    intro h g
    obtain ⟨h1, h2⟩ := Tr.Bl_mk.1 h
    obtain ⟨g1, g2⟩ := Tr.Bl_mk.1 g
    exact Tr.Bl_mk.2 ⟨fun hl x hx => ⟨h1 hl x hx, g1 hl x hx⟩, fun t ht => ih t ht (h2 t ht) (g2 t ht)⟩

theorem Tr.In.bl {w : World} {t : Tr} : t.In w → t.Bl (· < w.heap.size) := by
  induction t using Tr.ind with
  | h k a c l ih =>
    intro h
    obtain ⟨hc, hi⟩ := Tr.In_mk.1 h
    refine Tr.Bl_mk.2 ⟨fun hl x hx => ?_, fun t ht => ih t ht (hi t ht)⟩
    obtain ⟨b, o, e, c0, _⟩ := hc 0 (List.length_pos_iff.2 hl)
    rw [e] at hx
    have := Option.some.inj hx
    subst this
    exact World.block_lt_of_cell? _ _ c0

/-- What lies in blocks that read as they did lies there still. -/
theorem Tr.In.congr {w w' : World} {P : Nat → Prop} (hP : ∀ b, P b → ∀ o, w'.cell? ⟨b, o, none⟩ = w.cell? ⟨b, o, none⟩) {t : Tr} : t.Bl P → t.In w → t.In w' := by
  induction t using Tr.ind with
  | h k a c l ih =>
    intro hb h
    obtain ⟨hc, hi⟩ := Tr.In_mk.1 h
    obtain ⟨b1, b2⟩ := Tr.Bl_mk.1 hb
    refine Tr.In_mk.2 ⟨fun j hj => ?_, fun t ht => ih t ht (b2 t ht) (hi t ht)⟩
    obtain ⟨b, o, e, c0, c1⟩ := hc j hj
    have hx : P b := b1 (fun e => by rw [e] at hj; simp at hj) _ e
    exact ⟨b, o, e, by rw [hP b hx]; exact c0, by rw [hP b hx]; exact c1⟩

/-- Is it one of the four kinds, of as many good parts as it has, and of at most so many levels? -/
def goodT : Nat → Tr → Bool
  | 0, _ => false
  | n + 1, ⟨k, _, _, l⟩ => match l with
    | [] => k == 0 || k == 1 || k == 2
    | [x, y] => k == 3 && goodT n x && goodT n y
    | _ => false

theorem bcell {W w1 : World} (hb : Below W.heap.size W w1) : (∀ b o, b < W.heap.size → w1.cell? ⟨b, o, none⟩ = W.cell? ⟨b, o, none⟩) ∧ (∀ b o, b < W.heap.size → w1.frozen? ⟨b, o, none⟩ = W.frozen? ⟨b, o, none⟩) :=
  ⟨fun b o h => hb.cell (p := ⟨b, o, none⟩) h, fun b o h => hb.frozen (p := ⟨b, o, none⟩) h⟩
end Go.Proofs.Ytnddkmccagiclaa

/-
  Types without addresses, and the plain mathematics of how they go together: alike, fitting, finer, joined, plain, sure; no program in it.
-/
namespace Go.Proofs.Ytnddkmccagiclaa

structure Ty where
  k : Int
  l : List Ty

theorem Ty.ind {P : Ty → Prop} (h : ∀ k l, (∀ t, t ∈ l → P t) → P ⟨k, l⟩) : ∀ t, P t
  | ⟨k, l⟩ => h k l fun t _ => Ty.ind h t

def Tr.ty : Tr → Ty
  | ⟨k, _, _, l⟩ => ⟨k, l.map fun t => t.ty⟩

theorem Tr.ty_mk (k : Int) (a : Option Addr) (c : Nat) (l : List Tr) : (Tr.mk k a c l).ty = ⟨k, l.map Tr.ty⟩ := by
  rw [Tr.ty]

theorem Tr.ty_k (t : Tr) : t.ty.k = t.k := by cases t; rw [Tr.ty_mk]
theorem Tr.ty_l (t : Tr) : t.ty.l = t.l.map Tr.ty := by cases t; rw [Tr.ty_mk]

/-- Good, without addresses. -/
def goodY : Nat → Ty → Bool
  | 0, _ => false
  | n + 1, ⟨k, l⟩ => match l with
    | [] => k == 0 || k == 1 || k == 2
    | [x, y] => k == 3 && goodY n x && goodY n y
    | _ => false

theorem goodT_eq : ∀ (n : Nat) (t : Tr), goodT n t = goodY n t.ty
  | 0, t => by simp [goodT, goodY]
  | n + 1, ⟨k, a, c, l⟩ => by
    match l with
    | [] => simp [goodT, goodY, Tr.ty_mk]
    | [x] => simp [goodT, goodY, Tr.ty_mk]
    | [x, y] => simp [goodT, goodY, Tr.ty_mk, goodT_eq n]
    | x :: y :: z :: r => simp [goodT, goodY, Tr.ty_mk]

/-- Do two lists go together, each with each? -/
def all2 {α β : Type} : (l : List α) → List β → ((x : α) → x ∈ l → β → Bool) → Bool
  | [], [], _ => true
  | x :: r, y :: s, f => f x List.mem_cons_self y && all2 r s (fun z h y => f z (List.mem_cons_of_mem _ h) y)
  | _, _, _ => false

/-- How two types go together: an escape at the top, or one kind and parts that go together. -/
def relY (esc : Int → Int → Bool) : Ty → Ty → Bool
  | ⟨k, l⟩, ⟨k', l'⟩ => esc k k' || (k == k' && all2 l l' fun x _ y => relY esc x y)

def relL (esc : Int → Int → Bool) : List Ty → List Ty → Bool
  | [], [] => true
  | x :: r, y :: s => relY esc x y && relL esc r s
  | _, _ => false

theorem all2_rel (esc : Int → Int → Bool) : ∀ l l' : List Ty, (all2 l l' fun x _ y => relY esc x y) = relL esc l l'
  | [], [] => by simp [all2, relL]
  | x :: r, y :: s => by simp [all2, relL, all2_rel esc r s]
  | [], _ :: _ => by simp [all2, relL]
  | _ :: _, [] => by simp [all2, relL]

theorem relY_mk (esc : Int → Int → Bool) (k k' : Int) (l l' : List Ty) : relY esc ⟨k, l⟩ ⟨k', l'⟩ = (esc k k' || (k == k' && relL esc l l')) := by
  rw [relY, all2_rel]

def escSame : Int → Int → Bool := fun _ _ => false
def escFits : Int → Int → Bool := fun k k' => k == 0 || k' == 0
def escFiner : Int → Int → Bool := fun _ k' => k' == 0

theorem relL_len (esc : Int → Int → Bool) : ∀ (l l' : List Ty), relL esc l l' = true → l.length = l'.length
  | [], [], _ => rfl
  | x :: r, y :: s, h => by
    simp only [relL, Bool.and_eq_true] at h
    simp [relL_len esc r s h.2]
  | [], _ :: _, h => by simp [relL] at h
  | _ :: _, [], h => by simp [relL] at h

theorem relL_all (esc : Int → Int → Bool) : ∀ (l l' : List Ty) (_ : l.length = l'.length), (∀ j (h : j < l.length) (h' : j < l'.length), relY esc l[j] l'[j] = true) → relL esc l l' = true
  | [], [], _, _ => by simp [relL]
  | x :: r, y :: s, hl, h => by
    simp only [relL, Bool.and_eq_true]
    refine ⟨h 0 (by simp) (by simp), relL_all esc r s (by simpa using hl) fun j h1 h2 => ?_⟩
    exact h (j + 1) (by simpa using h1) (by simpa using h2)

theorem relL_not (esc : Int → Int → Bool) : ∀ (l l' : List Ty) (j : Nat) (h : j < l.length) (h' : j < l'.length), relY esc l[j] l'[j] = false → relL esc l l' = false
  | [], _, j, h, _, _ => by simp at h
  | x :: r, [], j, _, h', _ => by simp at h'
  | x :: r, y :: s, 0, _, _, e => by simp only [List.getElem_cons_zero] at e; simp [relL, e]
  | x :: r, y :: s, j + 1, h, h', e => by
    simp only [relL, relL_not esc r s j (by simpa using h) (by simpa using h') (by simpa using e), Bool.and_false]

/-- Two lists, each with each. -/
def zip2 {α β γ : Type} : (l : List α) → List β → ((x : α) → x ∈ l → β → γ) → List γ
  | x :: r, y :: s, f => f x List.mem_cons_self y :: zip2 r s (fun z h y => f z (List.mem_cons_of_mem _ h) y)
  | _, _, _ => []

/-- What two types both say. -/
def joinY : Ty → Ty → Ty
  | ⟨k, l⟩, ⟨k', l'⟩ => if k = k' then ⟨k, zip2 l l' fun x _ y => joinY x y⟩ else ⟨0, []⟩

def joinL : List Ty → List Ty → List Ty
  | x :: r, y :: s => joinY x y :: joinL r s
  | _, _ => []

theorem zip2_join : ∀ l l' : List Ty, (zip2 l l' fun x _ y => joinY x y) = joinL l l'
  | [], [] => by simp [zip2, joinL]
  | x :: r, y :: s => by simp [zip2, joinL, zip2_join r s]
  | [], _ :: _ => by simp [zip2, joinL]
  | _ :: _, [] => by simp [zip2, joinL]

theorem joinY_mk (k k' : Int) (l l' : List Ty) : joinY ⟨k, l⟩ ⟨k', l'⟩ = if k = k' then ⟨k, joinL l l'⟩ else ⟨0, []⟩ := by
  rw [joinY, zip2_join]

/-- One of the four kinds, Fun of two parts that are right, all others of none. -/
def Tr.right : Tr → Prop
  | ⟨k, _, _, l⟩ => (l = [] ∧ (k = 0 ∨ k = 1 ∨ k = 2) ∨ l.length = 2 ∧ k = 3) ∧ ∀ t, t ∈ l → t.right

theorem Tr.right_mk {k : Int} {a : Option Addr} {c : Nat} {l : List Tr} : (Tr.mk k a c l).right ↔ (l = [] ∧ (k = 0 ∨ k = 1 ∨ k = 2) ∨ l.length = 2 ∧ k = 3) ∧ ∀ t, t ∈ l → t.right := by
  rw [Tr.right]

theorem Tr.right_good : ∀ (n : Nat) (t : Tr), goodT n t = true → t.right
  | 0, t, h => by simp [goodT] at h
  | n + 1, ⟨k, a, c, l⟩, h => by
    refine Tr.right_mk.2 ?_
    match l, h with
    | [], h => exact ⟨.inl ⟨rfl, by simpa [goodT, or_assoc] using h⟩, fun t ht => by cases ht⟩
    | [x], h => simp [goodT] at h
    | [x, y], h =>
      simp only [goodT, Bool.and_eq_true] at h
      refine ⟨.inr ⟨rfl, by simpa using h.1.1⟩, fun t ht => ?_⟩
      rcases List.mem_cons.1 ht with rfl | ht
      · exact Tr.right_good n _ h.1.2
      · rcases List.mem_cons.1 ht with rfl | ht
        · exact Tr.right_good n _ h.2
        · cases ht
    | x :: y :: z :: r, h => simp [goodT] at h

theorem Tr.right.cases {t : Tr} (h : t.right) : (t.l = [] ∧ (t.k = 0 ∨ t.k = 1 ∨ t.k = 2)) ∨ (∃ x y, t.l = [x, y] ∧ t.k = 3 ∧ x.right ∧ y.right) := by
  obtain ⟨k, a, c, l⟩ := t
  rcases Tr.right_mk.1 h with ⟨⟨rfl, hk⟩ | ⟨hl, hk⟩, hr⟩
  · exact .inl ⟨rfl, hk⟩
  · match l, hl, hr with
    | [x, y], _, hr => exact .inr ⟨x, y, rfl, hk, hr x (by simp), hr y (by simp)⟩

/-- How many levels. -/
def Tr.hgt : Tr → Nat
  | ⟨_, _, _, l⟩ => (l.map fun t => t.hgt).foldr max 0 + 1

theorem Tr.hgt_mk (k : Int) (a : Option Addr) (c : Nat) (l : List Tr) : (Tr.mk k a c l).hgt = (l.map Tr.hgt).foldr max 0 + 1 := by
  rw [Tr.hgt]

theorem le_maxes : ∀ (l : List Nat) (j : Nat) (h : j < l.length), l[j] ≤ l.foldr max 0
  | [], j, h => by simp at h
  | x :: r, 0, _ => by simp only [List.getElem_cons_zero, List.foldr_cons]; omega
  | x :: r, j + 1, h => by
    have := le_maxes r j (by simpa using h)
    simp only [List.getElem_cons_succ, List.foldr_cons]; omega

/-- No list in it is longer than any memory. -/
def Tr.sm : Tr → Prop
  | ⟨_, _, _, l⟩ => l.length ≤ 140737488355328 ∧ ∀ t, t ∈ l → t.sm

theorem Tr.sm_mk {k : Int} {a : Option Addr} {c : Nat} {l : List Tr} : (Tr.mk k a c l).sm ↔ l.length ≤ 140737488355328 ∧ ∀ t, t ∈ l → t.sm := by
  rw [Tr.sm]

theorem Tr.sm.len {t : Tr} (h : t.sm) : t.l.length ≤ 140737488355328 := by cases t; exact (Tr.sm_mk.1 h).1
theorem Tr.sm.part {t : Tr} (h : t.sm) (j : Nat) (hj : j < t.l.length) : t.l[j].sm := by
  obtain ⟨k, a, c, l⟩ := t
  exact (Tr.sm_mk.1 h).2 _ (List.getElem_mem hj)

theorem Tr.sm_good : ∀ (n : Nat) (t : Tr), goodT n t = true → t.sm
  | 0, t, h => by simp [goodT] at h
  | n + 1, ⟨k, a, c, l⟩, h => by
    refine Tr.sm_mk.2 ?_
    match l, h with
    | [], _ => exact ⟨by simp, fun t ht => by cases ht⟩
    | [x], h => simp [goodT] at h
    | [x, y], h =>
      simp only [goodT, Bool.and_eq_true] at h
      refine ⟨by simp, fun t ht => ?_⟩
      rcases List.mem_cons.1 ht with rfl | ht
      · exact Tr.sm_good n _ h.1.2
      · rcases List.mem_cons.1 ht with rfl | ht
        · exact Tr.sm_good n _ h.2
        · cases ht
    | x :: y :: z :: r, h => simp [goodT] at h

theorem Tr.hgt_part {t : Tr} {n : Nat} (h : t.hgt ≤ n + 1) (j : Nat) (hj : j < t.l.length) : t.l[j].hgt ≤ n := by
  obtain ⟨k, a, c, l⟩ := t
  rw [Tr.hgt_mk] at h
  have h1 := le_maxes (l.map Tr.hgt) j (by simpa using hj)
  rw [List.getElem_map] at h1
  exact Nat.le_trans h1 (by omega)

theorem Tr.hgt_pos (t : Tr) : 1 ≤ t.hgt := by cases t; rw [Tr.hgt_mk]; omega

theorem Tr.hgt_good : ∀ (n : Nat) (t : Tr), goodT n t = true → t.hgt ≤ n
  | 0, t, h => by simp [goodT] at h
  | n + 1, ⟨k, a, c, l⟩, h => by
    rw [Tr.hgt_mk]
    match l, h with
    | [], _ => simp
    | [x], h => simp [goodT] at h
    | [x, y], h =>
      simp only [goodT, Bool.and_eq_true] at h
      have hx := Tr.hgt_good n x h.1.2
      have hy := Tr.hgt_good n y h.2
      simp only [List.map_cons, List.map_nil, List.foldr_cons, List.foldr_nil]; omega
    | x :: y :: z :: r, h => simp [goodT] at h

theorem relY_top (esc : Int → Int → Bool) (x y : Tr) (he : esc x.k y.k = false) (ht : (x.k == y.k && (x.l.length : Int) == (y.l.length : Int)) = false) : relY esc x.ty y.ty = false := by
  obtain ⟨k, a, c, l⟩ := x
  obtain ⟨k', a', c', l'⟩ := y
  dsimp only at he ht
  rw [Tr.ty_mk, Tr.ty_mk, relY_mk, he, Bool.false_or]
  by_cases hk : (k == k') = true
  · rw [hk, Bool.true_and] at ht
    rw [hk, Bool.true_and]
    cases hr : relL esc (l.map Tr.ty) (l'.map Tr.ty) with
    | false => rfl
    | true =>
      have := relL_len esc _ _ hr
      rw [List.length_map, List.length_map] at this
      rw [this] at ht
      simp at ht
  · have : (k == k') = false := by simpa using hk
    rw [this, Bool.false_and]

theorem relY_esc (esc : Int → Int → Bool) (x y : Tr) (he : esc x.k y.k = true) : relY esc x.ty y.ty = true := by
  obtain ⟨k, a, c, l⟩ := x
  obtain ⟨k', a', c', l'⟩ := y
  dsimp only at he
  rw [Tr.ty_mk, Tr.ty_mk, relY_mk, he, Bool.true_or]

theorem relY_part_not (esc : Int → Int → Bool) (x y : Tr) (he : esc x.k y.k = false) (j : Nat) (h : j < x.l.length) (h' : j < y.l.length) (hr : relY esc x.l[j].ty y.l[j].ty = false) : relY esc x.ty y.ty = false := by
  obtain ⟨k, a, c, l⟩ := x
  obtain ⟨k', a', c', l'⟩ := y
  dsimp only at he h h' hr
  rw [Tr.ty_mk, Tr.ty_mk, relY_mk, he, Bool.false_or, relL_not esc (l.map Tr.ty) (l'.map Tr.ty) j (by simpa using h) (by simpa using h') (by simpa using hr), Bool.and_false]

theorem relY_parts (esc : Int → Int → Bool) (x y : Tr) (hk : x.k = y.k) (hl : x.l.length = y.l.length) (hr : ∀ q (h : q < x.l.length) (h' : q < y.l.length), relY esc x.l[q].ty y.l[q].ty = true) : relY esc x.ty y.ty = true := by
  obtain ⟨k, a, c, l⟩ := x
  obtain ⟨k', a', c', l'⟩ := y
  dsimp only at hk hl hr
  subst hk
  rw [Tr.ty_mk, Tr.ty_mk, relY_mk, relL_all esc (l.map Tr.ty) (l'.map Tr.ty) (by simpa using hl) fun j h h' => by simpa using hr j (by simpa using h) (by simpa using h')]
  simp
end Go.Proofs.Ytnddkmccagiclaa

/-
  What the calls of kind.To, kind.Ground, kind.Plain and kind.alikeAtTop answer, at whatever trees lie in memory.
-/
namespace Go.Proofs.Ytnddkmccagiclaa
open Go.RowKit

set_option maxHeartbeats 400000 in
/-- kind.alikeAtTop. -/
theorem alike_walk (k k' : Int) (a a' : Option Addr) (m m' c c' : Nat) (w : World) :
    Calls Try.prog 40 #[.agg #[.int .i64 k, .slice a m c], .agg #[.int .i64 k', .slice a' m' c']] w fun e w' => e = .returned (.bool (k == k' && (m : Int) == (m' : Int))) ∧ Below w.heap.size w w' := by
  by_cases h : (k == k') = true
  · go_enter Try.func40, Try.ntmps40
    go_wp2_with fail
    go_ret
    exact ⟨by simp [h], ((Below.refl _ _).alloc (Nat.le_refl _) _).alloc (by simp) _⟩
  · have h' : (k == k') = false := by simpa using h
    clear h
    go_enter Try.func40, Try.ntmps40
    go_wp2_with fail
    go_ret
    exact ⟨by simp [h'], ((Below.refl _ _).alloc (Nat.le_refl _) _).alloc (by simp) _⟩

theorem alike_any (k k' : Int) (a a' : Option Addr) (m m' c c' : Nat) (r : Bool) (hr : (k == k' && (m : Int) == (m' : Int)) = r) (w : World) :
    Calls Try.prog 40 #[.agg #[.int .i64 k, .slice a m c], .agg #[.int .i64 k', .slice a' m' c']] w fun e w' => e = .returned (.bool r) ∧ Below w.heap.size w w' := by
  rw [← hr]
  exact alike_walk k k' a a' m m' c c' w

set_option maxHeartbeats 400000 in
/-- kind.To. -/
theorem to_cells (k k' : Int) (a a' : Option Addr) (m m' c c' : Nat) (w : World) :
    Calls Try.prog 14 #[.agg #[.int .i64 k, .slice a m c], .agg #[.int .i64 k', .slice a' m' c']] w fun e w' => ∃ g, w.heap.size ≤ g ∧ e = .returned (.agg #[.int .i64 3, .slice (some ⟨g, 0, none⟩) 2 2]) ∧ w'.cell? ⟨g, 0, none⟩ = some (.int .i64 k) ∧ w'.cell? ⟨g, 1, none⟩ = some (.slice a m c) ∧ w'.cell? ⟨g, 2, none⟩ = some (.int .i64 k') ∧ w'.cell? ⟨g, 3, none⟩ = some (.slice a' m' c') ∧ Below w.heap.size w w' := by
  go_enter Try.func14, Try.ntmps14
  go_wp2_with fail
  refine bodyPost_ret (v := .agg #[.int .i64 3, .slice (some ⟨w.heap.size + 1 + 1 + 1, 0, none⟩) 2 2]) (by simp [results, Try.results14, go_sem]) rfl ⟨_, ?_, rfl, by simp [go_sem], by simp [go_sem], by simp [go_sem], by simp [go_sem], ?_⟩
  · omega
  exact ((((Below.refl _ _).alloc (Nat.le_refl _) _).alloc (by simp) _).alloc (by simp; omega) _).alloc (by simp; omega) _

theorem to_any (x y : Tr) (w : World) (hx : x.In w) (hy : y.In w) :
    Calls Try.prog 14 #[.agg #[.int .i64 x.k, .slice x.a x.l.length x.c], .agg #[.int .i64 y.k, .slice y.a y.l.length y.c]] w fun e w' => ∃ g, w.heap.size ≤ g ∧ e = .returned (.agg #[.int .i64 3, .slice (some ⟨g, 0, none⟩) 2 2]) ∧ (Tr.mk 3 (some ⟨g, 0, none⟩) 2 [x, y]).In w' ∧ Below w.heap.size w w' := by
  refine (to_cells x.k y.k x.a y.a x.l.length y.l.length x.c y.c w).mono ?_
  rintro e w' ⟨g, hg, rfl, c0, c1, c2, c3, hb⟩
  refine ⟨g, hg, rfl, ?_, hb⟩
  exact Tr.In_two c0 c1 c2 c3 (hx.below hb) (hy.below hb)

/-- A type without parts. -/
def leaf (k : Int) : Tr := .mk k none 0 []
theorem leaf_in (k : Int) (w : World) : (leaf k).In w := Tr.In_nil w k none 0
theorem leaf_bl (k : Int) (P : Nat → Prop) : (leaf k).Bl P := Tr.Bl_nil P k none 0

set_option maxHeartbeats 400000 in
theorem ground_fun (a : Option Addr) (m c : Nat) (w : World) :
    Calls Try.prog 23 #[.agg #[.int .i64 3, .slice a m c]] w fun e w' => ∃ g, w.heap.size ≤ g ∧ e = .returned (.agg #[.int .i64 3, .slice (some ⟨g, 0, none⟩) 2 2]) ∧ (Tr.mk 3 (some ⟨g, 0, none⟩) 2 [leaf 0, leaf 0]).In w' ∧ Below w.heap.size w w' := by
  go_enter Try.func23, Try.ntmps23
  go_wp2_with fail
  refine (to_any (leaf 0) (leaf 0) _ (leaf_in _ _) (leaf_in _ _)).mono ?_
  rintro e w1 ⟨g, hg, rfl, hin, hb⟩
  have hz : w.heap.size + 1 < w1.heap.size := by have := hb.size; simp at this; omega
  obtain ⟨hc, hf⟩ := bcell hb
  go_wp2_with fail
  simp only [World.size_alloc] at hg
  have hbl : (Tr.mk 3 (some ⟨g, 0, none⟩) 2 [leaf 0, leaf 0]).Bl (· = g) := Tr.Bl_two rfl (leaf_bl _ _) (leaf_bl _ _)
  refine bodyPost_ret (v := .agg #[.int .i64 3, .slice (some ⟨g, 0, none⟩) 2 2]) (by simp [results, Try.results23, go_sem, hc]) rfl ⟨g, by omega, rfl, hin.congr (P := (· = g)) ?_ hbl, ?_⟩
  · rintro b rfl o
    rw [World.cell?_setCell_other, World.cell?_setCell_other]
    all_goals (intro h; simp only [Addr.mk.injEq] at h; omega)
  · exact (((((Below.refl _ _).alloc (Nat.le_refl _) _).alloc (by simp) _).trans (hb.mono (by simp; omega))).setCell (by simp) _).setCell (by simp) _

set_option maxHeartbeats 400000 in
theorem ground_else (k : Int) (h : (k == 3) = false) (a : Option Addr) (m c : Nat) (w : World) :
    Calls Try.prog 23 #[.agg #[.int .i64 k, .slice a m c]] w fun e w' => e = .returned (.agg #[.int .i64 k, .slice none 0 0]) ∧ Below w.heap.size w w' := by
  go_enter Try.func23, Try.ntmps23
  go_wp2_with fail
  refine bodyPost_ret (v := .agg #[.int .i64 k, .slice none 0 0]) (by simp [results, Try.results23, go_sem]) rfl ⟨rfl, ?_⟩
  exact ((Below.refl _ _).alloc (Nat.le_refl _) _).alloc (by simp) _

set_option maxHeartbeats 400000 in
theorem plain_yes (k : Int) (hk : k = 1 ∨ k = 2) (a : Option Addr) (m c : Nat) (w : World) :
    Calls Try.prog 15 #[.agg #[.int .i64 k, .slice a m c]] w fun e w' => e = .returned (.bool true) ∧ Below w.heap.size w w' := by
  rcases hk with rfl | rfl <;>
  · go_enter Try.func15, Try.ntmps15
    go_wp2_with fail
    go_ret
    exact ⟨rfl, (Below.refl _ _).alloc (Nat.le_refl _) _⟩

set_option maxHeartbeats 400000 in
theorem plain_no (k : Int) (h1 : (k == 1) = false) (h2 : (k == 2) = false) (h3 : (k == 3) = false) (a : Option Addr) (m c : Nat) (w : World) :
    Calls Try.prog 15 #[.agg #[.int .i64 k, .slice a m c]] w fun e w' => e = .returned (.bool false) ∧ Below w.heap.size w w' := by
  go_enter Try.func15, Try.ntmps15
  go_wp2_with fail
  go_ret
  exact ⟨rfl, (Below.refl _ _).alloc (Nat.le_refl _) _⟩

set_option maxHeartbeats 400000 in
theorem plain_fun_no (a : Option Addr) (m c : Nat) (hm : ((m : Int) == 2) = false) (w : World) :
    Calls Try.prog 15 #[.agg #[.int .i64 3, .slice a m c]] w fun e w' => e = .returned (.bool false) ∧ Below w.heap.size w w' := by
  go_enter Try.func15, Try.ntmps15
  go_wp2_with fail
  go_ret
  exact ⟨rfl, (Below.refl _ _).alloc (Nat.le_refl _) _⟩

set_option maxHeartbeats 400000 in
theorem plain_fun (b o c : Nat) (kx ky : Int) (w : World) (x0 : w.cell? ⟨b, o, none⟩ = some (.int .i64 kx)) (y0 : w.cell? ⟨b, o + 2, none⟩ = some (.int .i64 ky)) :
    Calls Try.prog 15 #[.agg #[.int .i64 3, .slice (some ⟨b, o, none⟩) 2 c]] w fun e w' => e = .returned (.bool (kx == 0 && ky == 0)) ∧ Below w.heap.size w w' := by
  have lb : b < w.heap.size := World.block_lt_of_cell? _ _ x0
  by_cases hx : (kx == 0) = true
  · go_enter Try.func15, Try.ntmps15
    go_wp2_with fail
    go_ret
    exact ⟨by simp [hx], (Below.refl _ _).alloc (Nat.le_refl _) _⟩
  · have hx' : (kx == 0) = false := by simpa using hx
    clear hx
    go_enter Try.func15, Try.ntmps15
    go_wp2_with fail
    go_ret
    exact ⟨by simp [hx'], (Below.refl _ _).alloc (Nat.le_refl _) _⟩

def plainT : Tr → Bool
  | ⟨k, _, _, l⟩ => k == 1 || k == 2 || (k == 3 && match l with | [x, y] => x.k == 0 && y.k == 0 | _ => false)

/-- kind.Plain. -/
theorem plain_any (t : Tr) (w : World) (hin : t.In w) :
    Calls Try.prog 15 #[.agg #[.int .i64 t.k, .slice t.a t.l.length t.c]] w fun e w' => e = .returned (.bool (plainT t)) ∧ Below w.heap.size w w' := by
  obtain ⟨k, a, c, l⟩ := t
  dsimp only
  by_cases hk : k = 1 ∨ k = 2
  · refine (plain_yes k hk a l.length c w).mono ?_
    rintro e w' ⟨rfl, hb⟩
    exact ⟨by rcases hk with rfl | rfl <;> simp [plainT], hb⟩
  · have h1 : (k == 1) = false := by simp; omega
    have h2 : (k == 2) = false := by simp; omega
    by_cases h3 : k = 3
    · subst h3
      match l, hin with
      | [], hin =>
        refine (plain_fun_no a 0 c (by decide) w).mono ?_
        rintro e w' ⟨rfl, hb⟩
        exact ⟨by simp [plainT], hb⟩
      | [x], hin =>
        refine (plain_fun_no a 1 c (by decide) w).mono ?_
        rintro e w' ⟨rfl, hb⟩
        exact ⟨by simp [plainT], hb⟩
      | x :: y :: z :: r, hin =>
        refine (plain_fun_no a (x :: y :: z :: r).length c (by simp; omega) w).mono ?_
        rintro e w' ⟨rfl, hb⟩
        exact ⟨by simp [plainT], hb⟩
      | [x, y], hin =>
        obtain ⟨b, o, e0, x0, x1, hx⟩ := hin.at 0 (by simp)
        obtain ⟨b', o', e1, y0, y1, hy⟩ := hin.at 1 (by simp)
        rw [e0] at e1
        obtain ⟨rfl, rfl⟩ : b = b' ∧ o = o' := by simpa using e1
        subst e0
        refine (plain_fun b o c x.k y.k w (by simpa using x0) (by simpa using y0)).mono ?_
        rintro e w' ⟨rfl, hb⟩
        exact ⟨by simp [plainT], hb⟩
    · refine (plain_no k h1 h2 (by simpa using h3) a l.length c w).mono ?_
      rintro e w' ⟨rfl, hb⟩
      exact ⟨by simp [plainT, h1, h2, h3], hb⟩
end Go.Proofs.Ytnddkmccagiclaa

/-
  What the call of kind.Sure answers at a right tree of not too many nodes.
-/
namespace Go.Proofs.Ytnddkmccagiclaa
open Go.RowKit

/-- Is Any nowhere in it? -/
def sureY : Ty → Bool
  | ⟨k, l⟩ => k != 0 && (l.map fun t => sureY t).all id
theorem sureY_mk (k : Int) (l : List Ty) : sureY ⟨k, l⟩ = (k != 0 && l.all sureY) := by
  rw [sureY, List.all_map]
  rfl

/-- How many nodes. -/
def Tr.sz : Tr → Nat
  | ⟨_, _, _, l⟩ => (l.map fun t => t.sz).sum + 1
theorem Tr.sz_mk (k : Int) (a : Option Addr) (c : Nat) (l : List Tr) : (Tr.mk k a c l).sz = (l.map Tr.sz).sum + 1 := by
  rw [Tr.sz]
theorem Tr.sz_pos (t : Tr) : 1 ≤ t.sz := by cases t; rw [Tr.sz_mk]; omega

theorem Tr.sz_good : ∀ (n : Nat) (t : Tr), goodT n t = true → t.sz + 1 ≤ 2 ^ n
  | 0, t, h => by simp [goodT] at h
  | n + 1, ⟨k, a, c, l⟩, h => by
    have hp : 1 ≤ 2 ^ n := Nat.one_le_two_pow
    rw [Tr.sz_mk, Nat.pow_succ]
    match l, h with
    | [], _ => simp; omega
    | [x], h => simp [goodT] at h
    | [x, y], h =>
      simp only [goodT, Bool.and_eq_true] at h
      have hx := Tr.sz_good n x h.1.2
      have hy := Tr.sz_good n y h.2
      simp only [List.map_cons, List.map_nil, List.sum_cons, List.sum_nil]; omega
    | x :: y :: z :: r, h => simp [goodT] at h

/-- The cells of a list of trees. -/
def cellsOf : List Tr → List Value
  | [] => []
  | t :: r => .int .i64 t.k :: .slice t.a t.l.length t.c :: cellsOf r

theorem cellsOf_length : ∀ l : List Tr, (cellsOf l).length = l.length * 2
  | [] => rfl
  | t :: r => by simp only [cellsOf, List.length_cons, cellsOf_length r]; omega

theorem cellsOf_append : ∀ l r : List Tr, cellsOf (l ++ r) = cellsOf l ++ cellsOf r
  | [], r => rfl
  | t :: l, r => by simp only [List.cons_append, cellsOf, cellsOf_append l r]

/-- What is left to be looked at. -/
def Left (B : Nat) (b : Bool) (N k : Nat) (v : Value) (wr : World) : Prop :=
  ∃ ts : List Tr, wr.ownsRow B 24 2 v ts.length (cellsOf ts) ∧ (∀ t, t ∈ ts → t.In wr ∧ t.Bl (· < B) ∧ t.right) ∧ (ts.map Tr.sz).sum = k ∧ k ≤ N ∧ b = ts.all fun t => sureY t.ty

theorem Left.split {ts : List Tr} (h : ts ≠ []) : ∃ us x, ts = us ++ [x] := ⟨ts.dropLast, ts.getLast h, (List.dropLast_concat_getLast h).symm⟩

/-- append of nothing, where there is room for nothing: a step of a region that draws. -/
theorem step_append_void {P : Program} {ops : Array Oper} {o : Oper} {a : Act} {w : World} {K : Act → World → Prop} {Q : Exit → Act → World → Prop} {E : Prop}
    (hg : o.guard = none) (s x : Operand) (t : TypeId) (hop : o.op = Op.call { callee := Callee.builtin Builtin.append, args := #[s, x], argTypes := #[t, t] })
    (e : TypeId) (i : TypeInfo) (h1 : P.underlying t = some (.slice e)) (h2 : P.info? e = some i)
    (b n cap : Nat) (hs : a.eval s = .slice (some ⟨b, 0, none⟩) n cap) (xa : Option Addr) (c : Nat) (hx : a.eval x = .slice xa 0 c) (hroom : n ≤ cap)
    (hK : K (a.put o.dst (.slice (some ⟨b, 0, none⟩) n cap)) w) :
    if Region.wanted o (yielded ops a.tmps) = true then Oper.wp P o a w K Q else E := by
  have hw : Region.wanted o (yielded ops a.tmps) = true := by simp [Region.wanted, hg]
  rw [if_pos hw]
  have hsrc : Src P i.size t (.slice xa 0 c) 0 [] w := by
    cases xa with
    | none => exact Src.ofNil w h1 c
    | some ad => exact Src.ofSlice w h1 ad 0 c [] (by simp) (fun j u h => by simp at h) (fun u h => by cases h)
  have hrun := run_append_room_src (P := P) w t t o.type e i h1 h2 b 0 n cap (.slice xa 0 c) 0 [] hsrc (by omega) (fun j h => by simp at h) (fun j h => by simp at h)
  unfold Oper.wp
  simp only [execOp, hop, resolve, invoke, builtin, Sem.run_bind, Sem.run_pure, Result.andThen_ok, List.map_toArray, List.map_cons, List.map_nil, hs, hx, hrun]
  exact hK

theorem sure_no (t : Tr) (h : t.k = 0) : sureY t.ty = false := by
  obtain ⟨k, a, c, l⟩ := t
  dsimp only at h
  rw [Tr.ty_mk, sureY_mk, h]
  simp

theorem sure_leaf (t : Tr) (h : t.l = []) (hk : t.k ≠ 0) : sureY t.ty = true := by
  obtain ⟨k, a, c, l⟩ := t
  dsimp only at h hk
  rw [Tr.ty_mk, sureY_mk, h]
  simpa using hk

theorem sure_two (t x y : Tr) (h : t.l = [x, y]) (hk : t.k ≠ 0) : sureY t.ty = (sureY x.ty && sureY y.ty) := by
  obtain ⟨k, a, c, l⟩ := t
  dsimp only at h hk
  rw [Tr.ty_mk, sureY_mk, h]
  simp [hk]

theorem Tr.sz_two (t x y : Tr) (h : t.l = [x, y]) : t.sz = x.sz + y.sz + 1 := by
  obtain ⟨k, a, c, l⟩ := t
  dsimp only at h
  rw [Tr.sz_mk, h]
  simp

theorem Try.info24s : (Try.prog.info? 24).map (fun i => (i.zero, i.size, i.bytes)) = some (some (.agg #[.int .i64 0, .slice none 0 0]), 2, 32) := by kernel_rfl

set_option maxHeartbeats 1000000 in
theorem sure_any (t : Tr) (w : World) (hin : t.In w) (hr : t.right) (hz : t.sz ≤ 1000000000) :
    Calls Try.prog 25 #[.agg #[.int .i64 t.k, .slice t.a t.l.length t.c]] w fun e w' => e = .returned (.bool (sureY t.ty)) ∧ Below w.heap.size w w' := by
  have HL : Hid (Left (w.heap.size + 1) (sureY t.ty) 1000000000 t.sz (.slice (some ⟨w.heap.size + 1, 0, none⟩) 1 1) ((w.alloc (.cells #[.int .i64 t.k, .slice t.a t.l.length t.c] 24)).alloc (.cells #[.int .i64 t.k, .slice t.a t.l.length t.c] 24))) := by
    have hb : Below w.heap.size w ((w.alloc (.cells #[.int .i64 t.k, .slice t.a t.l.length t.c] 24)).alloc (.cells #[.int .i64 t.k, .slice t.a t.l.length t.c] 24)) := ((Below.refl _ _).alloc (Nat.le_refl _) _).alloc (by simp) _
    have hh := heap_alloc_new (w.alloc (.cells #[.int .i64 t.k, .slice t.a t.l.length t.c] 24)) (.cells #[.int .i64 t.k, .slice t.a t.l.length t.c] 24)
    rw [World.size_alloc] at hh
    refine ⟨[t], ⟨rfl, .inr ⟨w.heap.size + 1, 1, _, rfl, Nat.le_refl _, hh, Nat.le_refl _, by unfold maxLen; omega, rfl, rfl⟩⟩, ?_, by simp, hz, by simp⟩
    intro x hx
    rcases List.mem_cons.1 hx with rfl | hx
    · exact ⟨hin.below hb, hin.bl.mono fun b hb => by omega, hr⟩
    · cases hx
  obtain ⟨i0, hi0, hz0, hz1, hz2⟩ := info_parts Try.info24s
  obtain ⟨B, hB⟩ : ∃ B, B = sureY t.ty := ⟨_, rfl⟩
  rw [← hB] at HL ⊢
  clear hB
  go_enter Try.func25, Try.ntmps25
  go_wp2_with fail
  go_loopg [3] t.sz (fun k v wr => ∃ u, u = v ∧ Hid (Left (w.heap.size + 1) B 1000000000 k u wr) ∧ Below w.heap.size w wr)
  case atStart => exact ⟨_, rfl, HL, ((Below.refl _ _).alloc (Nat.le_refl _) _).alloc (by simp) _⟩
  case round =>
    obtain ⟨v, hv, HR, hbr⟩ := hrel
    subst hv
    obtain ⟨ts, ho, hts, hk, hkn, hb⟩ := HR.out
    have HB : Hid (B = ts.all fun t => sureY t.ty) := hb
    clear hb HL
    by_cases hne : ts = []
    · subst hne
      obtain ⟨a, c, rfl⟩ : ∃ a c, v = .slice a 0 c := by
        rcases ho.2 with ⟨rfl, _⟩ | ⟨g, cap, cur, rfl, _⟩
        · exact ⟨_, _, rfl⟩
        · exact ⟨_, _, rfl⟩
      clear ho hts
      go_wp2_with fail
      go_ret
      exact ⟨by rw [HB.out]; rfl, hbr⟩
    · obtain ⟨us, x, rfl⟩ := Left.split hne
      have hlen : (us ++ [x]).length = us.length + 1 := by simp
      rw [hlen, cellsOf_append] at ho
      obtain ⟨g, cap, rfl, hg, hgl⟩ := ho.form (by omega)
      have c0 := ho.cellAt (us.length * 2) (by omega)
      have c1 := ho.cellAt (us.length * 2 + 1) (by omega)
      rw [List.getElem?_append_right (by rw [cellsOf_length]; exact Nat.le_refl _), cellsOf_length, Nat.sub_self] at c0
      rw [List.getElem?_append_right (by rw [cellsOf_length]; omega), cellsOf_length, show us.length * 2 + 1 - us.length * 2 = 1 by omega] at c1
      simp only [cellsOf, List.getElem?_cons_zero, List.getElem?_cons_succ] at c0 c1
      have hus : us.length ≤ (us.map Tr.sz).sum := by
        clear ho hts hk hkn HB HR c0 c1 hne hlen
        induction us with
        | nil => simp
        | cons u r ih => have := u.sz_pos; simp only [List.length_cons, List.map_cons, List.sum_cons]; omega
      have hk' : (us.map Tr.sz).sum + x.sz = gk := by rw [← hk]; simp
      have hcap : us.length + 1 ≤ cap := by
        rcases ho.2 with ⟨h, _⟩ | ⟨g', cap', cur, h, _, _, h1, _⟩
        · cases h
        · cases h; exact h1
      have hop : wr.ownsRow (w.heap.size + 1) 24 2 (.slice (some ⟨g, 0, none⟩) us.length cap) us.length (cellsOf us) := ownsRow_pop (cellsOf_length us) ho
      obtain ⟨xin, xbl, xr⟩ := hts x (by simp)
      have HT : Hid (∀ u, u ∈ us → u.In wr ∧ u.Bl (· < w.heap.size + 1) ∧ u.right) := fun u hu => hts u (by simp [hu])
      have i1 : (us.length : Int) < ((us.length : Int) + 1) := by omega
      have n1 : (us.length : Int) ≤ 1000000000 := by omega
      have n2 : (us.length : Int) ≤ (cap : Int) := by omega
      have n3 : (0 : Int) ≤ (us.length : Int) := by omega
      have hgne : g ≠ wr.heap.size := by omega
      clear ho hts hne hlen HR
      by_cases hx0 : x.k = 0
      · rw [hx0] at c0
        go_wp2_with fail
        go_ret
        refine ⟨?_, hbr.alloc hbr.size _⟩
        rw [HB.out, List.all_append, List.all_cons, sure_no x hx0]
        simp
      · have hx1 : (x.k == 0) = false := by simpa using hx0
        have HX : Hid (x.k ≠ 0) := hx0
        clear hx0
        rcases xr.cases with ⟨xl, xk⟩ | ⟨y, z, xl, xk, ry, rz⟩
        · rw [xl] at c1
          simp only [List.length_nil] at c1
          have HQ : Hid (x.l = []) := xl
          have hbb : Below w.heap.size w (wr.alloc (.cells #[.int .i64 x.k, .slice x.a 0 x.c] 24)) := hbr.alloc hbr.size _
          have HO : Hid (Left (w.heap.size + 1) B 1000000000 ((us.map Tr.sz).sum) (.slice (some ⟨g, 0, none⟩) us.length cap) (wr.alloc (.cells #[.int .i64 x.k, .slice x.a 0 x.c] 24)).drew) := by
            refine ⟨us, (hop.alloc _).drew, fun u hu => ?_, rfl, by omega, ?_⟩
            · obtain ⟨u1, u2, u3⟩ := HT.out u hu
              exact ⟨u1.below (((Below.refl _ _).alloc (Nat.le_refl _) _).drew), u2, u3⟩
            · rw [HB.out, List.all_append, List.all_cons, sure_leaf x xl HX.out]
              simp
          clear xl xk xin xbl xr HT HB
          go_wp2_with fail
          go_region_law ((refine step_append_void (by rfl) _ _ _ (by rfl) 24 i0 Try.underlying22 hi0 g us.length cap (by rfl) x.a x.c (by rfl) (by omega) ?_))
          go_wp2_with fail
          go_roundg ((us.map Tr.sz).sum)
          case measure => have := x.sz_pos; omega
          case rel => exact ⟨_, rfl, HO, hbb.drew⟩
        · obtain ⟨xb, xo, xa, y0, y1, yin⟩ := xin.part 0 (by simp [xl])
          obtain ⟨xb', xo', xa', z0, z1, zin⟩ := xin.part 1 (by simp [xl])
          rw [xa] at xa'
          obtain ⟨rfl, rfl⟩ : xb = xb' ∧ xo = xo' := by simpa using xa'
          simp only [xl, List.getElem_cons_zero, List.getElem_cons_succ] at y0 y1 z0 z1 yin zin
          have hnews : ∀ j u, (cellsOf [y, z])[j]? = some u → (wr.alloc (.cells #[.int .i64 x.k, .slice (some ⟨xb, xo, none⟩) 2 x.c] 24)).drew.cell? ((⟨xb, xo, none⟩ : Addr).add j) = some u := by
            have hbb : Below wr.heap.size wr (wr.alloc (.cells #[.int .i64 x.k, .slice (some ⟨xb, xo, none⟩) 2 x.c] 24)).drew := ((Below.refl _ _).alloc (Nat.le_refl _) _).drew
            intro j u hj
            match j, hj with
            | 0, hj => simp [cellsOf] at hj; subst hj; exact cell_later hbb (by simpa [Addr.add] using y0)
            | 1, hj => simp [cellsOf] at hj; subst hj; exact cell_later hbb (by simpa [Addr.add] using y1)
            | 2, hj => simp [cellsOf] at hj; subst hj; exact cell_later hbb (by simpa [Addr.add] using z0)
            | 3, hj => simp [cellsOf] at hj; subst hj; exact cell_later hbb (by simpa [Addr.add] using z1)
            | j + 4, hj => simp [cellsOf] at hj
          rw [xa, xl] at c1
          simp only [List.length_cons, List.length_nil, Nat.zero_add, Nat.reduceAdd] at c1
          have HQ : Hid (x.l = [y, z]) := xl
          have HN : Hid (∀ j u, (cellsOf [y, z])[j]? = some u → (wr.alloc (.cells #[.int .i64 x.k, .slice (some ⟨xb, xo, none⟩) 2 x.c] 24)).drew.cell? ((⟨xb, xo, none⟩ : Addr).add j) = some u) := hnews
          have HY : Hid (y.Bl (· < w.heap.size + 1) ∧ z.Bl (· < w.heap.size + 1)) := by
            obtain ⟨xk', xa'', xc', xl'⟩ := x
            dsimp only at xl
            subst xl
            exact ⟨(Tr.Bl_mk.1 xbl).2 y (by simp), (Tr.Bl_mk.1 xbl).2 z (by simp)⟩
          clear xl xk xin xbl xr xa xa' y0 y1 z0 z1 hnews
          go_wp2_with fail
          go_region_law
            ((refine step_append_lies _ (by rfl) _ _ _ (by rfl) (w.heap.size + 1) 24 i0 _ 2 32 Try.underlying22 hi0 hz0 hz1 hz2 rfl (by omega) (.slice (some ⟨g, 0, none⟩) us.length cap) us.length (cellsOf us) (by rfl) ((hop.alloc _).drew)
                ⟨xb, xo, none⟩ 2 x.c (cellsOf [y, z]) (by rfl) (by rfl) HN.out (by simp [cellsOf, Value.oneCell'])
                (by omega) (by unfold maxLen; omega) (by omega) (by simp; omega) (wr.heap.size + 1) (by simp) ?_; intro gg cap1 w1 hown1 hgrow hat hlt))
          have hbg : Below (w.heap.size + 1) wr w1 := (((Below.refl _ _).alloc (by omega) _).drew).grown hgrow (by simp; omega) (fun k hk => by simp [Value.ownBlock] at hk; omega)
          have HO : Hid (Left (w.heap.size + 1) B 1000000000 (((us ++ [y, z]).map Tr.sz).sum) (.slice (some ⟨gg, 0, none⟩) (us.length + 2) cap1) w1) := by
            refine ⟨us ++ [y, z], ?_, fun u hu => ?_, rfl, ?_, ?_⟩
            · rw [cellsOf_append, List.length_append]
              exact hown1
            · rcases List.mem_append.1 hu with hu | hu
              · obtain ⟨u1, u2, u3⟩ := HT.out u hu
                exact ⟨u1.congr (P := (· < w.heap.size + 1)) (fun b hb o => hbg.cell (p := ⟨b, o, none⟩) hb) u2, u2, u3⟩
              · rcases List.mem_cons.1 hu with rfl | hu
                · exact ⟨yin.congr (P := (· < w.heap.size + 1)) (fun b hb o => hbg.cell (p := ⟨b, o, none⟩) hb) HY.out.1, HY.out.1, ry⟩
                · rcases List.mem_cons.1 hu with rfl | hu
                  · exact ⟨zin.congr (P := (· < w.heap.size + 1)) (fun b hb o => hbg.cell (p := ⟨b, o, none⟩) hb) HY.out.2, HY.out.2, rz⟩
                  · cases hu
            · have hsz := Tr.sz_two x y z HQ.out
              simp only [List.map_append, List.sum_append_nat, List.map_cons, List.map_nil, List.sum_cons, List.sum_nil]
              omega
            · rw [HB.out, List.all_append, List.all_append, List.all_cons, List.all_cons, List.all_cons, sure_two x y z HQ.out HX.out]
              simp
          have hb1 : Below w.heap.size w w1 := hbr.trans (hbg.mono (by omega))
          have hms : (((us ++ [y, z]).map Tr.sz).sum) < gk := by
            have hsz := Tr.sz_two x y z HQ.out
            simp only [List.map_append, List.sum_append_nat, List.map_cons, List.map_nil, List.sum_cons, List.sum_nil]
            omega
          clear hown1 hgrow hat hbg
          go_wp2_with fail
          go_roundg (((us ++ [y, z]).map Tr.sz).sum)
          case measure => exact hms
          case rel => exact ⟨_, rfl, HO, hb1⟩
end Go.Proofs.Ytnddkmccagiclaa

/-
  What the calls of chaperoneref.IsRight and chaperoneref.SureOf answer at a tree that lies in memory.
-/
namespace Go.Proofs.Ytnddkmccagiclaa
open Go.RowKit

/-- One of the four kinds, of as many parts as it has. -/
def topR (k : Int) (m : Nat) : Bool := decide (0 ≤ k) && decide (k ≤ 2) && ((m : Int) == 0) || (k == 3 && (m : Int) == 2)

/-- Right, as a Bool. -/
def rightY : Ty → Bool
  | ⟨k, l⟩ => topR k l.length && (l.map fun t => rightY t).all id
theorem rightY_mk (k : Int) (l : List Ty) : rightY ⟨k, l⟩ = (topR k l.length && l.all rightY) := by
  rw [rightY, List.all_map]
  rfl

theorem take_all (f : Ty → Bool) (l : List Tr) (j : Nat) (h : j < l.length) : ((l.take (j + 1)).all fun t => f t.ty) = (((l.take j).all fun t => f t.ty) && f l[j].ty) := by
  rw [List.take_succ_eq_append_getElem h, List.all_append]
  simp

theorem right_ty (t : Tr) : rightY t.ty = (topR t.k t.l.length && t.l.all fun t => rightY t.ty) := by
  obtain ⟨k, a, c, l⟩ := t
  rw [Tr.ty_mk, rightY_mk, List.length_map, List.all_map]
  rfl

theorem sure_ty (t : Tr) : sureY t.ty = (t.k != 0 && t.l.all fun t => sureY t.ty) := by
  obtain ⟨k, a, c, l⟩ := t
  rw [Tr.ty_mk, sureY_mk, List.all_map]
  rfl

set_option maxHeartbeats 1000000 in
theorem sureOf_step (n : Nat) (x : Tr) (A : Option Addr) (HA : Hid (A = x.a)) (w : World) (hx : x.In w) (hh : x.hgt ≤ n + 1) (hs : x.sm)
    (ih : Hid (∀ (x : Tr) (w : World), x.In w → x.hgt ≤ n → x.sm → Calls Try.prog 26 #[.agg #[.int .i64 x.k, .slice x.a x.l.length x.c]] w fun e w' => e = .returned (.bool (sureY x.ty)) ∧ Below w.heap.size w w')) :
    Calls Try.prog 26 #[.agg #[.int .i64 x.k, .slice A x.l.length x.c]] w fun e w' => e = .returned (.bool (sureY x.ty)) ∧ Below w.heap.size w w' := by
  have hlen := hs.len
  have hb0 : Below w.heap.size w (w.alloc (.cells #[.int .i64 x.k, .slice A x.l.length x.c] 24)) := (Below.refl _ _).alloc (Nat.le_refl _) _
  go_enter Try.func26, Try.ntmps26
  go_wp2_with fail
  go_loopg [3, 12] x.l.length (fun g b i wr => ∃ (j : Nat) (c : Bool), j ≤ x.l.length ∧ g = x.l.length - j ∧ b = .bool c ∧ i = .int .i64 (j : Int) ∧ Below w.heap.size w wr ∧ Hid (c = (x.k != 0 && (x.l.take j).all fun t => sureY t.ty)))
  case atStart => exact ⟨0, _, Nat.zero_le _, rfl, rfl, rfl, hb0, by show _ = _; simp⟩
  case round =>
    obtain ⟨j, c, hj, hg, rfl, rfl, hbwr, HC⟩ := hrel
    have HG : Hid (gk = x.l.length - j) := hg
    clear hg
    by_cases hlt : j < x.l.length
    · obtain ⟨b, o, ea, x0, x1, hxj⟩ := hx.part j hlt
      have eA : A = some ⟨b, o, none⟩ := HA.out.trans ea
      subst eA
      clear ea HA
      replace x0 := cell_later hbwr x0
      replace x1 := cell_later hbwr x1
      have i1 : (j : Int) < (x.l.length : Int) := by omega
      have i0 : (0 : Int) ≤ (j : Int) := by omega
      have lb : b < wr.heap.size := World.block_lt_of_cell? _ _ x0
      obtain ⟨r, hr⟩ : ∃ r, sureY x.l[j].ty = r := ⟨_, rfl⟩
      have HI : Hid (∀ (w : World), x.l[j].In w → Calls Try.prog 26 #[.agg #[.int .i64 x.l[j].k, .slice x.l[j].a x.l[j].l.length x.l[j].c]] w fun e w' => e = .returned (.bool r) ∧ Below w.heap.size w w') := by
        intro w h1
        have := ih.out x.l[j] w h1 (Tr.hgt_part hh j hlt) (hs.part j hlt)
        rw [hr] at this
        exact this
      have HR : Hid (sureY x.l[j].ty = r) := hr
      clear hr
      have HT : Hid ((x.k != 0 && (x.l.take (j + 1)).all fun t => sureY t.ty) = ((x.k != 0 && (x.l.take j).all fun t => sureY t.ty) && r)) := by
        show _ = _
        rw [take_all sureY x.l j hlt, HR.out, Bool.and_assoc]
      have hba : Below w.heap.size w (wr.alloc (.cells #[.int .i64 x.l[j].k, .slice x.l[j].a x.l[j].l.length x.l[j].c] 24)) := hbwr.alloc hbwr.size _
      cases c
      · have HN : Hid (false = (x.k != 0 && (x.l.take (j + 1)).all fun t => sureY t.ty)) := by show _ = _; rw [HT.out, ← HC.out]; rfl
        clear HT HC HI HR ih
        go_wp2_with fail
        go_roundg (x.l.length - (j + 1))
        case measure => rw [HG.out]; omega
        case rel => exact ⟨j + 1, false, by omega, rfl, rfl, by go_num, hba, HN⟩
      · have HN : Hid (r = (x.k != 0 && (x.l.take (j + 1)).all fun t => sureY t.ty)) := by show _ = _; rw [HT.out, ← HC.out]; rfl
        clear HT HC HR ih
        go_wp2_with fail
        refine (HI.out _ (hxj.below hba)).mono ?_
        rintro e w2 ⟨rfl, hb2⟩
        have hb3 := hba.trans (hb2.mono hba.size)
        clear hb2 hba HI x0 x1
        go_wp2_with fail
        go_roundg (x.l.length - (j + 1))
        case measure => rw [HG.out]; omega
        case rel => exact ⟨j + 1, r, by omega, rfl, rfl, by go_num, hb3, HN⟩
    · have HN : Hid (c = sureY x.ty) := by
        show _ = _
        rw [HC.out, sure_ty, List.take_of_length_le (by omega)]
      clear HC
      go_wp2_with fail
      go_ret
      exact ⟨by rw [← HN.out]; rfl, hbwr⟩

theorem sureOf_any (n : Nat) : ∀ (x : Tr) (w : World), x.In w → x.hgt ≤ n → x.sm → Calls Try.prog 26 #[.agg #[.int .i64 x.k, .slice x.a x.l.length x.c]] w fun e w' => e = .returned (.bool (sureY x.ty)) ∧ Below w.heap.size w w' := by
  induction n with
  | zero =>
    intro x w _ h
    have := x.hgt_pos
    omega
  | succ n ih =>
    intro x w hx h hs
    exact sureOf_step n x x.a rfl w hx h hs (fun x w hx h hs => ih x w hx h hs)

set_option maxHeartbeats 1000000 in
theorem isRight_step (n : Nat) (x : Tr) (A : Option Addr) (HA : Hid (A = x.a)) (w : World) (hx : x.In w) (hh : x.hgt ≤ n + 1) (hs : x.sm)
    (ih : Hid (∀ (x : Tr) (w : World), x.In w → x.hgt ≤ n → x.sm → Calls Try.prog 13 #[.agg #[.int .i64 x.k, .slice x.a x.l.length x.c]] w fun e w' => e = .returned (.bool (rightY x.ty)) ∧ Below w.heap.size w w')) :
    Calls Try.prog 13 #[.agg #[.int .i64 x.k, .slice A x.l.length x.c]] w fun e w' => e = .returned (.bool (rightY x.ty)) ∧ Below w.heap.size w w' := by
  have hlen := hs.len
  have hb0 : Below w.heap.size w (w.alloc (.cells #[.int .i64 x.k, .slice A x.l.length x.c] 24)) := (Below.refl _ _).alloc (Nat.le_refl _) _
  go_enter Try.func13, Try.ntmps13
  go_upto_region 1 with fail
  go_cut [3] (fun s3 wx => s3 = .bool (topR x.k x.l.length) ∧ wx = w.alloc (.cells #[.int .i64 x.k, .slice A x.l.length x.c] 24))
  case first =>
    by_cases k0 : 0 ≤ x.k
    · by_cases k2 : x.k ≤ 2
      · have e3 : (x.k == 3) = false := by simp; omega
        cases m0 : ((x.l.length : Int) == 0) with
        | true =>
          go_wp2_with fail
          go_meet
          case rel => exact ⟨by simp [topR, k0, k2, m0], rfl⟩
        | false =>
          go_wp2_with fail
          go_meet
          case rel => exact ⟨by simp [topR, m0, e3], rfl⟩
      · have d2 : decide (x.k ≤ 2) = false := by simpa using k2
        cases e3 : (x.k == 3) with
        | true =>
          go_wp2_with fail
          go_meet
          case rel => exact ⟨by simp [topR, d2, e3], rfl⟩
        | false =>
          go_wp2_with fail
          go_meet
          case rel => exact ⟨by simp [topR, d2, e3], rfl⟩
    · have d0 : decide (0 ≤ x.k) = false := by simpa using k0
      have e3 : (x.k == 3) = false := by simp; omega
      go_wp2_with fail
      go_meet
      case rel => exact ⟨by simp [topR, d0, e3], rfl⟩
  case rest =>
  obtain ⟨h3, hwc⟩ := hcut
  subst h3 hwc
  go_wp2_with fail
  go_loopg [3, 34] x.l.length (fun g b i wr => ∃ (j : Nat) (c : Bool), j ≤ x.l.length ∧ g = x.l.length - j ∧ b = .bool c ∧ i = .int .i64 (j : Int) ∧ Below w.heap.size w wr ∧ Hid (c = (topR x.k x.l.length && (x.l.take j).all fun t => rightY t.ty)))
  case atStart => exact ⟨0, _, Nat.zero_le _, rfl, rfl, rfl, hb0, by show _ = _; simp⟩
  case round =>
    obtain ⟨j, c, hj, hg, rfl, rfl, hbwr, HC⟩ := hrel
    have HG : Hid (gk = x.l.length - j) := hg
    clear hg
    by_cases hlt : j < x.l.length
    · obtain ⟨b, o, ea, x0, x1, hxj⟩ := hx.part j hlt
      have eA : A = some ⟨b, o, none⟩ := HA.out.trans ea
      subst eA
      clear ea HA
      replace x0 := cell_later hbwr x0
      replace x1 := cell_later hbwr x1
      have i1 : (j : Int) < (x.l.length : Int) := by omega
      have i0 : (0 : Int) ≤ (j : Int) := by omega
      have lb : b < wr.heap.size := World.block_lt_of_cell? _ _ x0
      obtain ⟨r, hr⟩ : ∃ r, rightY x.l[j].ty = r := ⟨_, rfl⟩
      have HI : Hid (∀ (w : World), x.l[j].In w → Calls Try.prog 13 #[.agg #[.int .i64 x.l[j].k, .slice x.l[j].a x.l[j].l.length x.l[j].c]] w fun e w' => e = .returned (.bool r) ∧ Below w.heap.size w w') := by
        intro w h1
        have := ih.out x.l[j] w h1 (Tr.hgt_part hh j hlt) (hs.part j hlt)
        rw [hr] at this
        exact this
      have HR : Hid (rightY x.l[j].ty = r) := hr
      clear hr
      have HT : Hid ((topR x.k x.l.length && (x.l.take (j + 1)).all fun t => rightY t.ty) = ((topR x.k x.l.length && (x.l.take j).all fun t => rightY t.ty) && r)) := by
        show _ = _
        rw [take_all rightY x.l j hlt, HR.out, Bool.and_assoc]
      have hba : Below w.heap.size w (wr.alloc (.cells #[.int .i64 x.l[j].k, .slice x.l[j].a x.l[j].l.length x.l[j].c] 24)) := hbwr.alloc hbwr.size _
      cases c
      · have HN : Hid (false = (topR x.k x.l.length && (x.l.take (j + 1)).all fun t => rightY t.ty)) := by show _ = _; rw [HT.out, ← HC.out]; rfl
        clear HT HC HI HR ih
        go_wp2_with fail
        go_roundg (x.l.length - (j + 1))
        case measure => rw [HG.out]; omega
        case rel => exact ⟨j + 1, false, by omega, rfl, rfl, by go_num, hba, HN⟩
      · have HN : Hid (r = (topR x.k x.l.length && (x.l.take (j + 1)).all fun t => rightY t.ty)) := by show _ = _; rw [HT.out, ← HC.out]; rfl
        clear HT HC HR ih
        go_wp2_with fail
        refine (HI.out _ (hxj.below hba)).mono ?_
        rintro e w2 ⟨rfl, hb2⟩
        have hb3 := hba.trans (hb2.mono hba.size)
        clear hb2 hba HI x0 x1
        go_wp2_with fail
        go_roundg (x.l.length - (j + 1))
        case measure => rw [HG.out]; omega
        case rel => exact ⟨j + 1, r, by omega, rfl, rfl, by go_num, hb3, HN⟩
    · have HN : Hid (c = rightY x.ty) := by
        show _ = _
        rw [HC.out, right_ty, List.take_of_length_le (by omega)]
      clear HC
      go_wp2_with fail
      go_ret
      exact ⟨by rw [← HN.out]; rfl, hbwr⟩

theorem isRight_any (n : Nat) : ∀ (x : Tr) (w : World), x.In w → x.hgt ≤ n → x.sm → Calls Try.prog 13 #[.agg #[.int .i64 x.k, .slice x.a x.l.length x.c]] w fun e w' => e = .returned (.bool (rightY x.ty)) ∧ Below w.heap.size w w' := by
  induction n with
  | zero =>
    intro x w _ h
    have := x.hgt_pos
    omega
  | succ n ih =>
    intro x w hx h hs
    exact isRight_step n x x.a rfl w hx h hs (fun x w hx h hs => ih x w hx h hs)
end Go.Proofs.Ytnddkmccagiclaa

/-
  What the calls of chaperoneref.DeepOf and chaperoneref.IsType answer at a tree that lies in memory.
-/
namespace Go.Proofs.Ytnddkmccagiclaa
open Go.RowKit

/-- The most levels of a list's trees. -/
def most (l : List Tr) : Nat := (l.map Tr.hgt).foldr max 0

theorem most_append : ∀ (l r : List Tr), most (l ++ r) = max (most l) (most r)
  | [], r => by simp [most]
  | t :: l, r => by
    have := most_append l r
    simp only [most, List.cons_append, List.map_cons, List.foldr_cons] at this ⊢
    rw [this]; omega

theorem most_take (l : List Tr) (j : Nat) (h : j < l.length) : most (l.take (j + 1)) = max (most (l.take j)) l[j].hgt := by
  rw [List.take_succ_eq_append_getElem h, most_append]
  simp [most]

theorem most_le (l : List Tr) (j : Nat) : most (l.take j) ≤ most l := by
  have h := most_append (l.take j) (l.drop j)
  rw [List.take_append_drop] at h
  omega

theorem hgt_most (t : Tr) : t.hgt = most t.l + 1 := by
  obtain ⟨k, a, c, l⟩ := t
  rw [Tr.hgt_mk]
  rfl

set_option maxHeartbeats 1000000 in
theorem deepOf_step (n : Nat) (hn : n ≤ 1000000000) (x : Tr) (A : Option Addr) (HA : Hid (A = x.a)) (w : World) (hx : x.In w) (hh : x.hgt ≤ n + 1) (hs : x.sm)
    (ih : Hid (∀ (x : Tr) (w : World), x.In w → x.hgt ≤ n → x.sm → Calls Try.prog 29 #[.agg #[.int .i64 x.k, .slice x.a x.l.length x.c]] w fun e w' => e = .returned (.int .i64 (x.hgt : Int)) ∧ Below w.heap.size w w')) :
    Calls Try.prog 29 #[.agg #[.int .i64 x.k, .slice A x.l.length x.c]] w fun e w' => e = .returned (.int .i64 (x.hgt : Int)) ∧ Below w.heap.size w w' := by
  have hlen := hs.len
  have hm := hgt_most x
  have HM : Hid (x.hgt = most x.l + 1) := hm
  have hmn : most x.l ≤ n := by omega
  clear hm
  have hb0 : Below w.heap.size w (w.alloc (.cells #[.int .i64 x.k, .slice A x.l.length x.c] 24)) := (Below.refl _ _).alloc (Nat.le_refl _) _
  go_enter Try.func29, Try.ntmps29
  go_wp2_with fail
  go_loopg [3, 9] x.l.length (fun g b i wr => ∃ (j m : Nat), j ≤ x.l.length ∧ g = x.l.length - j ∧ b = .int .i64 (m : Int) ∧ i = .int .i64 (j : Int) ∧ Below w.heap.size w wr ∧ Hid (m = most (x.l.take j)))
  case atStart => exact ⟨0, 0, Nat.zero_le _, rfl, rfl, rfl, hb0, rfl⟩
  case round =>
    obtain ⟨j, m, hj, hg, rfl, rfl, hbwr, HC⟩ := hrel
    have HG : Hid (gk = x.l.length - j) := hg
    clear hg
    have hmm : m ≤ n := by have := most_le x.l j; rw [HC.out]; omega
    by_cases hlt : j < x.l.length
    · obtain ⟨b, o, ea, x0, x1, hxj⟩ := hx.part j hlt
      have eA : A = some ⟨b, o, none⟩ := HA.out.trans ea
      subst eA
      clear ea HA
      replace x0 := cell_later hbwr x0
      replace x1 := cell_later hbwr x1
      have i1 : (j : Int) < (x.l.length : Int) := by omega
      have i0 : (0 : Int) ≤ (j : Int) := by omega
      have lb : b < wr.heap.size := World.block_lt_of_cell? _ _ x0
      obtain ⟨r, hr⟩ : ∃ r, x.l[j].hgt = r := ⟨_, rfl⟩
      have HI : Hid (∀ (w : World), x.l[j].In w → Calls Try.prog 29 #[.agg #[.int .i64 x.l[j].k, .slice x.l[j].a x.l[j].l.length x.l[j].c]] w fun e w' => e = .returned (.int .i64 (r : Int)) ∧ Below w.heap.size w w') := by
        intro w h1
        have := ih.out x.l[j] w h1 (Tr.hgt_part hh j hlt) (hs.part j hlt)
        rw [hr] at this
        exact this
      have HT : Hid (most (x.l.take (j + 1)) = max m r) := by
        show _ = _
        rw [most_take x.l j hlt, hr, ← HC.out]
      clear hr
      have hba : Below w.heap.size w (wr.alloc (.cells #[.int .i64 x.l[j].k, .slice x.l[j].a x.l[j].l.length x.l[j].c] 24)) := hbwr.alloc hbwr.size _
      clear HC ih
      go_wp2_with fail
      refine (HI.out _ (hxj.below hba)).mono ?_
      rintro e w2 ⟨rfl, hb2⟩
      have hb3 := hba.trans (hb2.mono hba.size)
      clear hb2 hba HI x0 x1
      rcases Nat.lt_or_ge m r with hmr | hmr
      · have hmi : (m : Int) < (r : Int) := by omega
        have HE : Hid (r = most (x.l.take (j + 1))) := by show _ = _; rw [HT.out]; omega
        go_wp2_with fail
        go_roundg (x.l.length - (j + 1))
        case measure => rw [HG.out]; omega
        case rel => exact ⟨j + 1, r, by omega, rfl, rfl, by go_num, hb3, HE⟩
      · have hmi : (r : Int) ≤ (m : Int) := by omega
        have HE : Hid (m = most (x.l.take (j + 1))) := by show _ = _; rw [HT.out]; omega
        go_wp2_with fail
        go_roundg (x.l.length - (j + 1))
        case measure => rw [HG.out]; omega
        case rel => exact ⟨j + 1, m, by omega, rfl, rfl, by go_num, hb3, HE⟩
    · have HN : Hid (m + 1 = x.hgt) := by
        show _ = _
        rw [HC.out, HM.out, List.take_of_length_le (by omega)]
      clear HC HM
      go_wp2_with fail
      go_ret
      exact ⟨by rw [← HN.out]; rfl, hbwr⟩

/-- chaperoneref.DeepOf. -/
theorem deepOf_any (n : Nat) : n ≤ 1000000000 → ∀ (x : Tr) (w : World), x.In w → x.hgt ≤ n → x.sm → Calls Try.prog 29 #[.agg #[.int .i64 x.k, .slice x.a x.l.length x.c]] w fun e w' => e = .returned (.int .i64 (x.hgt : Int)) ∧ Below w.heap.size w w' := by
  induction n with
  | zero =>
    intro _ x w _ h
    have := x.hgt_pos
    omega
  | succ n ih =>
    intro hn x w hx h hs
    exact deepOf_step n (by omega) x x.a rfl w hx h hs (fun x w hx h hs => ih (by omega) x w hx h hs)
end Go.Proofs.Ytnddkmccagiclaa
