/-
  Trees that stand for Go values of the type 'Term', with the addresses at which their lists lie, and what it means that such a tree lies in a world; no program in it.
-/
import Derived.Test.YtibjnkpmnimgoaaDoorSpec
import Derived.Test.YtibjnkpmnimgoaaDoorLater
namespace Go.Proofs.YtibjnkpmnimgoaaDoor
open Go.RowKit

/-- A term: its kind, its number, its types, where its list lies, the list's capacity, its parts. -/
structure TT where
  k : Int
  n : Int
  t : Tr
  f : Tr
  a : Option Addr
  c : Nat
  l : List TT

theorem TT.ind {P : TT → Prop} (h : ∀ k n t f a c l, (∀ x, x ∈ l → P x) → P ⟨k, n, t, f, a, c, l⟩) : ∀ t, P t
  | ⟨k, n, t, f, a, c, l⟩ => h k n t f a c l fun x _ => TT.ind h x

def TT.tm : TT → Tm
  | ⟨k, n, t, f, _, _, l⟩ => ⟨k, n, t.ty, f.ty, l.map fun x => x.tm⟩

theorem TT.tm_mk (k n : Int) (t f : Tr) (a : Option Addr) (c : Nat) (l : List TT) : (TT.mk k n t f a c l).tm = ⟨k, n, t.ty, f.ty, l.map TT.tm⟩ := by
  rw [TT.tm]

theorem TT.tm_k (x : TT) : x.tm.k = x.k := by cases x; rw [TT.tm_mk]
theorem TT.tm_n (x : TT) : x.tm.n = x.n := by cases x; rw [TT.tm_mk]
theorem TT.tm_t (x : TT) : x.tm.t = x.t.ty := by cases x; rw [TT.tm_mk]
theorem TT.tm_f (x : TT) : x.tm.f = x.f.ty := by cases x; rw [TT.tm_mk]
theorem TT.tm_l (x : TT) : x.tm.l = x.l.map TT.tm := by cases x; rw [TT.tm_mk]

/-- The value. -/
def TT.ag (x : TT) : Value := .agg #[.int .i64 x.k, .int .i64 x.n, .int .i64 x.t.k, .slice x.t.a x.t.l.length x.t.c, .int .i64 x.f.k, .slice x.f.a x.f.l.length x.f.c, .slice x.a x.l.length x.c]

/-- Its seven cells lie there. -/
structure At7 (w : World) (b o : Nat) (x : TT) : Prop where
  c0 : w.cell? ⟨b, o, none⟩ = some (.int .i64 x.k)
  c1 : w.cell? ⟨b, o + 1, none⟩ = some (.int .i64 x.n)
  c2 : w.cell? ⟨b, o + 2, none⟩ = some (.int .i64 x.t.k)
  c3 : w.cell? ⟨b, o + 3, none⟩ = some (.slice x.t.a x.t.l.length x.t.c)
  c4 : w.cell? ⟨b, o + 4, none⟩ = some (.int .i64 x.f.k)
  c5 : w.cell? ⟨b, o + 5, none⟩ = some (.slice x.f.a x.f.l.length x.f.c)
  c6 : w.cell? ⟨b, o + 6, none⟩ = some (.slice x.a x.l.length x.c)

theorem At7.of {w w' : World} {b o : Nat} {x : TT} (h : At7 w b o x) (e : ∀ i, w'.cell? ⟨b, i, none⟩ = w.cell? ⟨b, i, none⟩) : At7 w' b o x :=
  ⟨(e _).trans h.c0, (e _).trans h.c1, (e _).trans h.c2, (e _).trans h.c3, (e _).trans h.c4, (e _).trans h.c5, (e _).trans h.c6⟩

theorem At7.lt {w : World} {b o : Nat} {x : TT} (h : At7 w b o x) : b < w.heap.size := World.block_lt_of_cell? _ _ h.c0

theorem At7.below {w w' : World} {b o : Nat} {x : TT} (hb : Below w.heap.size w w') (h : At7 w b o x) : At7 w' b o x :=
  h.of fun _ => hb.cell (p := ⟨b, _, none⟩) h.lt

/-- The term's types and its parts lie in the world. -/
def TT.In (w : World) : TT → Prop
  | ⟨_, _, t, f, a, _, l⟩ => t.In w ∧ f.In w ∧ (∀ j (h : j < l.length), ∃ b o, a = some ⟨b, o, none⟩ ∧ At7 w b (o + j * 7) l[j]) ∧ ∀ x, x ∈ l → x.In w

theorem TT.In_mk {w : World} {k n : Int} {t f : Tr} {a : Option Addr} {c : Nat} {l : List TT} : (TT.mk k n t f a c l).In w ↔ t.In w ∧ f.In w ∧ (∀ j (h : j < l.length), ∃ b o, a = some ⟨b, o, none⟩ ∧ At7 w b (o + j * 7) l[j]) ∧ ∀ x, x ∈ l → x.In w := by
  rw [TT.In]

theorem TT.In.t {w : World} {x : TT} (h : x.In w) : x.t.In w := by cases x; exact (TT.In_mk.1 h).1
theorem TT.In.f {w : World} {x : TT} (h : x.In w) : x.f.In w := by cases x; exact (TT.In_mk.1 h).2.1

/-- Part j: where it lies. -/
theorem TT.In.part {w : World} {x : TT} (h : x.In w) (j : Nat) (hj : j < x.l.length) : ∃ b o, x.a = some ⟨b, o, none⟩ ∧ At7 w b (o + j * 7) x.l[j] ∧ x.l[j].In w := by
  obtain ⟨k, n, t, f, a, c, l⟩ := x
  obtain ⟨_, _, hc, hi⟩ := TT.In_mk.1 h
  obtain ⟨b, o, e, c0⟩ := hc j hj
  exact ⟨b, o, e, c0, hi _ (List.getElem_mem hj)⟩

theorem TT.In.mem {w : World} {x y : TT} (h : x.In w) (hy : y ∈ x.l) : y.In w := by
  obtain ⟨k, n, t, f, a, c, l⟩ := x
  exact (TT.In_mk.1 h).2.2.2 y hy

theorem TT.In.below {w w' : World} (hb : Below w.heap.size w w') {x : TT} : x.In w → x.In w' := by
  induction x using TT.ind with
  | h k n t f a c l ih =>
    intro h
    obtain ⟨ht, hf, hc, hi⟩ := TT.In_mk.1 h
    refine TT.In_mk.2 ⟨ht.below hb, hf.below hb, fun j hj => ?_, fun x hx => ih x hx (hi x hx)⟩
    obtain ⟨b, o, e, c0⟩ := hc j hj
    exact ⟨b, o, e, c0.below hb⟩

/-- The blocks in which its types and parts lie are of this kind. -/
def TT.Bl (P : Nat → Prop) : TT → Prop
  | ⟨_, _, t, f, a, _, l⟩ => t.Bl P ∧ f.Bl P ∧ (l ≠ [] → ∀ x, a = some x → P x.block) ∧ ∀ x, x ∈ l → x.Bl P

theorem TT.Bl_mk {P : Nat → Prop} {k n : Int} {t f : Tr} {a : Option Addr} {c : Nat} {l : List TT} : (TT.mk k n t f a c l).Bl P ↔ t.Bl P ∧ f.Bl P ∧ (l ≠ [] → ∀ x, a = some x → P x.block) ∧ ∀ x, x ∈ l → x.Bl P := by
  rw [TT.Bl]

theorem TT.Bl.t {P : Nat → Prop} {x : TT} (h : x.Bl P) : x.t.Bl P := by cases x; exact (TT.Bl_mk.1 h).1
theorem TT.Bl.f {P : Nat → Prop} {x : TT} (h : x.Bl P) : x.f.Bl P := by cases x; exact (TT.Bl_mk.1 h).2.1
theorem TT.Bl.mem {P : Nat → Prop} {x y : TT} (h : x.Bl P) (hy : y ∈ x.l) : y.Bl P := by
  obtain ⟨k, n, t, f, a, c, l⟩ := x
  exact (TT.Bl_mk.1 h).2.2.2 y hy
theorem TT.Bl.own {P : Nat → Prop} {x : TT} (h : x.Bl P) (hl : x.l ≠ []) (y : Addr) (hy : x.a = some y) : P y.block := by
  obtain ⟨k, n, t, f, a, c, l⟩ := x
  exact (TT.Bl_mk.1 h).2.2.1 hl y hy

theorem TT.Bl.mono {P Q : Nat → Prop} (hPQ : ∀ b, P b → Q b) {x : TT} : x.Bl P → x.Bl Q := by
  induction x using TT.ind with
  | h k n t f a c l ih =>
    intro h
    obtain ⟨ht, hf, h1, h2⟩ := TT.Bl_mk.1 h
    exact TT.Bl_mk.2 ⟨ht.mono hPQ, hf.mono hPQ, fun hl x hx => hPQ _ (h1 hl x hx), fun x hx => ih x hx (h2 x hx)⟩

theorem TT.Bl.and {P Q : Nat → Prop} {x : TT} : x.Bl P → x.Bl Q → x.Bl (fun b => P b ∧ Q b) := by
  induction x using TT.ind with
  | h k n t f a c l ih =>
    intro h g
    obtain ⟨ht, hf, h1, h2⟩ := TT.Bl_mk.1 h
    obtain ⟨gt, gf, g1, g2⟩ := TT.Bl_mk.1 g
    exact TT.Bl_mk.2 ⟨ht.and gt, hf.and gf, fun hl x hx => ⟨h1 hl x hx, g1 hl x hx⟩, fun x hx => ih x hx (h2 x hx) (g2 x hx)⟩

theorem TT.In.bl {w : World} {x : TT} : x.In w → x.Bl (· < w.heap.size) := by
  induction x using TT.ind with
  | h k n t f a c l ih =>
    intro h
    obtain ⟨ht, hf, hc, hi⟩ := TT.In_mk.1 h
    refine TT.Bl_mk.2 ⟨ht.bl, hf.bl, fun hl x hx => ?_, fun x hx => ih x hx (hi x hx)⟩
    obtain ⟨b, o, e, c0⟩ := hc 0 (List.length_pos_iff.2 hl)
    rw [e] at hx
    have := Option.some.inj hx
    subst this
    exact c0.lt

/-- What lies in blocks that read as they did lies there still. -/
theorem TT.In.congr {w w' : World} {P : Nat → Prop} (hP : ∀ b, P b → ∀ o, w'.cell? ⟨b, o, none⟩ = w.cell? ⟨b, o, none⟩) {x : TT} : x.Bl P → x.In w → x.In w' := by
  induction x using TT.ind with
  | h k n t f a c l ih =>
    intro hb h
    obtain ⟨ht, hf, hc, hi⟩ := TT.In_mk.1 h
    obtain ⟨bt, bf, b1, b2⟩ := TT.Bl_mk.1 hb
    refine TT.In_mk.2 ⟨ht.congr hP bt, hf.congr hP bf, fun j hj => ?_, fun x hx => ih x hx (b2 x hx) (hi x hx)⟩
    obtain ⟨b, o, e, c0⟩ := hc j hj
    have hx : P b := b1 (fun e => by rw [e] at hj; simp at hj) _ e
    exact ⟨b, o, e, c0.of (hP b hx)⟩

theorem Tr.In.keptR {w w' : World} {R : Nat} {t : Tr} (h : t.In w) (hk : Kept R none w w') (hb : t.Bl (· ≠ R)) : t.In w' := by
  refine h.congr (P := fun b => b < w.heap.size ∧ b ≠ R) ?_ (h.bl.and hb)
  rintro b ⟨h1, h2⟩ o
  exact World.cell?_of_block (a := ⟨b, o, none⟩) (hk.block b h1 h2 (by simp))

theorem TT.In.keptR {w w' : World} {R : Nat} {x : TT} (h : x.In w) (hk : Kept R none w w') (hb : x.Bl (· ≠ R)) : x.In w' := by
  refine h.congr (P := fun b => b < w.heap.size ∧ b ≠ R) ?_ (h.bl.and hb)
  rintro b ⟨h1, h2⟩ o
  exact World.cell?_of_block (a := ⟨b, o, none⟩) (hk.block b h1 h2 (by simp))

theorem At7.keptR {w w' : World} {R b o : Nat} {x : TT} (h : At7 w b o x) (hk : Kept R none w w') (hb : b ≠ R) : At7 w' b o x :=
  h.of fun i => World.cell?_of_block (a := ⟨b, i, none⟩) (hk.block b h.lt hb (by simp))

/-- A term without parts and types. -/
def tleaf (k n : Int) : TT := ⟨k, n, ⟨0, none, 0, []⟩, ⟨0, none, 0, []⟩, none, 0, []⟩
theorem tleaf_in (k n : Int) (w : World) : (tleaf k n).In w := TT.In_mk.2 ⟨Tr.In_nil _ _ _ _, Tr.In_nil _ _ _ _, fun j h => absurd h (by simp), fun t h => absurd h (by simp)⟩
theorem tleaf_bl (k n : Int) (P : Nat → Prop) : (tleaf k n).Bl P := TT.Bl_mk.2 ⟨Tr.Bl_nil _ _ _ _, Tr.Bl_nil _ _ _ _, fun h => absurd rfl h, fun t h => absurd h (by simp)⟩
theorem tleaf_tm (k n : Int) : (tleaf k n).tm = ⟨k, n, anyY, anyY, []⟩ := by simp [tleaf, TT.tm_mk, Tr.ty_mk, anyY]
end Go.Proofs.YtibjnkpmnimgoaaDoor
