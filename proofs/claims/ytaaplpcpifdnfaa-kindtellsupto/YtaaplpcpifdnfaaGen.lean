/-
  A list of pairs of trees behind a pointer, and how it grows while calls go on; no program in it but the call of (*later).put.
-/
import Derived.Test.YtaaplpcpifdnfaaLater
import Derived.Test.YtaaplpcpifdnfaaSure
namespace Go.Proofs.Ytaaplpcpifdnfaa
open Go.RowKit

/-- It lies in the world, in blocks below B. -/
def Tr.At (B : Nat) (w : World) (t : Tr) : Prop := t.In w ∧ t.Bl (· < B)

theorem Tr.At.below {B : Nat} {w w' : World} {t : Tr} (h : t.At B w) (hb : Below B w w') : t.At B w' :=
  ⟨h.1.congr (P := (· < B)) (fun b hl o => hb.cell (p := ⟨b, o, none⟩) hl) h.2, h.2⟩

theorem Tr.Bl.part {P : Nat → Prop} {t : Tr} (h : t.Bl P) (j : Nat) (hj : j < t.l.length) : t.l[j].Bl P := by
  obtain ⟨k, a, c, l⟩ := t
  exact (Tr.Bl_mk.1 h).2 _ (List.getElem_mem hj)

theorem Tr.Bl.head {P : Nat → Prop} {t : Tr} (h : t.Bl P) (j : Nat) (hj : j < t.l.length) {b o : Nat} (ha : t.a = some ⟨b, o, none⟩) : P b := by
  obtain ⟨k, a, c, l⟩ := t
  exact (Tr.Bl_mk.1 h).1 (fun e => by dsimp only at hj; rw [e] at hj; simp at hj) _ ha

/-- Part j, its cells, and its block. -/
theorem Tr.At.part {B : Nat} {w : World} {t : Tr} (h : t.At B w) (j : Nat) (hj : j < t.l.length) : ∃ b o, b < B ∧ t.a = some ⟨b, o, none⟩ ∧ w.cell? ⟨b, o + j * 2, none⟩ = some (.int .i64 t.l[j].k) ∧ w.cell? ⟨b, o + j * 2 + 1, none⟩ = some (.slice t.l[j].a t.l[j].l.length t.l[j].c) ∧ t.l[j].At B w := by
  obtain ⟨b, o, ea, c0, c1, hi⟩ := h.1.part j hj
  exact ⟨b, o, h.2.head j hj ea, ea, c0, c1, hi, h.2.part j hj⟩

/-- Two trees that are gone through side by side, and where what comes of them belongs. -/
structure Pr where
  x : Tr
  y : Tr
  p : Option Addr

def Pr.cells (q : Pr) : List Value := [.int .i64 q.x.k, .slice q.x.a q.x.l.length q.x.c, .int .i64 q.y.k, .slice q.y.a q.y.l.length q.y.c, .pointer q.p]

def prCells : List Pr → List Value
  | [] => []
  | q :: r => q.cells ++ prCells r

theorem prCells_append : ∀ l r : List Pr, prCells (l ++ r) = prCells l ++ prCells r
  | [], r => rfl
  | t :: l, r => by simp only [List.cons_append, prCells, prCells_append l r, List.append_assoc]

theorem prCells_length : ∀ l : List Pr, (prCells l).length = l.length * 5
  | [] => rfl
  | t :: r => by simp only [prCells, Pr.cells, List.length_append, List.length_cons, List.length_nil, prCells_length r]; omega

/-- How many nodes the first trees have. -/
def szs (qs : List Pr) : Nat := (qs.map fun q => q.x.sz).sum

theorem szs_append (l r : List Pr) : szs (l ++ r) = szs l + szs r := by simp [szs]
theorem szs_nil : szs [] = 0 := rfl
theorem szs_one (q : Pr) : szs [q] = q.x.sz := by simp [szs]
theorem szs_len : ∀ l : List Pr, l.length ≤ szs l
  | [] => Nat.zero_le _
  | q :: r => by
    have h1 := szs_len r
    have h2 := q.x.sz_pos
    simp only [szs, List.map_cons, List.sum_cons, List.length_cons] at h1 ⊢
    omega

/-- The list lies behind block R, its row in block o. -/
structure Lst (R : Nat) (qs : List Pr) (o : Option Nat) (w : World) : Prop where
  ex : ∃ v, w.cell? ⟨R, 0, none⟩ = some v ∧ w.ownsRow (R + 1) 41 5 v qs.length (prCells qs) ∧ v.ownBlock = o
  fz : w.frozen? ⟨R, 0, none⟩ = false

/-- The row's block is the one that it was, or a new one. -/
def Grew (o o' : Option Nat) (w : World) : Prop := o' = o ∨ ∃ g, o' = some g ∧ w.heap.size ≤ g

theorem Lst.lt {R : Nat} {qs : List Pr} {o : Option Nat} {w : World} (h : Lst R qs o w) : R < w.heap.size := by
  obtain ⟨⟨v, hc, _⟩, _⟩ := h
  exact World.block_lt_of_cell? _ _ hc

theorem Lst.own {R : Nat} {qs : List Pr} {o : Option Nat} {w : World} (h : Lst R qs o w) : ∀ g, o = some g → R < g ∧ g < w.heap.size := by
  obtain ⟨⟨v, hc, ho, rfl⟩, _⟩ := h
  intro g hg
  have := ho.lt g hg
  omega

theorem ownsRow_below {w w' : World} {base : Nat} {e : TypeId} {size : Nat} {v : Value} {n : Nat} {xs : List Value} (h : w.ownsRow base e size v n xs) (hb : Below w.heap.size w w') : w'.ownsRow base e size v n xs := by
  refine ⟨h.1, ?_⟩
  rcases h.2 with hn | ⟨g, cap, cur, rfl, h1, hgg, rest⟩
  · exact .inl hn
  · exact .inr ⟨g, cap, cur, rfl, h1, by rw [hb.block g (Array.getElem?_eq_some_iff.1 hgg).1]; exact hgg, rest⟩

theorem Lst.below {R : Nat} {qs : List Pr} {o : Option Nat} {w w' : World} (h : Lst R qs o w) (hb : Below w.heap.size w w') : Lst R qs o w' := by
  have hl := h.lt
  obtain ⟨⟨v, hc, ho, e⟩, hf⟩ := h
  exact ⟨⟨v, cell_later hb hc, ownsRow_below ho hb, e⟩, (hb.frozen (p := ⟨R, 0, none⟩) hl).trans hf⟩

theorem Kept.of_below {R : Nat} {o : Option Nat} {w w' : World} (h : Below w.heap.size w w') : Kept R o w w' :=
  ⟨h.os, h.tape, h.output, h.size, fun k hk _ _ => h.block k hk⟩

theorem Kept.trans {R : Nat} {o o' : Option Nat} {w w1 w2 : World} (h : Kept R o w w1) (g : Grew o o' w) (h' : Kept R o' w1 w2) : Kept R o w w2 := by
  have hs := h.size
  refine ⟨h'.os.trans h.os, h'.tape.trans h.tape, h'.output.trans h.output, Nat.le_trans h.size h'.size, fun k hk h1 h2 => (h'.block k (by omega) h1 ?_).trans (h.block k hk h1 h2)⟩
  rcases g with rfl | ⟨g, rfl, hg⟩
  · exact h2
  · simp only [ne_eq, Option.some.injEq]; omega

theorem Grew.trans {o o' o'' : Option Nat} {w w1 : World} (h : Grew o o' w) (h' : Grew o' o'' w1) (hs : w.heap.size ≤ w1.heap.size) : Grew o o'' w := by
  rcases h' with rfl | ⟨g, rfl, hg⟩
  · exact h
  · exact .inr ⟨g, rfl, by omega⟩

theorem Grew.later {o o' : Option Nat} {w w1 : World} (h : Grew o o' w1) (hs : w.heap.size ≤ w1.heap.size) : Grew o o' w := by
  rcases h with rfl | ⟨g, rfl, hg⟩
  · exact .inl rfl
  · exact .inr ⟨g, rfl, by omega⟩

theorem Kept.cell {R : Nat} {o : Option Nat} {w w' : World} (h : Kept R o w w') {b i : Nat} {v : Value} (hc : w.cell? ⟨b, i, none⟩ = some v) (h1 : b ≠ R) (h2 : some b ≠ o) : w'.cell? ⟨b, i, none⟩ = some v :=
  (World.cell?_of_block (a := ⟨b, i, none⟩) (h.block b (World.block_lt_of_cell? _ _ hc) h1 h2)).trans hc

/-- What lies below R is as it was. -/
theorem Kept.low {R B : Nat} {qs : List Pr} {o : Option Nat} {w w' : World} (h : Kept R o w w') (hl : Lst R qs o w) (hB : B ≤ R) : Below B w w' :=
  (h.below (fun g e => Nat.le_of_lt (hl.own g e).1) (Nat.le_of_lt hl.lt)).mono hB

/-- A block that was there ahead of the list's row is none of it. -/
theorem Grew.ne {o o' : Option Nat} {w : World} {b : Nat} (h : Grew o o' w) (hb : b < w.heap.size) (hn : some b ≠ o) : some b ≠ o' := by
  rcases h with rfl | ⟨g, rfl, hg⟩
  · exact hn
  · simp only [ne_eq, Option.some.injEq]; omega

/-- (*later).put. -/
theorem put_lst (R : Nat) (qs : List Pr) (o : Option Nat) (q : Pr) (w : World) (hl : Lst R qs o w) (hn : qs.length + 1 ≤ 1000000000) :
    Calls Try.prog 34 #[.pointer (some ⟨R, 0, none⟩), .agg #[.int .i64 q.x.k, .slice q.x.a q.x.l.length q.x.c, .int .i64 q.y.k, .slice q.y.a q.y.l.length q.y.c, .pointer q.p]] w fun e w' => e = .returned (.tuple #[]) ∧ ∃ o', Lst R (qs ++ [q]) o' w' ∧ Grew o o' w ∧ Kept R o w w' := by
  obtain ⟨⟨v, hc, ho, rfl⟩, hf⟩ := hl
  refine (put_any R v qs.length (prCells qs) q.x.k q.y.k q.x.a q.y.a q.x.l.length q.y.l.length q.x.c q.y.c q.p w hc hf ho hn).mono ?_
  rintro e w' ⟨rfl, g, cap, h1, h2, h3, h4, h5⟩
  refine ⟨rfl, some g, ⟨⟨_, h1, ?_, rfl⟩, h2⟩, ?_, h5⟩
  · rw [prCells_append, List.length_append, List.length_singleton]
    exact h3
  · rcases h4 with h4 | h4
    · exact .inl h4.symm
    · exact .inr ⟨g, rfl, h4⟩

/-- The last pair of a list: its cells. -/
theorem Lst.last {R : Nat} {qs : List Pr} {q : Pr} {o : Option Nat} {w : World} (h : Lst R (qs ++ [q]) o w) :
    ∃ g cap, o = some g ∧ w.cell? ⟨R, 0, none⟩ = some (.slice (some ⟨g, 0, none⟩) (qs.length + 1) cap) ∧ qs.length + 1 ≤ cap ∧ w.ownsRow (R + 1) 41 5 (.slice (some ⟨g, 0, none⟩) qs.length cap) qs.length (prCells qs) ∧
      w.cell? ⟨g, qs.length * 5, none⟩ = some (.int .i64 q.x.k) ∧ w.cell? ⟨g, qs.length * 5 + 1, none⟩ = some (.slice q.x.a q.x.l.length q.x.c) ∧ w.cell? ⟨g, qs.length * 5 + 2, none⟩ = some (.int .i64 q.y.k) ∧ w.cell? ⟨g, qs.length * 5 + 3, none⟩ = some (.slice q.y.a q.y.l.length q.y.c) ∧ w.cell? ⟨g, qs.length * 5 + 4, none⟩ = some (.pointer q.p) := by
  obtain ⟨⟨v, hc, ho, rfl⟩, hf⟩ := h
  rw [List.length_append, List.length_singleton, prCells_append] at ho
  rcases ho.2 with ⟨_, h0⟩ | ⟨g, cap, cur, rfl, hg, _, hcap, _⟩
  · omega
  · have hlen := prCells_length qs
    have hj : ∀ j, j < 5 → w.cell? ⟨g, qs.length * 5 + j, none⟩ = q.cells[j]? := by
      intro j hj
      rw [ho.cellAt (qs.length * 5 + j) (by omega), List.getElem?_append_right (by omega), hlen, Nat.add_sub_cancel_left]
      simp only [prCells, List.append_nil]
    refine ⟨g, cap, rfl, hc, hcap, ownsRow_pop (by omega) ho, ?_, ?_, ?_, ?_, ?_⟩
    · exact hj 0 (by omega)
    · exact hj 1 (by omega)
    · exact hj 2 (by omega)
    · exact hj 3 (by omega)
    · exact hj 4 (by omega)
end Go.Proofs.Ytaaplpcpifdnfaa
