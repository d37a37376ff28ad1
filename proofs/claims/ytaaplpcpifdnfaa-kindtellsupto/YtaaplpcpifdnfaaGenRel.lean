/-
  What a call that holds two trees against each other, and puts pairs off, leaves: the plain laws of it.
-/
import Derived.Test.YtaaplpcpifdnfaaGen
namespace Go.Proofs.Ytaaplpcpifdnfaa
open Go.RowKit

theorem Tr.At.back {B : Nat} {w w' : World} {t : Tr} (h : t.At B w') (hb : Below B w w') : t.At B w :=
  ⟨h.1.congr (P := (· < B)) (fun b hl o => (hb.cell (p := ⟨b, o, none⟩) hl).symm) h.2, h.2⟩

theorem Tr.sz_eq (t : Tr) : t.sz = (t.l.map Tr.sz).sum + 1 := by cases t; rw [Tr.sz_mk]

theorem sz_take (l : List Tr) (j : Nat) (h : j < l.length) : ((l.take (j + 1)).map Tr.sz).sum = ((l.take j).map Tr.sz).sum + l[j].sz := by
  rw [List.take_succ_eq_append_getElem h, List.map_append, List.sum_append]
  simp only [List.map_cons, List.map_nil, List.sum_cons, List.sum_nil, Nat.add_zero]

theorem sz_take_le : ∀ (l : List Tr) (j : Nat), ((l.take j).map Tr.sz).sum ≤ (l.map Tr.sz).sum
  | [], j => by simp
  | t :: r, 0 => by simp
  | t :: r, j + 1 => by
    have := sz_take_le r j
    simp only [List.take_succ_cons, List.map_cons, List.sum_cons]; omega

theorem len_sz : ∀ (l : List Tr), l.length ≤ (l.map Tr.sz).sum
  | [] => Nat.zero_le _
  | t :: r => by
    have h1 := len_sz r
    have h2 := t.sz_pos
    simp only [List.map_cons, List.sum_cons, List.length_cons]; omega

/-- What the call has left: its answer, and the pairs that it has put off. -/
structure RelS (esc : Int → Int → Bool) (R B n : Nat) (x y : Tr) (ps : List Pr) (o : Option Nat) (w : World) (r : Bool) (qs : List Pr) (o' : Option Nat) (w' : World) : Prop where
  l : Lst R (ps ++ qs) o' w'
  g : Grew o o' w
  k : Kept R o w w'
  q : ∀ q, q ∈ qs → q.p = none ∧ q.x.At B w ∧ q.y.At B w
  s : szs qs + min n 1 ≤ x.sz
  i : relY esc x.ty y.ty = true ↔ r = true ∧ ∀ q, q ∈ qs → relY esc q.x.ty q.y.ty = true

def Rel (esc : Int → Int → Bool) (R B n : Nat) (x y : Tr) (ps : List Pr) (o : Option Nat) (w : World) (e : Ending) (w' : World) : Prop :=
  ∃ (r : Bool) (qs : List Pr) (o' : Option Nat), e = .returned (.bool r) ∧ RelS esc R B n x y ps o w r qs o' w'

/-- While the parts are gone through. -/
structure Prog (esc : Int → Int → Bool) (R B : Nat) (x y : Tr) (j : Nat) (ps qs : List Pr) (o o' : Option Nat) (w wr : World) : Prop where
  l : Lst R (ps ++ qs) o' wr
  g : Grew o o' w
  k : Kept R o w wr
  q : ∀ q, q ∈ qs → q.p = none ∧ q.x.At B w ∧ q.y.At B w
  s : szs qs ≤ ((x.l.take j).map Tr.sz).sum
  i : (∀ q, q ∈ qs → relY esc q.x.ty q.y.ty = true) ↔ ∀ i (h : i < x.l.length) (h' : i < y.l.length), i < j → relY esc x.l[i].ty y.l[i].ty = true

theorem Prog.start {esc : Int → Int → Bool} {R B : Nat} {x y : Tr} {ps : List Pr} {o : Option Nat} {w : World} (hl : Lst R ps o w) : Prog esc R B x y 0 ps [] o o w w :=
  ⟨by simpa using hl, .inl rfl, Kept.of_below (Below.refl _ _), fun q h => (by cases h), by simp [szs], ⟨fun _ i _ _ h => absurd h (by omega), fun _ q h => by cases h⟩⟩

theorem Prog.more {esc : Int → Int → Bool} {R B n : Nat} {x y : Tr} {j : Nat} {ps qs qs2 : List Pr} {o o' o2 : Option Nat} {w wr w2 : World} (h : Prog esc R B x y j ps qs o o' w wr) (hB : B ≤ R) (hL : Lst R ps o w) (hj : j < x.l.length) {r : Bool} (hr : RelS esc R B n x.l[j] (y.l[j]?.getD x) (ps ++ qs) o' wr.drew r qs2 o2 w2) :
    Lst R (ps ++ (qs ++ qs2)) o2 w2 ∧ Grew o o2 w ∧ Kept R o w w2 ∧ (∀ q, q ∈ qs ++ qs2 → q.p = none ∧ q.x.At B w ∧ q.y.At B w) ∧ szs (qs ++ qs2) ≤ ((x.l.take (j + 1)).map Tr.sz).sum := by
  have hb : Below B w wr.drew := (h.k.low hL hB).drew
  refine ⟨by rw [← List.append_assoc]; exact hr.l, h.g.trans hr.g h.k.size, h.k.trans h.g ⟨hr.k.os, hr.k.tape, hr.k.output, hr.k.size, hr.k.block⟩, fun q hq => ?_, ?_⟩
  · rcases List.mem_append.1 hq with hq | hq
    · exact h.q q hq
    · obtain ⟨h1, h2, h3⟩ := hr.q q hq
      exact ⟨h1, h2.back hb, h3.back hb⟩
  · rw [szs_append, sz_take _ _ hj]
    have h1 := h.s
    have h2 := hr.s
    omega

theorem Prog.step {esc : Int → Int → Bool} {R B n : Nat} {x y : Tr} {j : Nat} {ps qs qs2 : List Pr} {o o' o2 : Option Nat} {w wr w2 : World} (h : Prog esc R B x y j ps qs o o' w wr) (hB : B ≤ R) (hL : Lst R ps o w) (hj : j < x.l.length) (hj' : j < y.l.length) (hr : RelS esc R B n x.l[j] y.l[j] (ps ++ qs) o' wr.drew true qs2 o2 w2) :
    Prog esc R B x y (j + 1) ps (qs ++ qs2) o o2 w w2 := by
  have hm := h.more hB hL hj (r := true) (n := n) (qs2 := qs2) (o2 := o2) (w2 := w2) (by simpa [List.getElem?_eq_getElem hj'] using hr)
  refine ⟨hm.1, hm.2.1, hm.2.2.1, hm.2.2.2.1, hm.2.2.2.2, fun hq i h1 h2 hi => ?_, fun hi q hq => ?_⟩
  · by_cases e : i = j
    · subst e
      exact hr.i.2 ⟨rfl, fun q h => hq q (List.mem_append_right _ h)⟩
    · exact h.i.1 (fun q h => hq q (List.mem_append_left _ h)) i h1 h2 (by omega)
  · rcases List.mem_append.1 hq with hq | hq
    · exact h.i.2 (fun i h1 h2 h3 => hi i h1 h2 (by omega)) q hq
    · exact (hr.i.1 (hi j hj hj' (by omega))).2 q hq

theorem Prog.no {esc : Int → Int → Bool} {R B n : Nat} {x y : Tr} {j : Nat} {ps qs qs2 : List Pr} {o o' o2 : Option Nat} {w0 w wr w2 : World} (h : Prog esc R B x y j ps qs o o' w wr) (hB : B ≤ R) (hL0 : Lst R ps o w0) (hb : Below w0.heap.size w0 w) (he : esc x.k y.k = false) (hj : j < x.l.length) (hj' : j < y.l.length) (hr : RelS esc R B n x.l[j] y.l[j] (ps ++ qs) o' wr.drew false qs2 o2 w2) :
    RelS esc R B (n + 1) x y ps o w0 false (qs ++ qs2) o2 w2 := by
  have hL := hL0.below hb
  have hm := h.more hB hL hj (r := false) (n := n) (qs2 := qs2) (o2 := o2) (w2 := w2) (by simpa [List.getElem?_eq_getElem hj'] using hr)
  have hbB : Below B w0 w := hb.mono (by have := hL0.lt; omega)
  refine ⟨hm.1, hm.2.1.later hb.size, (Kept.of_below hb).trans (.inl rfl) hm.2.2.1, fun q hq => ?_, ?_, ?_⟩
  · obtain ⟨h1, h2, h3⟩ := hm.2.2.2.1 q hq
    exact ⟨h1, h2.back hbB, h3.back hbB⟩
  · have h1 := sz_take_le x.l (j + 1)
    have h2 := x.sz_eq
    have h3 := hm.2.2.2.2
    omega
  · have hf : relY esc x.l[j].ty y.l[j].ty = false := by
      cases hh : relY esc x.l[j].ty y.l[j].ty with
      | false => rfl
      | true => exact absurd (hr.i.1 hh).1 (by simp)
    rw [relY_part_not esc x y he j hj hj' hf]
    simp

theorem Prog.yes {esc : Int → Int → Bool} {R B n : Nat} {x y : Tr} {j : Nat} {ps qs : List Pr} {o o' : Option Nat} {w0 w wr : World} (h : Prog esc R B x y j ps qs o o' w wr) (hB : B ≤ R) (hL0 : Lst R ps o w0) (hb : Below w0.heap.size w0 w) (he : esc x.k y.k = false) (hk : x.k = y.k) (hl : x.l.length = y.l.length) (hj : x.l.length ≤ j) :
    RelS esc R B (n + 1) x y ps o w0 true qs o' wr := by
  have hbB : Below B w0 w := hb.mono (by have := hL0.lt; omega)
  refine ⟨h.l, h.g.later hb.size, (Kept.of_below hb).trans (.inl rfl) h.k, fun q hq => ?_, ?_, ?_⟩
  · obtain ⟨h1, h2, h3⟩ := h.q q hq
    exact ⟨h1, h2.back hbB, h3.back hbB⟩
  · have h1 := sz_take_le x.l j
    have h2 := x.sz_eq
    have h3 := h.s
    omega
  · refine ⟨fun hr => ⟨rfl, h.i.2 fun i h1 h2 _ => ?_⟩, fun hq => relY_parts esc x y hk hl fun q h1 h2 => h.i.1 hq.2 q h1 h2 (by omega)⟩
    cases hh : relY esc x.l[i].ty y.l[i].ty with
    | true => rfl
    | false =>
      have := relY_part_not esc x y he i h1 h2 hh
      rw [hr] at this
      cases this

theorem RelS.empty {esc : Int → Int → Bool} {R B n : Nat} {x y : Tr} {ps : List Pr} {o : Option Nat} {w w' : World} {r : Bool} (hL : Lst R ps o w) (hb : Below w.heap.size w w') (hr : relY esc x.ty y.ty = r) : RelS esc R B n x y ps o w r [] o w' := by
  refine ⟨by simpa using hL.below hb, .inl rfl, Kept.of_below hb, fun q h => (by cases h), ?_, ?_⟩
  · have := x.sz_pos
    simp only [szs_nil]; omega
  · rw [hr]
    exact ⟨fun h => ⟨h, fun q h => (by cases h)⟩, fun h => h.1⟩

theorem RelS.off {esc : Int → Int → Bool} {R B : Nat} {x y : Tr} {ps : List Pr} {o o' : Option Nat} {w w0 w' : World} (hb : Below w.heap.size w w0) (hl : Lst R (ps ++ [⟨x, y, none⟩]) o' w') (hg : Grew o o' w0) (hk : Kept R o w0 w') (hx : x.At B w) (hy : y.At B w) : RelS esc R B 0 x y ps o w true [⟨x, y, none⟩] o' w' := by
  refine ⟨hl, hg.later hb.size, (Kept.of_below hb).trans (.inl rfl) hk, fun q h => ?_, by simp [szs_one], ⟨fun h => ⟨rfl, fun q hq => ?_⟩, fun h => ?_⟩⟩
  · rcases List.mem_singleton.1 h with rfl
    exact ⟨rfl, hx, hy⟩
  · rcases List.mem_singleton.1 hq with rfl
    exact h
  · exact h.2 _ (List.mem_singleton.2 rfl)
end Go.Proofs.Ytaaplpcpifdnfaa
