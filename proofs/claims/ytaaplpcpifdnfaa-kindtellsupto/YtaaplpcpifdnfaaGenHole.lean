/-
  What two types both say, while it is made with holes that are filled later: the plain laws of it.
-/
import Derived.Test.YtaaplpcpifdnfaaGenLater
import Derived.Test.YtaaplpcpifdnfaaJoinAll
namespace Go.Proofs.Ytaaplpcpifdnfaa
open Go.RowKit

/-- A tree of that type lies there, in blocks beyond R. -/
def Filled (R : Nat) (w : World) (b i : Nat) (T : Ty) : Prop :=
  ∃ t : Tr, t.ty = T ∧ t.In w ∧ t.Bl (R < ·) ∧ w.cell? ⟨b, i, none⟩ = some (.int .i64 t.k) ∧ w.cell? ⟨b, i + 1, none⟩ = some (.slice t.a t.l.length t.c)

/-- A cell of one of the holes. -/
def Hit (hs : List Pr) (k c : Nat) : Prop := ∃ h, h ∈ hs ∧ ∃ i, h.p = some ⟨k, i, none⟩ ∧ (c = i ∨ c = i + 1)

def Fills (R : Nat) (w : World) (h : Pr) : Prop := ∃ b i, h.p = some ⟨b, i, none⟩ ∧ Filled R w b i (joinY h.x.ty h.y.ty)

/-- Once the holes are filled the whole is. -/
def Wand (R : Nat) (D : Nat → Nat → Prop) (w : World) (b i : Nat) (T : Ty) (hs : List Pr) : Prop :=
  ∀ w' : World, (∀ k c, D k c → ¬ Hit hs k c → w'.cell? ⟨k, c, none⟩ = w.cell? ⟨k, c, none⟩) → (∀ h, h ∈ hs → Fills R w' h) → Filled R w' b i T

/-- A hole: two cells that nothing was written into. -/
def Hole (D : Nat → Nat → Prop) (w : World) (h : Pr) : Prop :=
  ∃ b i, h.p = some ⟨b, i, none⟩ ∧ D b i ∧ D b (i + 1) ∧ w.cell? ⟨b, i, none⟩ = some (.int .i64 0) ∧ w.cell? ⟨b, i + 1, none⟩ = some (.slice none 0 0) ∧ w.frozen? ⟨b, i, none⟩ = false ∧ w.frozen? ⟨b, i + 1, none⟩ = false

def Apart (h h' : Pr) : Prop := ∀ b i i', h.p = some ⟨b, i, none⟩ → h'.p = some ⟨b, i', none⟩ → i + 1 < i' ∨ i' + 1 < i

/-- But for block R, one row and two cells the memory is as it was. -/
structure KeptJ (R : Nat) (o : Option Nat) (ib io : Nat) (w w' : World) : Prop where
  os : w'.os = w.os
  tape : w'.tape = w.tape
  output : w'.output = w.output
  size : w.heap.size ≤ w'.heap.size
  block : ∀ k, k < w.heap.size → k ≠ R → some k ≠ o → k ≠ ib → w'.heap[k]? = w.heap[k]?
  cell : ∀ c, c ≠ io → c ≠ io + 1 → w'.cell? ⟨ib, c, none⟩ = w.cell? ⟨ib, c, none⟩
  frozen : ∀ c, w'.frozen? ⟨ib, c, none⟩ = w.frozen? ⟨ib, c, none⟩

theorem KeptJ.same {R : Nat} {o : Option Nat} {ib io : Nat} {w w' : World} (h : KeptJ R o ib io w w') {k c : Nat} (hk : k < w.heap.size) (h1 : k ≠ R) (h2 : some k ≠ o) (h3 : k = ib → c ≠ io ∧ c ≠ io + 1) : w'.cell? ⟨k, c, none⟩ = w.cell? ⟨k, c, none⟩ := by
  by_cases e : k = ib
  · subst e
    exact h.cell c (h3 rfl).1 (h3 rfl).2
  · exact World.cell?_of_block (a := ⟨k, c, none⟩) (h.block k hk h1 h2 e)

theorem KeptJ.fz {R : Nat} {o : Option Nat} {ib io : Nat} {w w' : World} (h : KeptJ R o ib io w w') {k c : Nat} (hk : k < w.heap.size) (h1 : k ≠ R) (h2 : some k ≠ o) : w'.frozen? ⟨k, c, none⟩ = w.frozen? ⟨k, c, none⟩ := by
  by_cases e : k = ib
  · subst e
    exact h.frozen c
  · exact World.frozen?_of_block (a := ⟨k, c, none⟩) (h.block k hk h1 h2 e)

theorem KeptJ.of_kept {R : Nat} {o : Option Nat} {ib io : Nat} {w w' : World} (h : Kept R o w w') (hi : ib < w.heap.size) (h1 : ib ≠ R) (h2 : some ib ≠ o) : KeptJ R o ib io w w' :=
  ⟨h.os, h.tape, h.output, h.size, fun k hk a b _ => h.block k hk a b, fun c _ _ => World.cell?_of_block (a := ⟨ib, c, none⟩) (h.block ib hi h1 h2), fun c => World.frozen?_of_block (a := ⟨ib, c, none⟩) (h.block ib hi h1 h2)⟩

theorem KeptJ.of_wrote {R : Nat} {o : Option Nat} {ib io : Nat} {w w' : World} (h : Wrote ib io w w') : KeptJ R o ib io w w' :=
  ⟨h.os, h.tape, h.output, h.size, fun k hk _ _ e => h.block k hk e, h.cell, h.frozen⟩

/-- What lies lower is as it was. -/
theorem KeptJ.low {R Q : Nat} {qs : List Pr} {o : Option Nat} {ib io : Nat} {w w' : World} (h : KeptJ R o ib io w w') (hl : Lst R qs o w) (hQ : Q ≤ R) (hi : Q ≤ ib) : Below Q w w' :=
  ⟨h.os, h.tape, h.output, h.size, fun k hk => h.block k (by have := hl.lt; omega) (by omega) (fun e => by have := hl.own k e.symm; omega) (by omega)⟩

theorem Lst.of_blocks {R : Nat} {qs : List Pr} {o : Option Nat} {w w' : World} (h : Lst R qs o w) (hR : w'.heap[R]? = w.heap[R]?) (ho : ∀ g, o = some g → w'.heap[g]? = w.heap[g]?) : Lst R qs o w' := by
  obtain ⟨⟨v, hc, hw, rfl⟩, hf⟩ := h
  refine ⟨⟨v, (World.cell?_of_block (a := ⟨R, 0, none⟩) hR).trans hc, ?_, rfl⟩, (World.frozen?_of_block (a := ⟨R, 0, none⟩) hR).trans hf⟩
  refine ⟨hw.1, ?_⟩
  rcases hw.2 with hn | ⟨g, cap, cur, rfl, h1, hgg, rest⟩
  · exact .inl hn
  · exact .inr ⟨g, cap, cur, rfl, h1, by rw [ho g rfl]; exact hgg, rest⟩

theorem Lst.wrote {R : Nat} {qs : List Pr} {o : Option Nat} {ib io : Nat} {w w' : World} (h : Lst R qs o w) (hw : Wrote ib io w w') (h1 : ib ≠ R) (h2 : some ib ≠ o) : Lst R qs o w' :=
  h.of_blocks (hw.block R h.lt (Ne.symm h1)) fun g hg => hw.block g (h.own g hg).2 (fun e => h2 (by rw [hg, e]))

theorem Lst.set {R : Nat} {qs : List Pr} {o : Option Nat} {ib io : Nat} {w : World} {u v : Value} (h : Lst R qs o w) (h1 : ib ≠ R) (h2 : some ib ≠ o) : Lst R qs o ((w.setCell ⟨ib, io, none⟩ u).setCell ⟨ib, io + 1, none⟩ v) :=
  h.of_blocks (by rw [Below.heap_setCell _ _ _ _ (Ne.symm h1), Below.heap_setCell _ _ _ _ (Ne.symm h1)]) fun g hg => by
    have : g ≠ ib := fun e => h2 (by rw [hg, e])
    rw [Below.heap_setCell _ _ _ _ this, Below.heap_setCell _ _ _ _ this]

/-- What the call of join leaves. -/
structure JoinS (R B n : Nat) (x y : Tr) (ib io : Nat) (ps : List Pr) (o : Option Nat) (w : World) (qs : List Pr) (o' : Option Nat) (D : Nat → Nat → Prop) (w' : World) : Prop where
  l : Lst R (ps ++ qs) o' w'
  g : Grew o o' w
  k : KeptJ R o ib io w w'
  q : ∀ q, q ∈ qs → (q.x.At B w ∧ q.x.right) ∧ (q.y.At B w ∧ q.y.right) ∧ Hole D w' q
  a : qs.Pairwise Apart
  s : szs qs + min n 1 ≤ x.sz
  d : ∀ k c, D k c → (k = ib ∧ (c = io ∨ c = io + 1)) ∨ (w.heap.size ≤ k ∧ k < w'.heap.size ∧ some k ≠ o')
  v : Wand R D w' ib io (joinY x.ty y.ty) qs

/-- What is asked of the place that is to be written into. -/
structure JPre (R B ib io : Nat) (ps : List Pr) (o : Option Nat) (w : World) : Prop where
  l : Lst R ps o w
  z0 : w.cell? ⟨ib, io, none⟩ = some (.int .i64 0)
  z1 : w.cell? ⟨ib, io + 1, none⟩ = some (.slice none 0 0)
  f0 : w.frozen? ⟨ib, io, none⟩ = false
  f1 : w.frozen? ⟨ib, io + 1, none⟩ = false
  r : ib ≠ R
  o : some ib ≠ o
  b : B ≤ ib
  c : B ≤ R

theorem JPre.lt {R B ib io : Nat} {ps : List Pr} {o : Option Nat} {w : World} (h : JPre R B ib io ps o w) : ib < w.heap.size := World.block_lt_of_cell? _ _ h.z0

def Two (ib io : Nat) (k c : Nat) : Prop := k = ib ∧ (c = io ∨ c = io + 1)

/-- Nothing is put off. -/
theorem JoinS.empty {R B n : Nat} {x y : Tr} {ib io : Nat} {ps : List Pr} {o : Option Nat} {w w' : World} (hp : JPre R B ib io ps o w) (hw : Wrote ib io w w') (t : Tr) (ht : t.ty = joinY x.ty y.ty) (htl : t.l = []) (c0 : w'.cell? ⟨ib, io, none⟩ = some (.int .i64 t.k)) (c1 : w'.cell? ⟨ib, io + 1, none⟩ = some (.slice t.a t.l.length t.c)) :
    JoinS R B n x y ib io ps o w [] o (Two ib io) w' := by
  refine ⟨by simpa using hp.l.wrote hw hp.r hp.o, .inl rfl, KeptJ.of_wrote hw, fun q h => (by cases h), List.Pairwise.nil, ?_, fun k c h => .inl h, fun W hW _ => ⟨t, ht, ?_, ?_, ?_, ?_⟩⟩
  · have := x.sz_pos
    simp only [szs_nil]; omega
  · obtain ⟨k, a, c, l⟩ := t
    dsimp only at htl
    subst htl
    exact Tr.In_nil _ _ _ _
  · obtain ⟨k, a, c, l⟩ := t
    dsimp only at htl
    subst htl
    exact Tr.Bl_nil _ _ _ _
  · rw [hW ib io ⟨rfl, .inl rfl⟩ (fun ⟨h, hh, _⟩ => by cases hh)]; exact c0
  · rw [hW ib (io + 1) ⟨rfl, .inr rfl⟩ (fun ⟨h, hh, _⟩ => by cases hh)]; exact c1

/-- All is put off. -/
theorem JoinS.off {R B : Nat} {x y : Tr} {ib io : Nat} {ps : List Pr} {o o' : Option Nat} {w w0 w' : World} (hp : JPre R B ib io ps o w) (hx : x.At B w) (hy : y.At B w) (rx : x.right) (ry : y.right) (hb : Below w.heap.size w w0) (hl : Lst R (ps ++ [⟨x, y, some ⟨ib, io, none⟩⟩]) o' w') (hg : Grew o o' w0) (hk : Kept R o w0 w') :
    JoinS R B 0 x y ib io ps o w [⟨x, y, some ⟨ib, io, none⟩⟩] o' (Two ib io) w' := by
  have hkk : Kept R o w w' := (Kept.of_below hb).trans (.inl rfl) hk
  have hblk := hkk.block ib hp.lt hp.r hp.o
  refine ⟨hl, hg.later hb.size, KeptJ.of_kept hkk hp.lt hp.r hp.o, fun q h => ?_, List.pairwise_singleton _ _, by simp [szs_one], fun k c h => .inl h, fun W _ hf => ?_⟩
  · rcases List.mem_singleton.1 h with rfl
    exact ⟨⟨hx, rx⟩, ⟨hy, ry⟩, ib, io, rfl, ⟨rfl, .inl rfl⟩, ⟨rfl, .inr rfl⟩, (World.cell?_of_block (a := ⟨ib, io, none⟩) hblk).trans hp.z0, (World.cell?_of_block (a := ⟨ib, io + 1, none⟩) hblk).trans hp.z1, (World.frozen?_of_block (a := ⟨ib, io, none⟩) hblk).trans hp.f0, (World.frozen?_of_block (a := ⟨ib, io + 1, none⟩) hblk).trans hp.f1⟩
  · obtain ⟨b, i, e, h⟩ := hf _ (List.mem_singleton.2 rfl)
    cases e
    exact h

theorem Hole.later {D D' : Nat → Nat → Prop} {w w' : World} {h : Pr} (hh : Hole D w h) (hD : ∀ k c, D k c → D' k c) (hc : ∀ k c, D k c → w'.cell? ⟨k, c, none⟩ = w.cell? ⟨k, c, none⟩ ∧ w'.frozen? ⟨k, c, none⟩ = w.frozen? ⟨k, c, none⟩) : Hole D' w' h := by
  obtain ⟨b, i, e, d0, d1, c0, c1, f0, f1⟩ := hh
  exact ⟨b, i, e, hD _ _ d0, hD _ _ d1, (hc _ _ d0).1.trans c0, (hc _ _ d1).1.trans c1, (hc _ _ d0).2.trans f0, (hc _ _ d1).2.trans f1⟩

theorem Hole.hit {D : Nat → Nat → Prop} {w : World} {hs : List Pr} (hh : ∀ h, h ∈ hs → Hole D w h) {k c : Nat} (h : Hit hs k c) : D k c := by
  obtain ⟨q, hq, i, e, hc⟩ := h
  obtain ⟨b, i', e', d0, d1, _⟩ := hh q hq
  rw [e] at e'
  cases e'
  rcases hc with rfl | rfl
  · exact d0
  · exact d1
end Go.Proofs.Ytaaplpcpifdnfaa
