/-
  The calls of (*later).empty and (*later).take at a list of pairs of trees.
-/
import Derived.Test.YtaaplpcpifdnfaaGenRel
namespace Go.Proofs.Ytaaplpcpifdnfaa
open Go.RowKit

theorem empty_yes (R : Nat) (o : Option Nat) (w : World) (hl : Lst R [] o w) : Calls Try.prog 35 #[.pointer (some ⟨R, 0, none⟩)] w fun e w' => e = .returned (.bool true) ∧ w' = w := by
  obtain ⟨⟨v, hc, ho, _⟩, _⟩ := hl
  rcases ho.2 with ⟨rfl, _⟩ | ⟨g, cap, cur, rfl, _⟩
  · exact empty_any R none 0 0 w hc
  · exact empty_any R _ 0 cap w hc

theorem empty_no (R : Nat) (qs : List Pr) (q : Pr) (o : Option Nat) (w : World) (hl : Lst R (qs ++ [q]) o w) : Calls Try.prog 35 #[.pointer (some ⟨R, 0, none⟩)] w fun e w' => e = .returned (.bool false) ∧ w' = w := by
  obtain ⟨g, cap, _, hc, _⟩ := hl.last
  have e : (((qs.length + 1 : Nat) : Int) == 0) = false := by simp; omega
  have h := empty_any R _ (qs.length + 1) cap w hc
  rw [e] at h
  exact h

/-- (*later).take. -/
theorem take_lst (R : Nat) (qs : List Pr) (q : Pr) (o : Option Nat) (w : World) (hl : Lst R (qs ++ [q]) o w) (hn : qs.length ≤ 1000000000) :
    Calls Try.prog 37 #[.pointer (some ⟨R, 0, none⟩)] w fun e w' => e = .returned (.agg #[.int .i64 q.x.k, .slice q.x.a q.x.l.length q.x.c, .int .i64 q.y.k, .slice q.y.a q.y.l.length q.y.c, .pointer q.p]) ∧ Lst R qs o w' ∧ Kept R none w w' := by
  obtain ⟨g, cap, rfl, hc, hcap, ho, c0, c1, c2, c3, c4⟩ := hl.last
  refine (take_any R g qs.length cap q.x.k q.y.k q.x.a q.y.a q.x.l.length q.y.l.length q.x.c q.y.c q.p w hc hl.fz hcap (by omega) c0 c1 c2 c3 c4).mono ?_
  rintro e w' ⟨rfl, rfl⟩
  have hb : Below (w.setCell ⟨R, 0, none⟩ (.slice (some ⟨g, 0, none⟩) qs.length cap)).heap.size (w.setCell ⟨R, 0, none⟩ (.slice (some ⟨g, 0, none⟩) qs.length cap)) (((w.setCell ⟨R, 0, none⟩ (.slice (some ⟨g, 0, none⟩) qs.length cap)).alloc (.cells #[.int .i64 q.x.k, .slice q.x.a q.x.l.length q.x.c, .int .i64 q.y.k, .slice q.y.a q.y.l.length q.y.c, .pointer q.p] 41)).alloc (.cells #[.int .i64 q.x.k, .slice q.x.a q.x.l.length q.x.c, .int .i64 q.y.k, .slice q.y.a q.y.l.length q.y.c, .pointer q.p] 41)) := ((Below.refl _ _).alloc (Nat.le_refl _) _).alloc (by simp) _
  have h1 : Lst R qs (some g) (w.setCell ⟨R, 0, none⟩ (.slice (some ⟨g, 0, none⟩) qs.length cap)) :=
    ⟨⟨_, World.cell?_setCell_same _ _ _ hc, ownsRow_setCell_below ho (by simp) _, rfl⟩, by rw [World.frozen?_setCell]; exact hl.fz⟩
  have h2 : Kept R none w (w.setCell ⟨R, 0, none⟩ (.slice (some ⟨g, 0, none⟩) qs.length cap)) :=
    ⟨rfl, rfl, rfl, by simp [World.setCell], fun k _ h1 _ => Below.heap_setCell _ _ _ _ h1⟩
  exact ⟨rfl, h1.below hb, h2.trans (.inl rfl) (Kept.of_below hb)⟩

/-- What is still to be looked at, while the pairs are taken one by one. -/
structure Todo (esc : Int → Int → Bool) (R : Nat) (x y : Tr) (w : World) (k : Nat) (qs : List Pr) (o : Option Nat) (wr : World) : Prop where
  l : Lst R qs o wr
  s : szs qs = k
  z : k ≤ 1000000000
  q : ∀ q, q ∈ qs → q.p = none ∧ q.x.At w.heap.size w ∧ q.y.At w.heap.size w
  i : relY esc x.ty y.ty = true ↔ ∀ q, q ∈ qs → relY esc q.x.ty q.y.ty = true
  b : Below w.heap.size w wr

theorem Todo.step {esc : Int → Int → Bool} {R n : Nat} {x y : Tr} {w : World} {k : Nat} {us : List Pr} {q : Pr} {o o2 : Option Nat} {wr w2 w3 w4 : World} {qs : List Pr} (h : Todo esc R x y w k (us ++ [q]) o wr) (hR : w.heap.size ≤ R) (hk : Kept R none wr w2) (hb : Below w2.heap.size w2 w3) (hl3 : Lst R us o w3) (hr : RelS esc R w.heap.size (n + 1) q.x q.y us o w3 true qs o2 w4) :
    Todo esc R x y w (szs (us ++ qs)) (us ++ qs) o2 w4 ∧ szs (us ++ qs) < k := by
  have hs1 := h.s
  rw [szs_append, szs_one] at hs1
  have hs2 := hr.s
  have hz := h.z
  have hs3 : szs (us ++ qs) < k := by rw [szs_append]; omega
  have hlt := h.l.lt
  have hlt3 := hl3.lt
  have hss := hk.size
  have hb1 : Below w.heap.size wr w2 := (hk.below (fun g e => by cases e) (by omega)).mono hR
  have hbb : Below w.heap.size w w3 := h.b.trans (hb1.trans (hb.mono (by have := h.b.size; omega)))
  refine ⟨⟨hr.l, rfl, by omega, fun p hp => ?_, ?_, hbb.trans (hr.k.low hl3 hR)⟩, hs3⟩
  · rcases List.mem_append.1 hp with hp | hp
    · exact h.q p (List.mem_append_left _ hp)
    · obtain ⟨h1, h2, h3⟩ := hr.q p hp
      exact ⟨h1, h2.back hbb, h3.back hbb⟩
  · refine h.i.trans ⟨fun ha p hp => ?_, fun ha p hp => ?_⟩
    · rcases List.mem_append.1 hp with hp | hp
      · exact ha p (List.mem_append_left _ hp)
      · exact (hr.i.1 (ha q (by simp))).2 p hp
    · rcases List.mem_append.1 hp with hp | hp
      · exact ha p (List.mem_append_left _ hp)
      · rcases List.mem_singleton.1 hp with rfl
        exact hr.i.2 ⟨rfl, fun q hq => ha q (List.mem_append_right _ hq)⟩

theorem Todo.no {esc : Int → Int → Bool} {R n : Nat} {x y : Tr} {w : World} {k : Nat} {us : List Pr} {q : Pr} {o o2 : Option Nat} {wr w2 w3 w4 : World} {qs : List Pr} (h : Todo esc R x y w k (us ++ [q]) o wr) (hR : w.heap.size ≤ R) (hk : Kept R none wr w2) (hb : Below w2.heap.size w2 w3) (hl3 : Lst R us o w3) (hr : RelS esc R w.heap.size (n + 1) q.x q.y us o w3 false qs o2 w4) :
    relY esc x.ty y.ty = false ∧ Below w.heap.size w w4 := by
  have hlt := h.l.lt
  have hss := hk.size
  have hb1 : Below w.heap.size wr w2 := (hk.below (fun g e => by cases e) (by omega)).mono hR
  have hbb : Below w.heap.size w w3 := h.b.trans (hb1.trans (hb.mono (by have := h.b.size; omega)))
  refine ⟨?_, hbb.trans (hr.k.low hl3 hR)⟩
  cases hh : relY esc x.ty y.ty with
  | false => rfl
  | true =>
    have := (hr.i.1 (h.i.1 hh q (by simp))).1
    cases this
end Go.Proofs.Ytaaplpcpifdnfaa
