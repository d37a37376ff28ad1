/-
  Two parts that were joined, one behind the other, make what their whole comes to: the plain laws of it.
-/
import Derived.Test.YtaaplpcpifdnfaaGenHole
namespace Go.Proofs.Ytaaplpcpifdnfaa
open Go.RowKit

theorem join_parts {x y x0 x1 y0 y1 : Tr} (hx : x.l = [x0, x1]) (hy : y.l = [y0, y1]) (kx : x.k = 3) (ky : y.k = 3) : joinY x.ty y.ty = ⟨3, [joinY x0.ty y0.ty, joinY x1.ty y1.ty]⟩ := by
  obtain ⟨k, a, c, l⟩ := x
  obtain ⟨k', a', c', l'⟩ := y
  dsimp only at hx hy kx ky
  subst hx hy kx ky
  simp [Tr.ty_mk, joinY_mk, joinL]

theorem JoinS.two {R B n : Nat} {x y x0 x1 y0 y1 : Tr} {ib io P : Nat} {ps qs0 qs1 : List Pr} {o o1 o2 : Option Nat} {D0 D1 : Nat → Nat → Prop} {w W1 wa wb : World} (hp : JPre R B ib io ps o w) (hx : x.l = [x0, x1]) (hy : y.l = [y0, y1]) (kx : x.k = 3) (ky : y.k = 3) (hb : Below w.heap.size w W1) (hP : w.heap.size ≤ P) (hP1 : P < W1.heap.size)
    (j0 : JoinS R B n x0 y0 P 0 ps o W1.drew qs0 o1 D0 wa) (j1 : JoinS R B n x1 y1 P 2 (ps ++ qs0) o1 wa.drew qs1 o2 D1 wb) :
    JoinS R B (n + 1) x y ib io ps o w (qs0 ++ qs1) o2 (fun k c => D0 k c ∨ D1 k c ∨ Two ib io k c) ((wb.setCell ⟨ib, io, none⟩ (.int .i64 3)).setCell ⟨ib, io + 1, none⟩ (.slice (some ⟨P, 0, none⟩) 2 2)) := by
  have hib := hp.lt
  have hR := hp.l.lt
  have hRB := hp.c
  have hibB := hp.b
  have s0 : W1.heap.size ≤ wa.heap.size := j0.k.size
  have s1 : wa.heap.size ≤ wb.heap.size := j1.k.size
  have s2 := hb.size
  have hs4 : ((wb.setCell ⟨ib, io, none⟩ (.int .i64 3)).setCell ⟨ib, io + 1, none⟩ (.slice (some ⟨P, 0, none⟩) 2 2)).heap.size = wb.heap.size := by simp [World.setCell]
  have hoP : some P ≠ o := fun e => by have := hp.l.own P e.symm; omega
  have hoP1 : some P ≠ o1 := j0.g.ne (w := W1.drew) hP1 hoP
  have hoP2 : some P ≠ o2 := j1.g.ne (w := wa.drew) (show P < wa.heap.size by omega) hoP1
  have hoi1 : some ib ≠ o1 := j0.g.ne (w := W1.drew) (show ib < W1.heap.size by omega) hp.o
  have hoi2 : some ib ≠ o2 := j1.g.ne (w := wa.drew) (show ib < wa.heap.size by omega) hoi1
  -- the cells that the first made are as they were behind the second
  have k0 : ∀ k c, D0 k c → wb.cell? ⟨k, c, none⟩ = wa.cell? ⟨k, c, none⟩ ∧ wb.frozen? ⟨k, c, none⟩ = wa.frozen? ⟨k, c, none⟩ := by
    intro k c hD
    rcases j0.d k c hD with ⟨rfl, hc⟩ | ⟨h1, h2, h3⟩
    · exact ⟨j1.k.same (w := wa.drew) (show k < wa.heap.size by omega) (by omega) hoP1 (fun _ => by omega), j1.k.fz (w := wa.drew) (show k < wa.heap.size by omega) (by omega) hoP1⟩
    · have h1' : W1.heap.size ≤ k := h1
      exact ⟨j1.k.same (w := wa.drew) h2 (by omega) h3 (fun e => by omega), j1.k.fz (w := wa.drew) h2 (by omega) h3⟩
  have kset : ∀ k c, k ≠ ib → ((wb.setCell ⟨ib, io, none⟩ (.int .i64 3)).setCell ⟨ib, io + 1, none⟩ (.slice (some ⟨P, 0, none⟩) 2 2)).cell? ⟨k, c, none⟩ = wb.cell? ⟨k, c, none⟩ ∧ ((wb.setCell ⟨ib, io, none⟩ (.int .i64 3)).setCell ⟨ib, io + 1, none⟩ (.slice (some ⟨P, 0, none⟩) 2 2)).frozen? ⟨k, c, none⟩ = wb.frozen? ⟨k, c, none⟩ := by
    intro k c hk
    constructor
    · rw [World.cell?_setCell_other, World.cell?_setCell_other]
      · intro e; simp only [Addr.mk.injEq] at e; omega
      · intro e; simp only [Addr.mk.injEq] at e; omega
    · rw [World.frozen?_setCell, World.frozen?_setCell]
  have n0 : ∀ k c, D0 k c → w.heap.size ≤ k ∧ k < wa.heap.size ∧ ((k = P ∧ (c = 0 ∨ c = 1)) ∨ W1.heap.size ≤ k) ∧ some k ≠ o1 := by
    intro k c hD
    rcases j0.d k c hD with ⟨rfl, hc⟩ | ⟨h1, h2, h3⟩
    · exact ⟨hP, by omega, .inl ⟨rfl, hc⟩, hoP1⟩
    · have h1' : W1.heap.size ≤ k := h1
      exact ⟨by omega, h2, .inr h1', h3⟩
  have n1 : ∀ k c, D1 k c → w.heap.size ≤ k ∧ k < wb.heap.size ∧ ((k = P ∧ (c = 2 ∨ c = 3)) ∨ wa.heap.size ≤ k) ∧ some k ≠ o2 := by
    intro k c hD
    rcases j1.d k c hD with ⟨rfl, hc⟩ | ⟨h1, h2, h3⟩
    · exact ⟨hP, by omega, .inl ⟨rfl, hc⟩, hoP2⟩
    · have h1' : wa.heap.size ≤ k := h1
      exact ⟨by omega, h2, .inr h1', h3⟩
  have hdis : ∀ k c, D0 k c → D1 k c → False := by
    intro k c h0 h1
    obtain ⟨_, a2, a3, _⟩ := n0 k c h0
    obtain ⟨_, b2, b3, _⟩ := n1 k c h1
    rcases a3 with ⟨e, ec⟩ | a3
    · rcases b3 with ⟨_, ed⟩ | b3
      · omega
      · omega
    · rcases b3 with ⟨e, ed⟩ | b3
      · omega
      · omega
  have hq0 : ∀ h, h ∈ qs0 → Hole D0 wa h := fun h hh => (j0.q h hh).2.2
  have hq1 : ∀ h, h ∈ qs1 → Hole D1 wb h := fun h hh => (j1.q h hh).2.2
  have hbB : Below B w W1.drew := (hb.mono (by omega)).drew
  have hL1 : Lst R ps o W1.drew := hp.l.below hb.drew
  have hla : Below B W1.drew wa := j0.k.low hL1 hRB (by omega)
  have hbBa : Below B w wa.drew := (hbB.trans hla).drew
  refine ⟨?_, ?_, ?_, ?_, ?_, ?_, ?_, ?_⟩
  · rw [← List.append_assoc]
    exact j1.l.set hp.r hoi2
  · exact (j0.g.trans j1.g s0).later s2
  · have hblk : ∀ k, k < w.heap.size → k ≠ R → some k ≠ o → wb.heap[k]? = w.heap[k]? := by
      intro k hk h1 h2
      have h3 : some k ≠ o1 := j0.g.ne (w := W1.drew) (show k < W1.heap.size by omega) h2
      exact ((j1.k.block k (show k < wa.heap.size by omega) h1 h3 (by omega)).trans (j0.k.block k (show k < W1.heap.size by omega) h1 h2 (by omega))).trans (hb.block k hk)
    refine ⟨j1.k.os.trans (j0.k.os.trans hb.os), j1.k.tape.trans (j0.k.tape.trans hb.tape), j1.k.output.trans (j0.k.output.trans hb.output), by omega, fun k hk h1 h2 h3 => ?_, fun c h0 h1 => ?_, fun c => ?_⟩
    · rw [Below.heap_setCell _ _ _ _ h3, Below.heap_setCell _ _ _ _ h3]
      exact hblk k hk h1 h2
    · rw [World.cell?_setCell_other, World.cell?_setCell_other]
      · exact World.cell?_of_block (a := ⟨ib, c, none⟩) (hblk ib hib hp.r hp.o)
      · intro e; simp only [Addr.mk.injEq] at e; omega
      · intro e; simp only [Addr.mk.injEq] at e; omega
    · rw [World.frozen?_setCell, World.frozen?_setCell]
      exact World.frozen?_of_block (a := ⟨ib, c, none⟩) (hblk ib hib hp.r hp.o)
  · intro q hq
    rcases List.mem_append.1 hq with hq | hq
    · obtain ⟨⟨a1, a2⟩, ⟨a3, a4⟩, a5⟩ := j0.q q hq
      refine ⟨⟨a1.back hbB, a2⟩, ⟨a3.back hbB, a4⟩, a5.later (fun k c h => .inl h) fun k c h => ?_⟩
      have h1 := kset k c (by have := (n0 k c h).1; omega)
      have h2 := k0 k c h
      exact ⟨h1.1.trans h2.1, h1.2.trans h2.2⟩
    · obtain ⟨⟨a1, a2⟩, ⟨a3, a4⟩, a5⟩ := j1.q q hq
      refine ⟨⟨a1.back hbBa, a2⟩, ⟨a3.back hbBa, a4⟩, a5.later (fun k c h => .inr (.inl h)) fun k c h => kset k c (by have := (n1 k c h).1; omega)⟩
  · refine List.pairwise_append.2 ⟨j0.a, j1.a, fun h hh h' hh' b i i' e e' => ?_⟩
    obtain ⟨b0, i0, g0, d0, d0', _⟩ := hq0 h hh
    obtain ⟨b1, i1, g1, d1, d1', _⟩ := hq1 h' hh'
    rw [e] at g0
    rw [e'] at g1
    cases g0
    cases g1
    obtain ⟨_, a2, a3, _⟩ := n0 _ _ d0
    obtain ⟨_, b2, b3, _⟩ := n1 _ _ d1
    rcases a3 with ⟨e, ec⟩ | a3
    · rcases b3 with ⟨_, ed⟩ | b3
      · have h1 := (n0 _ _ d0').2.2.1
        omega
      · omega
    · rcases b3 with ⟨e, ed⟩ | b3
      · omega
      · omega
  · rw [szs_append, Tr.sz_two x x0 x1 hx]
    have h1 := j0.s
    have h2 := j1.s
    omega
  · intro k c hD
    rcases hD with hD | hD | hD
    · obtain ⟨a1, a2, a3, a4⟩ := n0 k c hD
      exact .inr ⟨a1, by omega, j1.g.ne (w := wa.drew) a2 a4⟩
    · obtain ⟨a1, a2, a3, a4⟩ := n1 k c hD
      exact .inr ⟨a1, by omega, a4⟩
    · exact .inl hD
  · intro W hW hf
    have f0 : Filled R W P 0 (joinY x0.ty y0.ty) := by
      refine j0.v W (fun k c hD hh => ?_) fun h hh => hf h (List.mem_append_left _ hh)
      have hn := (n0 k c hD).1
      rw [hW k c (.inl hD) ?_, (kset k c (by omega)).1, (k0 k c hD).1]
      rintro ⟨h, hm, i, e, hc⟩
      rcases List.mem_append.1 hm with hm | hm
      · exact hh ⟨h, hm, i, e, hc⟩
      · exact hdis k c hD (Hole.hit hq1 ⟨h, hm, i, e, hc⟩)
    have f1 : Filled R W P 2 (joinY x1.ty y1.ty) := by
      refine j1.v W (fun k c hD hh => ?_) fun h hh => hf h (List.mem_append_right _ hh)
      have hn := (n1 k c hD).1
      rw [hW k c (.inr (.inl hD)) ?_, (kset k c (by omega)).1]
      rintro ⟨h, hm, i, e, hc⟩
      rcases List.mem_append.1 hm with hm | hm
      · exact hdis k c (Hole.hit hq0 ⟨h, hm, i, e, hc⟩) hD
      · exact hh ⟨h, hm, i, e, hc⟩
    have hno : ∀ c, ¬ Hit (qs0 ++ qs1) ib c := by
      rintro c ⟨h, hm, i, e, hc⟩
      rcases List.mem_append.1 hm with hm | hm
      · have := (n0 _ _ (Hole.hit hq0 ⟨h, hm, i, e, hc⟩)).1
        omega
      · have := (n1 _ _ (Hole.hit hq1 ⟨h, hm, i, e, hc⟩)).1
        omega
    obtain ⟨t0, e0, i0, b0, c0, c1⟩ := f0
    obtain ⟨t1, e1, i1, b1, c2, c3⟩ := f1
    have hcib0 : wb.cell? ⟨ib, io, none⟩ = some (.int .i64 0) := by
      rw [j1.k.same (w := wa.drew) (show ib < wa.heap.size by omega) hp.r hoi1 (fun e => by omega)]
      exact (j0.k.same (w := W1.drew) (show ib < W1.heap.size by omega) hp.r hp.o (fun e => by omega)).trans (cell_later hb.drew hp.z0)
    have hcib1 : wb.cell? ⟨ib, io + 1, none⟩ = some (.slice none 0 0) := by
      rw [j1.k.same (w := wa.drew) (show ib < wa.heap.size by omega) hp.r hoi1 (fun e => by omega)]
      exact (j0.k.same (w := W1.drew) (show ib < W1.heap.size by omega) hp.r hp.o (fun e => by omega)).trans (cell_later hb.drew hp.z1)
    have hc := set_cells (u := .int .i64 3) (v := .slice (some ⟨P, 0, none⟩) 2 2) hcib0 hcib1
    refine ⟨.mk 3 (some ⟨P, 0, none⟩) 2 [t0, t1], ?_, Tr.In_two c0 c1 c2 c3 i0 i1, Tr.Bl_two (by omega) b0 b1, ?_, ?_⟩
    · rw [join_parts hx hy kx ky, Tr.ty_mk, ← e0, ← e1]
      rfl
    · rw [hW ib io (.inr (.inr ⟨rfl, .inl rfl⟩)) (hno _)]
      exact hc.1
    · rw [hW ib (io + 1) (.inr (.inr ⟨rfl, .inr rfl⟩)) (hno _)]
      exact hc.2

/-- What is still to be joined, while the pairs are taken one by one. -/
structure TodoJ (R B rb : Nat) (T : Ty) (w0 W0 : World) (k : Nat) (qs : List Pr) (o : Option Nat) (D : Nat → Nat → Prop) (wr : World) : Prop where
  l : Lst R qs o wr
  s : szs qs = k
  z : k ≤ 1000000000
  q : ∀ q, q ∈ qs → (q.x.At B w0 ∧ q.x.right) ∧ (q.y.At B w0 ∧ q.y.right) ∧ Hole D wr q
  a : qs.Pairwise Apart
  d : ∀ k c, D k c → rb ≤ k ∧ k < wr.heap.size ∧ k ≠ R ∧ some k ≠ o
  v : Wand R D wr rb 0 T qs
  b : Below rb W0 wr

theorem TodoJ.step {R B rb n : Nat} {T : Ty} {w0 W0 : World} {k : Nat} {us qs : List Pr} {q : Pr} {o o2 : Option Nat} {D D' : Nat → Nat → Prop} {wr w2 w4 : World} {b i : Nat} (h : TodoJ R B rb T w0 W0 k (us ++ [q]) o D wr) (hR : rb ≤ R) (hBr : B ≤ rb) (h0 : Below B w0 W0) (he : q.p = some ⟨b, i, none⟩) (hk : Kept R none wr w2) (hl2 : Lst R us o w2) (hr : JoinS R B (n + 1) q.x q.y b i us o w2 qs o2 D' w4) :
    TodoJ R B rb T w0 W0 (szs (us ++ qs)) (us ++ qs) o2 (fun k c => D k c ∨ D' k c) w4 ∧ szs (us ++ qs) < k := by
  have hs1 := h.s
  rw [szs_append, szs_one] at hs1
  have hs2 := hr.s
  have hz := h.z
  have hs3 : szs (us ++ qs) < k := by rw [szs_append]; omega
  have hRl := h.l.lt
  have z2 := hk.size
  have z4 := hr.k.size
  have hqh : Hole D wr q := (h.q q (by simp)).2.2
  obtain ⟨b', i', e', db0, db1, _⟩ := hqh
  rw [he] at e'
  cases e'
  have hb0 := h.d _ _ db0
  -- the holes that are left lie apart from this one
  have hap : ∀ p, p ∈ us → Apart p q := fun p hp => (List.pairwise_append.1 h.a).2.2 p hp q (List.mem_singleton.2 rfl)
  have hus : ∀ p, p ∈ us → Hole D wr p := fun p hp => (h.q p (List.mem_append_left _ hp)).2.2
  have hfar : ∀ k c, Hit us k c → ¬ Two b i k c := by
    rintro k c ⟨p, hp, j, e, hc⟩ ⟨rfl, hd⟩
    have := hap p hp _ _ _ e he
    omega
  -- what lies in D is as it was, but for this hole
  have hc2 : ∀ k c, D k c → w2.cell? ⟨k, c, none⟩ = wr.cell? ⟨k, c, none⟩ ∧ w2.frozen? ⟨k, c, none⟩ = wr.frozen? ⟨k, c, none⟩ := by
    intro k c hD
    obtain ⟨_, d2, d3, _⟩ := h.d k c hD
    have hh := hk.block k d2 d3 (by simp)
    exact ⟨World.cell?_of_block (a := ⟨k, c, none⟩) hh, World.frozen?_of_block (a := ⟨k, c, none⟩) hh⟩
  have hc4 : ∀ k c, D k c → ¬ Two b i k c → w4.cell? ⟨k, c, none⟩ = wr.cell? ⟨k, c, none⟩ ∧ w4.frozen? ⟨k, c, none⟩ = wr.frozen? ⟨k, c, none⟩ := by
    intro k c hD hn
    obtain ⟨_, d2, d3, d4⟩ := h.d k c hD
    refine ⟨(hr.k.same (by omega) d3 d4 fun e => ?_).trans (hc2 k c hD).1, (hr.k.fz (by omega) d3 d4).trans (hc2 k c hD).2⟩
    subst e
    exact ⟨fun e => hn ⟨rfl, .inl e⟩, fun e => hn ⟨rfl, .inr e⟩⟩
  have hlow : Below rb wr w2 := (hk.below (fun g e => by cases e) (by omega)).mono hR
  have hb2 : Below rb W0 w2 := h.b.trans hlow
  have hbb : Below B w0 w2 := h0.trans (hb2.mono hBr)
  have hlow4 : Below rb w2 w4 := hr.k.low hl2 hR hb0.1
  have hqs : ∀ p, p ∈ qs → Hole D' w4 p := fun p hp => (hr.q p hp).2.2
  refine ⟨⟨hr.l, rfl, by omega, fun p hp => ?_, ?_, ?_, ?_, hb2.trans hlow4⟩, hs3⟩
  · rcases List.mem_append.1 hp with hp | hp
    · obtain ⟨a1, a2, a3⟩ := h.q p (List.mem_append_left _ hp)
      refine ⟨a1, a2, ?_⟩
      obtain ⟨pb, pi, e, d0, d1, c0, c1, f0, f1⟩ := a3
      have t0 := hc4 _ _ d0 (hfar _ _ ⟨p, hp, pi, e, .inl rfl⟩)
      have t1 := hc4 _ _ d1 (hfar _ _ ⟨p, hp, pi, e, .inr rfl⟩)
      exact ⟨pb, pi, e, .inl d0, .inl d1, t0.1.trans c0, t1.1.trans c1, t0.2.trans f0, t1.2.trans f1⟩
    · obtain ⟨⟨a1, a2⟩, ⟨a3, a4⟩, a5⟩ := hr.q p hp
      exact ⟨⟨a1.back hbb, a2⟩, ⟨a3.back hbb, a4⟩, a5.later (fun k c h => .inr h) fun k c _ => ⟨rfl, rfl⟩⟩
  · refine List.pairwise_append.2 ⟨(List.pairwise_append.1 h.a).1, hr.a, fun p hp p' hp' c j j' e e' => ?_⟩
    obtain ⟨b1, i1, g1, d1, d1', _⟩ := hus p hp
    obtain ⟨b2, i2, g2, d2, d2', _⟩ := hqs p' hp'
    rw [e] at g1
    rw [e'] at g2
    cases g1
    cases g2
    have a1 := (h.d _ _ d1).2.1
    rcases hr.d _ _ d2 with ⟨e1, hc⟩ | ⟨a2, _⟩
    · rcases hr.d _ _ d2' with ⟨_, hc'⟩ | ⟨a2, _⟩
      · subst e1
        have := hap p hp _ _ _ e he
        omega
      · omega
    · omega
  · intro k c hD
    rcases hD with hD | hD
    · obtain ⟨d1, d2, d3, d4⟩ := h.d k c hD
      exact ⟨d1, by omega, d3, hr.g.ne (by omega) d4⟩
    · rcases hr.d k c hD with ⟨rfl, _⟩ | ⟨a1, a2, a3⟩
      · exact ⟨hb0.1, by omega, hb0.2.2.1, hr.g.ne (by omega) hb0.2.2.2⟩
      · exact ⟨by omega, a2, by omega, a3⟩
  · intro W hW hf
    have fq : Filled R W b i (joinY q.x.ty q.y.ty) := by
      refine hr.v W (fun k c hD hh => hW k c (.inr hD) ?_) fun p hp => hf p (List.mem_append_right _ hp)
      rintro ⟨p, hp, j, e, hc⟩
      rcases List.mem_append.1 hp with hp | hp
      · have hit : Hit us k c := ⟨p, hp, j, e, hc⟩
        have hd := (h.d _ _ (Hole.hit hus hit)).2.1
        rcases hr.d k c hD with ⟨e1, e2⟩ | ⟨a1, _⟩
        · exact hfar k c hit ⟨e1, e2⟩
        · omega
      · exact hh ⟨p, hp, j, e, hc⟩
    refine h.v W (fun k c hD hh => ?_) fun p hp => ?_
    · have hnt : ¬ Two b i k c := fun ⟨e1, e2⟩ => hh ⟨q, by simp, i, by rw [he, e1], e2⟩
      rw [hW k c (.inl hD) ?_, (hc4 k c hD hnt).1]
      rintro ⟨p, hp, j, e, hc⟩
      rcases List.mem_append.1 hp with hp | hp
      · exact hh ⟨p, List.mem_append_left _ hp, j, e, hc⟩
      · have hd := (h.d _ _ hD).2.1
        rcases hr.d k c (Hole.hit hqs ⟨p, hp, j, e, hc⟩) with ⟨e1, e2⟩ | ⟨a1, _⟩
        · exact hnt ⟨e1, e2⟩
        · omega
    · rcases List.mem_append.1 hp with hp | hp
      · exact hf p (List.mem_append_left _ hp)
      · rcases List.mem_singleton.1 hp with rfl
        exact ⟨b, i, he, fq⟩
end Go.Proofs.Ytaaplpcpifdnfaa
