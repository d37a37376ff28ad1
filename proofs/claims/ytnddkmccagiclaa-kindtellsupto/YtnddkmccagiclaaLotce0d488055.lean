/-
  Two parts that were joined, one behind the other, make what their whole comes to: the plain laws of it.
-/
import Derived.Test.YtnddkmccagiclaaLot7a88f0409f
import Derived.Test.YtnddkmccagiclaaLotc66cf61471
import Derived.Test.YtnddkmccagiclaaLotafdcd923cf
namespace Go.Proofs.Ytnddkmccagiclaa
open Go.RowKit

theorem join_parts {x y x0 x1 y0 y1 : Tr} (hx : x.l = [x0, x1]) (hy : y.l = [y0, y1]) (kx : x.k = 3) (ky : y.k = 3) : joinY x.ty y.ty = ⟨3, [joinY x0.ty y0.ty, joinY x1.ty y1.ty]⟩ := by
  obtain ⟨k, a, c, l⟩ := x
  obtain ⟨k', a', c', l'⟩ := y
  dsimp only at hx hy kx ky
  subst hx hy kx ky
  simp [Tr.ty_mk, joinY_mk, joinL]

theorem JoinS.two {R B n : Nat} {x y x0 x1 y0 y1 : Tr} {ib io P : Nat} {ps qs0 qs1 : List Pr} {o o1 o2 : Option Nat} {D0 D1 : Nat → Nat → Prop} {w W1 wa wb : World} (hp : JPre R B ib io ps o w) (hx : x.l = [x0, x1]) (hy : y.l = [y0, y1]) (kx : x.k = 3) (ky : y.k = 3) (hb : Below w.heap.size w W1) (hP : w.heap.size ≤ P) (hP1 : P < W1.heap.size)
    (j0 : JoinS R B n x0 y0 P 0 ps o W1.drew qs0 o1 D0 wa) (j1 : JoinS R B n x1 y1 P 2 (ps ++ qs0) o1 wa.drew qs1 o2 D1 wb) :
    JoinS R B (n + 1) x y ib io ps o w (qs0 ++ qs1) o2 (fun k c => D0 k c ∨ D1 k c ∨ Two ib io k c) ((wb.setCell ⟨ib, io, none⟩ (.int .i64 3)).setCell ⟨ib, io + 1, none⟩ (.slice (some ⟨P, 0, none⟩) 2 2)) := by
  have hib := hp.lt
  have hR := hp.l.lt
  have hRB := hp.c
  have hibB := hp.b
  have s0 : W1.heap.size ≤ wa.heap.size := j0.k.size
  have s1 : wa.heap.size ≤ wb.heap.size := j1.k.size
  have s2 := hb.size
  have hs4 : ((wb.setCell ⟨ib, io, none⟩ (.int .i64 3)).setCell ⟨ib, io + 1, none⟩ (.slice (some ⟨P, 0, none⟩) 2 2)).heap.size = wb.heap.size := by simp [World.setCell]
  have hoP : some P ≠ o := fun e => by have := hp.l.own P e.symm; omega
  have hoP1 : some P ≠ o1 := j0.g.ne (w := W1.drew) hP1 hoP
  have hoP2 : some P ≠ o2 := j1.g.ne (w := wa.drew) (show P < wa.heap.size by omega) hoP1
  have hoi1 : some ib ≠ o1 := j0.g.ne (w := W1.drew) (show ib < W1.heap.size by omega) hp.o
  have hoi2 : some ib ≠ o2 := j1.g.ne (w := wa.drew) (show ib < wa.heap.size by omega) hoi1
  -- the cells that the first made are as they were behind the second
  have k0 : ∀ k c, D0 k c → wb.cell? ⟨k, c, none⟩ = wa.cell? ⟨k, c, none⟩ ∧ wb.frozen? ⟨k, c, none⟩ = wa.frozen? ⟨k, c, none⟩ := by
    intro k c hD
    rcases j0.d k c hD with ⟨rfl, hc⟩ | ⟨h1, h2, h3⟩
    · exact ⟨j1.k.same (w := wa.drew) (show k < wa.heap.size by omega) (by omega) hoP1 (fun _ => by omega), j1.k.fz (w := wa.drew) (show k < wa.heap.size by omega) (by omega) hoP1⟩
    · have h1' : W1.heap.size ≤ k := h1
      exact ⟨j1.k.same (w := wa.drew) h2 (by omega) h3 (fun e => by omega), j1.k.fz (w := wa.drew) h2 (by omega) h3⟩
  have kset : ∀ k c, k ≠ ib → ((wb.setCell ⟨ib, io, none⟩ (.int .i64 3)).setCell ⟨ib, io + 1, none⟩ (.slice (some ⟨P, 0, none⟩) 2 2)).cell? ⟨k, c, none⟩ = wb.cell? ⟨k, c, none⟩ ∧ ((wb.setCell ⟨ib, io, none⟩ (.int .i64 3)).setCell ⟨ib, io + 1, none⟩ (.slice (some ⟨P, 0, none⟩) 2 2)).frozen? ⟨k, c, none⟩ = wb.frozen? ⟨k, c, none⟩ := by
    intro k c hk
    constructor
    · rw [World.cell?_setCell_other, World.cell?_setCell_other]
      · intro e; simp only [Addr.mk.injEq] at e; omega
      · intro e; simp only [Addr.mk.injEq] at e; omega
    · rw [World.frozen?_setCell, World.frozen?_setCell]
  have n0 : ∀ k c, D0 k c → w.heap.size ≤ k ∧ k < wa.heap.size ∧ ((k = P ∧ (c = 0 ∨ c = 1)) ∨ W1.heap.size ≤ k) ∧ some k ≠ o1 := by
    intro k c hD
    rcases j0.d k c hD with ⟨rfl, hc⟩ | ⟨h1, h2, h3⟩
    · exact ⟨hP, by omega, .inl ⟨rfl, hc⟩, hoP1⟩
    · have h1' : W1.heap.size ≤ k := h1
      exact ⟨by omega, h2, .inr h1', h3⟩
  have n1 : ∀ k c, D1 k c → w.heap.size ≤ k ∧ k < wb.heap.size ∧ ((k = P ∧ (c = 2 ∨ c = 3)) ∨ wa.heap.size ≤ k) ∧ some k ≠ o2 := by
    intro k c hD
    rcases j1.d k c hD with ⟨rfl, hc⟩ | ⟨h1, h2, h3⟩
    · exact ⟨hP, by omega, .inl ⟨rfl, hc⟩, hoP2⟩
    · have h1' : wa.heap.size ≤ k := h1
      exact ⟨by omega, h2, .inr h1', h3⟩
  have hdis : ∀ k c, D0 k c → D1 k c → False := by
    intro k c h0 h1
    obtain ⟨_, a2, a3, _⟩ := n0 k c h0
    obtain ⟨_, b2, b3, _⟩ := n1 k c h1
    rcases a3 with ⟨e, ec⟩ | a3
    · rcases b3 with ⟨_, ed⟩ | b3
      · omega
      · omega
    · rcases b3 with ⟨e, ed⟩ | b3
      · omega
      · omega
  have hq0 : ∀ h, h ∈ qs0 → Hole D0 wa h := fun h hh => (j0.q h hh).2.2
  have hq1 : ∀ h, h ∈ qs1 → Hole D1 wb h := fun h hh => (j1.q h hh).2.2
  have hbB : Below B w W1.drew := (hb.mono (by omega)).drew
  have hL1 : Lst R ps o W1.drew := hp.l.below hb.drew
  have hla : Below B W1.drew wa := j0.k.low hL1 hRB (by omega)
  have hbBa : Below B w wa.drew := (hbB.trans hla).drew
  refine ⟨?_, ?_, ?_, ?_, ?_, ?_, ?_, ?_⟩
  · rw [← List.append_assoc]
    exact j1.l.set hp.r hoi2
  · exact (j0.g.trans j1.g s0).later s2
  · have hblk : ∀ k, k < w.heap.size → k ≠ R → some k ≠ o → wb.heap[k]? = w.heap[k]? := by
      intro k hk h1 h2
      have h3 : some k ≠ o1 := j0.g.ne (w := W1.drew) (show k < W1.heap.size by omega) h2
      exact ((j1.k.block k (show k < wa.heap.size by omega) h1 h3 (by omega)).trans (j0.k.block k (show k < W1.heap.size by omega) h1 h2 (by omega))).trans (hb.block k hk)
    refine ⟨j1.k.os.trans (j0.k.os.trans hb.os), j1.k.tape.trans (j0.k.tape.trans hb.tape), j1.k.output.trans (j0.k.output.trans hb.output), by omega, fun k hk h1 h2 h3 => ?_, fun c h0 h1 => ?_, fun c => ?_⟩
    · rw [Below.heap_setCell _ _ _ _ h3, Below.heap_setCell _ _ _ _ h3]
      exact hblk k hk h1 h2
    · rw [World.cell?_setCell_other, World.cell?_setCell_other]
      · exact World.cell?_of_block (a := ⟨ib, c, none⟩) (hblk ib hib hp.r hp.o)
      · intro e; simp only [Addr.mk.injEq] at e; omega
      · intro e; simp only [Addr.mk.injEq] at e; omega
    · rw [World.frozen?_setCell, World.frozen?_setCell]
      exact World.frozen?_of_block (a := ⟨ib, c, none⟩) (hblk ib hib hp.r hp.o)
  · intro q hq
    rcases List.mem_append.1 hq with hq | hq
    · obtain ⟨⟨a1, a2⟩, ⟨a3, a4⟩, a5⟩ := j0.q q hq
      refine ⟨⟨a1.back hbB, a2⟩, ⟨a3.back hbB, a4⟩, a5.later (fun k c h => .inl h) fun k c h => ?_⟩
      have h1 := kset k c (by have := (n0 k c h).1; omega)
      have h2 := k0 k c h
      exact ⟨h1.1.trans h2.1, h1.2.trans h2.2⟩
    · obtain ⟨⟨a1, a2⟩, ⟨a3, a4⟩, a5⟩ := j1.q q hq
      refine ⟨⟨a1.back hbBa, a2⟩, ⟨a3.back hbBa, a4⟩, a5.later (fun k c h => .inr (.inl h)) fun k c h => kset k c (by have := (n1 k c h).1; omega)⟩
  · refine List.pairwise_append.2 ⟨j0.a, j1.a, fun h hh h' hh' b i i' e e' => ?_⟩
    obtain ⟨b0, i0, g0, d0, d0', _⟩ := hq0 h hh
    obtain ⟨b1, i1, g1, d1, d1', _⟩ := hq1 h' hh'
    rw [e] at g0
    rw [e'] at g1
    cases g0
    cases g1
    obtain ⟨_, a2, a3, _⟩ := n0 _ _ d0
    obtain ⟨_, b2, b3, _⟩ := n1 _ _ d1
    rcases a3 with ⟨e, ec⟩ | a3
    · rcases b3 with ⟨_, ed⟩ | b3
      · have h1 := (n0 _ _ d0').2.2.1
        omega
      · omega
    · rcases b3 with ⟨e, ed⟩ | b3
      · omega
      · omega
  · rw [szs_append, Tr.sz_two x x0 x1 hx]
    have h1 := j0.s
    have h2 := j1.s
    omega
  · intro k c hD
    rcases hD with hD | hD | hD
    · obtain ⟨a1, a2, a3, a4⟩ := n0 k c hD
      exact .inr ⟨a1, by omega, j1.g.ne (w := wa.drew) a2 a4⟩
    · obtain ⟨a1, a2, a3, a4⟩ := n1 k c hD
      exact .inr ⟨a1, by omega, a4⟩
    · exact .inl hD
  · intro W hW hf
    have f0 : Filled R W P 0 (joinY x0.ty y0.ty) := by
      refine j0.v W (fun k c hD hh => ?_) fun h hh => hf h (List.mem_append_left _ hh)
      have hn := (n0 k c hD).1
      rw [hW k c (.inl hD) ?_, (kset k c (by omega)).1, (k0 k c hD).1]
      rintro ⟨h, hm, i, e, hc⟩
      rcases List.mem_append.1 hm with hm | hm
      · exact hh ⟨h, hm, i, e, hc⟩
      · exact hdis k c hD (Hole.hit hq1 ⟨h, hm, i, e, hc⟩)
    have f1 : Filled R W P 2 (joinY x1.ty y1.ty) := by
      refine j1.v W (fun k c hD hh => ?_) fun h hh => hf h (List.mem_append_right _ hh)
      have hn := (n1 k c hD).1
      rw [hW k c (.inr (.inl hD)) ?_, (kset k c (by omega)).1]
      rintro ⟨h, hm, i, e, hc⟩
      rcases List.mem_append.1 hm with hm | hm
      · exact hdis k c (Hole.hit hq0 ⟨h, hm, i, e, hc⟩) hD
      · exact hh ⟨h, hm, i, e, hc⟩
    have hno : ∀ c, ¬ Hit (qs0 ++ qs1) ib c := by
      rintro c ⟨h, hm, i, e, hc⟩
      rcases List.mem_append.1 hm with hm | hm
      · have := (n0 _ _ (Hole.hit hq0 ⟨h, hm, i, e, hc⟩)).1
        omega
      · have := (n1 _ _ (Hole.hit hq1 ⟨h, hm, i, e, hc⟩)).1
        omega
    obtain ⟨t0, e0, i0, b0, c0, c1⟩ := f0
    obtain ⟨t1, e1, i1, b1, c2, c3⟩ := f1
    have hcib0 : wb.cell? ⟨ib, io, none⟩ = some (.int .i64 0) := by
      rw [j1.k.same (w := wa.drew) (show ib < wa.heap.size by omega) hp.r hoi1 (fun e => by omega)]
      exact (j0.k.same (w := W1.drew) (show ib < W1.heap.size by omega) hp.r hp.o (fun e => by omega)).trans (cell_later hb.drew hp.z0)
    have hcib1 : wb.cell? ⟨ib, io + 1, none⟩ = some (.slice none 0 0) := by
      rw [j1.k.same (w := wa.drew) (show ib < wa.heap.size by omega) hp.r hoi1 (fun e => by omega)]
      exact (j0.k.same (w := W1.drew) (show ib < W1.heap.size by omega) hp.r hp.o (fun e => by omega)).trans (cell_later hb.drew hp.z1)
    have hc := set_cells (u := .int .i64 3) (v := .slice (some ⟨P, 0, none⟩) 2 2) hcib0 hcib1
    refine ⟨.mk 3 (some ⟨P, 0, none⟩) 2 [t0, t1], ?_, Tr.In_two c0 c1 c2 c3 i0 i1, Tr.Bl_two (by omega) b0 b1, ?_, ?_⟩
    · rw [join_parts hx hy kx ky, Tr.ty_mk, ← e0, ← e1]
      rfl
    · rw [hW ib io (.inr (.inr ⟨rfl, .inl rfl⟩)) (hno _)]
      exact hc.1
    · rw [hW ib (io + 1) (.inr (.inr ⟨rfl, .inr rfl⟩)) (hno _)]
      exact hc.2

/-- What is still to be joined, while the pairs are taken one by one. -/
structure TodoJ (R B rb : Nat) (T : Ty) (w0 W0 : World) (k : Nat) (qs : List Pr) (o : Option Nat) (D : Nat → Nat → Prop) (wr : World) : Prop where
  l : Lst R qs o wr
  s : szs qs = k
  z : k ≤ 1000000000
  q : ∀ q, q ∈ qs → (q.x.At B w0 ∧ q.x.right) ∧ (q.y.At B w0 ∧ q.y.right) ∧ Hole D wr q
  a : qs.Pairwise Apart
  d : ∀ k c, D k c → rb ≤ k ∧ k < wr.heap.size ∧ k ≠ R ∧ some k ≠ o
  v : Wand R D wr rb 0 T qs
  b : Below rb W0 wr

theorem TodoJ.step {R B rb n : Nat} {T : Ty} {w0 W0 : World} {k : Nat} {us qs : List Pr} {q : Pr} {o o2 : Option Nat} {D D' : Nat → Nat → Prop} {wr w2 w4 : World} {b i : Nat} (h : TodoJ R B rb T w0 W0 k (us ++ [q]) o D wr) (hR : rb ≤ R) (hBr : B ≤ rb) (h0 : Below B w0 W0) (he : q.p = some ⟨b, i, none⟩) (hk : Kept R none wr w2) (hl2 : Lst R us o w2) (hr : JoinS R B (n + 1) q.x q.y b i us o w2 qs o2 D' w4) :
    TodoJ R B rb T w0 W0 (szs (us ++ qs)) (us ++ qs) o2 (fun k c => D k c ∨ D' k c) w4 ∧ szs (us ++ qs) < k := by
  have hs1 := h.s
  rw [szs_append, szs_one] at hs1
  have hs2 := hr.s
  have hz := h.z
  have hs3 : szs (us ++ qs) < k := by rw [szs_append]; omega
  have hRl := h.l.lt
  have z2 := hk.size
  have z4 := hr.k.size
  have hqh : Hole D wr q := (h.q q (by simp)).2.2
  obtain ⟨b', i', e', db0, db1, _⟩ := hqh
  rw [he] at e'
  cases e'
  have hb0 := h.d _ _ db0
  -- the holes that are left lie apart from this one
  have hap : ∀ p, p ∈ us → Apart p q := fun p hp => (List.pairwise_append.1 h.a).2.2 p hp q (List.mem_singleton.2 rfl)
  have hus : ∀ p, p ∈ us → Hole D wr p := fun p hp => (h.q p (List.mem_append_left _ hp)).2.2
  have hfar : ∀ k c, Hit us k c → ¬ Two b i k c := by
    rintro k c ⟨p, hp, j, e, hc⟩ ⟨rfl, hd⟩
    have := hap p hp _ _ _ e he
    omega
  -- what lies in D is as it was, but for this hole
  have hc2 : ∀ k c, D k c → w2.cell? ⟨k, c, none⟩ = wr.cell? ⟨k, c, none⟩ ∧ w2.frozen? ⟨k, c, none⟩ = wr.frozen? ⟨k, c, none⟩ := by
    intro k c hD
    obtain ⟨_, d2, d3, _⟩ := h.d k c hD
    have hh := hk.block k d2 d3 (by simp)
    exact ⟨World.cell?_of_block (a := ⟨k, c, none⟩) hh, World.frozen?_of_block (a := ⟨k, c, none⟩) hh⟩
  have hc4 : ∀ k c, D k c → ¬ Two b i k c → w4.cell? ⟨k, c, none⟩ = wr.cell? ⟨k, c, none⟩ ∧ w4.frozen? ⟨k, c, none⟩ = wr.frozen? ⟨k, c, none⟩ := by
    intro k c hD hn
    obtain ⟨_, d2, d3, d4⟩ := h.d k c hD
    refine ⟨(hr.k.same (by omega) d3 d4 fun e => ?_).trans (hc2 k c hD).1, (hr.k.fz (by omega) d3 d4).trans (hc2 k c hD).2⟩
    subst e
    exact ⟨fun e => hn ⟨rfl, .inl e⟩, fun e => hn ⟨rfl, .inr e⟩⟩
  have hlow : Below rb wr w2 := (hk.below (fun g e => by cases e) (by omega)).mono hR
  have hb2 : Below rb W0 w2 := h.b.trans hlow
  have hbb : Below B w0 w2 := h0.trans (hb2.mono hBr)
  have hlow4 : Below rb w2 w4 := hr.k.low hl2 hR hb0.1
  have hqs : ∀ p, p ∈ qs → Hole D' w4 p := fun p hp => (hr.q p hp).2.2
  refine ⟨⟨hr.l, rfl, by omega, fun p hp => ?_, ?_, ?_, ?_, hb2.trans hlow4⟩, hs3⟩
  · rcases List.mem_append.1 hp with hp | hp
    · obtain ⟨a1, a2, a3⟩ := h.q p (List.mem_append_left _ hp)
      refine ⟨a1, a2, ?_⟩
      obtain ⟨pb, pi, e, d0, d1, c0, c1, f0, f1⟩ := a3
      have t0 := hc4 _ _ d0 (hfar _ _ ⟨p, hp, pi, e, .inl rfl⟩)
      have t1 := hc4 _ _ d1 (hfar _ _ ⟨p, hp, pi, e, .inr rfl⟩)
      exact ⟨pb, pi, e, .inl d0, .inl d1, t0.1.trans c0, t1.1.trans c1, t0.2.trans f0, t1.2.trans f1⟩
    · obtain ⟨⟨a1, a2⟩, ⟨a3, a4⟩, a5⟩ := hr.q p hp
      exact ⟨⟨a1.back hbb, a2⟩, ⟨a3.back hbb, a4⟩, a5.later (fun k c h => .inr h) fun k c _ => ⟨rfl, rfl⟩⟩
  · refine List.pairwise_append.2 ⟨(List.pairwise_append.1 h.a).1, hr.a, fun p hp p' hp' c j j' e e' => ?_⟩
    obtain ⟨b1, i1, g1, d1, d1', _⟩ := hus p hp
    obtain ⟨b2, i2, g2, d2, d2', _⟩ := hqs p' hp'
    rw [e] at g1
    rw [e'] at g2
    cases g1
    cases g2
    have a1 := (h.d _ _ d1).2.1
    rcases hr.d _ _ d2 with ⟨e1, hc⟩ | ⟨a2, _⟩
    · rcases hr.d _ _ d2' with ⟨_, hc'⟩ | ⟨a2, _⟩
      · subst e1
        have := hap p hp _ _ _ e he
        omega
      · omega
    · omega
  · intro k c hD
    rcases hD with hD | hD
    · obtain ⟨d1, d2, d3, d4⟩ := h.d k c hD
      exact ⟨d1, by omega, d3, hr.g.ne (by omega) d4⟩
    · rcases hr.d k c hD with ⟨rfl, _⟩ | ⟨a1, a2, a3⟩
      · exact ⟨hb0.1, by omega, hb0.2.2.1, hr.g.ne (by omega) hb0.2.2.2⟩
      · exact ⟨by omega, a2, by omega, a3⟩
  · intro W hW hf
    have fq : Filled R W b i (joinY q.x.ty q.y.ty) := by
      refine hr.v W (fun k c hD hh => hW k c (.inr hD) ?_) fun p hp => hf p (List.mem_append_right _ hp)
      rintro ⟨p, hp, j, e, hc⟩
      rcases List.mem_append.1 hp with hp | hp
      · have hit : Hit us k c := ⟨p, hp, j, e, hc⟩
        have hd := (h.d _ _ (Hole.hit hus hit)).2.1
        rcases hr.d k c hD with ⟨e1, e2⟩ | ⟨a1, _⟩
        · exact hfar k c hit ⟨e1, e2⟩
        · omega
      · exact hh ⟨p, hp, j, e, hc⟩
    refine h.v W (fun k c hD hh => ?_) fun p hp => ?_
    · have hnt : ¬ Two b i k c := fun ⟨e1, e2⟩ => hh ⟨q, by simp, i, by rw [he, e1], e2⟩
      rw [hW k c (.inl hD) ?_, (hc4 k c hD hnt).1]
      rintro ⟨p, hp, j, e, hc⟩
      rcases List.mem_append.1 hp with hp | hp
      · exact hh ⟨p, List.mem_append_left _ hp, j, e, hc⟩
      · have hd := (h.d _ _ hD).2.1
        rcases hr.d k c (Hole.hit hqs ⟨p, hp, j, e, hc⟩) with ⟨e1, e2⟩ | ⟨a1, _⟩
        · exact hnt ⟨e1, e2⟩
        · omega
    · rcases List.mem_append.1 hp with hp | hp
      · exact hf p (List.mem_append_left _ hp)
      · rcases List.mem_singleton.1 hp with rfl
        exact ⟨b, i, he, fq⟩
end Go.Proofs.Ytnddkmccagiclaa

/-
  What the call of chaperoneref.JoinOf answers at two right trees that lie in memory.
-/
namespace Go.Proofs.Ytnddkmccagiclaa
open Go.RowKit

/-- What a call that makes a tree leaves. -/
def Made (T : Ty) (w : World) (e : Ending) (w' : World) : Prop :=
  ∃ t : Tr, e = .returned (.agg #[.int .i64 t.k, .slice t.a t.l.length t.c]) ∧ t.ty = T ∧ t.In w' ∧ t.Bl (w.heap.size ≤ ·) ∧ Below w.heap.size w w'

theorem made_two {w W0 w3 : World} {t0 t1 : Tr} {N : Nat} (hN : w.heap.size + 1 + 1 < N) (hb0 : Below w.heap.size w W0) (hb : Below N W0 w3) (hs : N ≤ W0.heap.size) (i0 : t0.In w3) (i1 : t1.In w3) (b0 : t0.Bl (N ≤ ·)) (b1 : t1.Bl (N ≤ ·)) (u v : Value) {W : World} (hW : W = ((w3.setCell ⟨w.heap.size + 1 + 1, 0, none⟩ u).setCell ⟨w.heap.size + 1 + 1, 1, none⟩ v).alloc (.cells #[.int .i64 t0.k, .slice t0.a t0.l.length t0.c, .int .i64 t1.k, .slice t1.a t1.l.length t1.c] 24)) :
    (Tr.mk 3 (some ⟨w3.heap.size, 0, none⟩) 2 [t0, t1]).In W ∧ (Tr.mk 3 (some ⟨w3.heap.size, 0, none⟩) 2 [t0, t1]).Bl (w.heap.size ≤ ·) ∧ Below w.heap.size w W := by
  have hs3 := hb.size
  have hs0 := hb0.size
  have hsz : ((w3.setCell ⟨w.heap.size + 1 + 1, 0, none⟩ u).setCell ⟨w.heap.size + 1 + 1, 1, none⟩ v).heap.size = w3.heap.size := by simp [World.setCell]
  have k0 : t0.In ((w3.setCell ⟨w.heap.size + 1 + 1, 0, none⟩ u).setCell ⟨w.heap.size + 1 + 1, 0 + 1, none⟩ v) := set_keeps i0 (b0.mono fun b h => by omega)
  have k1 : t1.In ((w3.setCell ⟨w.heap.size + 1 + 1, 0, none⟩ u).setCell ⟨w.heap.size + 1 + 1, 0 + 1, none⟩ v) := set_keeps i1 (b1.mono fun b h => by omega)
  have hbb : Below w.heap.size w ((w3.setCell ⟨w.heap.size + 1 + 1, 0, none⟩ u).setCell ⟨w.heap.size + 1 + 1, 1, none⟩ v) := ((hb0.trans (hb.mono (by omega))).setCell (by simp; omega) _).setCell (by simp; omega) _
  subst hW
  refine ⟨?_, Tr.Bl_two (by omega) (b0.mono fun b h => by omega) (b1.mono fun b h => by omega), hbb.alloc (by omega) _⟩
  generalize ((w3.setCell ⟨w.heap.size + 1 + 1, 0, none⟩ u).setCell ⟨w.heap.size + 1 + 1, 1, none⟩ v) = X at *
  have hba : ∀ Y, Below X.heap.size X (X.alloc Y) := fun Y => (Below.refl _ _).alloc (Nat.le_refl _) _
  rw [← hsz]
  exact Tr.In_two (by simp [go_sem]) (by simp [go_sem]) (by simp [go_sem]) (by simp [go_sem]) (k0.below (hba _)) (k1.below (hba _))

set_option maxHeartbeats 1000000 in
theorem joinOf_two (bx ox by' oy c c' : Nat) (x0 x1 y0 y1 : Tr) (w : World)
    (cx0 : w.cell? ⟨bx, ox, none⟩ = some (.int .i64 x0.k)) (cx1 : w.cell? ⟨bx, ox + 1, none⟩ = some (.slice x0.a x0.l.length x0.c)) (cx2 : w.cell? ⟨bx, ox + 2, none⟩ = some (.int .i64 x1.k)) (cx3 : w.cell? ⟨bx, ox + 3, none⟩ = some (.slice x1.a x1.l.length x1.c))
    (cy0 : w.cell? ⟨by', oy, none⟩ = some (.int .i64 y0.k)) (cy1 : w.cell? ⟨by', oy + 1, none⟩ = some (.slice y0.a y0.l.length y0.c)) (cy2 : w.cell? ⟨by', oy + 2, none⟩ = some (.int .i64 y1.k)) (cy3 : w.cell? ⟨by', oy + 3, none⟩ = some (.slice y1.a y1.l.length y1.c))
    (H0 : Hid (∀ W : World, Below w.heap.size w W → Calls Try.prog 22 #[.agg #[.int .i64 x0.k, .slice x0.a x0.l.length x0.c], .agg #[.int .i64 y0.k, .slice y0.a y0.l.length y0.c]] W (Made (joinY x0.ty y0.ty) W)))
    (H1 : Hid (∀ W : World, Below w.heap.size w W → Calls Try.prog 22 #[.agg #[.int .i64 x1.k, .slice x1.a x1.l.length x1.c], .agg #[.int .i64 y1.k, .slice y1.a y1.l.length y1.c]] W (Made (joinY x1.ty y1.ty) W))) :
    Calls Try.prog 22 #[.agg #[.int .i64 3, .slice (some ⟨bx, ox, none⟩) 2 c], .agg #[.int .i64 3, .slice (some ⟨by', oy, none⟩) 2 c']] w (Made ⟨3, [joinY x0.ty y0.ty, joinY x1.ty y1.ty]⟩ w) := by
  obtain ⟨W0, hW0⟩ : ∃ W0, W0 = (((w.alloc (Obj.cells #[.int .i64 3, .slice (some ⟨bx, ox, none⟩) 2 c] 24)).alloc (Obj.cells #[.int .i64 3, .slice (some ⟨by', oy, none⟩) 2 c'] 24)).alloc (Obj.cells #[.int .i64 0, .slice none 0 0] 24)) := ⟨_, rfl⟩
  have hs0 : W0.heap.size = w.heap.size + 1 + 1 + 1 := by rw [hW0]; simp
  have hbw0 : Below w.heap.size w W0 := by rw [hW0]; exact (((Below.refl _ _).alloc (Nat.le_refl _) _).alloc (by simp) _).alloc (by simp; omega) _
  have r0 : W0.drew.cell? ⟨w.heap.size + 1 + 1, 0, none⟩ = some (.int .i64 0) := by rw [hW0]; simp [go_sem]
  have r1 : W0.drew.cell? ⟨w.heap.size + 1 + 1, 1, none⟩ = some (.slice none 0 0) := by rw [hW0]; simp [go_sem]
  have r2 : W0.drew.frozen? ⟨w.heap.size + 1 + 1, 0, none⟩ = false := by rw [hW0]; simp [go_sem]
  have r3 : W0.drew.frozen? ⟨w.heap.size + 1 + 1, 1, none⟩ = false := by rw [hW0]; simp [go_sem]
  have q0 : W0.cell? ⟨w.heap.size, 0, none⟩ = some (.int .i64 3) := by rw [hW0]; simp [go_sem]
  have q1 : W0.cell? ⟨w.heap.size, 1, none⟩ = some (.slice (some ⟨bx, ox, none⟩) 2 c) := by rw [hW0]; simp [go_sem]
  have q2 : W0.cell? ⟨w.heap.size + 1, 0, none⟩ = some (.int .i64 3) := by rw [hW0]; simp [go_sem]
  have q3 : W0.cell? ⟨w.heap.size + 1, 1, none⟩ = some (.slice (some ⟨by', oy, none⟩) 2 c') := by rw [hW0]; simp [go_sem]
  have lx : bx < w.heap.size := World.block_lt_of_cell? _ _ cx0
  have ly : by' < w.heap.size := World.block_lt_of_cell? _ _ cy0
  replace cx0 := cell_later hbw0 cx0
  replace cx1 := cell_later hbw0 cx1
  replace cx2 := cell_later hbw0 cx2
  replace cx3 := cell_later hbw0 cx3
  replace cy0 := cell_later hbw0 cy0
  replace cy1 := cell_later hbw0 cy1
  replace cy2 := cell_later hbw0 cy2
  replace cy3 := cell_later hbw0 cy3
  have HK : Hid (∀ w' : World, Below (w.heap.size + 1 + 1) W0 w' → (w'.cell? ⟨w.heap.size, 0, none⟩ = some (.int .i64 3) ∧ w'.cell? ⟨w.heap.size, 1, none⟩ = some (.slice (some ⟨bx, ox, none⟩) 2 c) ∧ w'.cell? ⟨w.heap.size + 1, 1, none⟩ = some (.slice (some ⟨by', oy, none⟩) 2 c') ∧ w'.cell? ⟨bx, ox, none⟩ = some (.int .i64 x0.k) ∧ w'.cell? ⟨bx, ox + 1, none⟩ = some (.slice x0.a x0.l.length x0.c) ∧ w'.cell? ⟨bx, ox + 2, none⟩ = some (.int .i64 x1.k) ∧ w'.cell? ⟨bx, ox + 3, none⟩ = some (.slice x1.a x1.l.length x1.c) ∧ w'.cell? ⟨by', oy, none⟩ = some (.int .i64 y0.k) ∧ w'.cell? ⟨by', oy + 1, none⟩ = some (.slice y0.a y0.l.length y0.c) ∧ w'.cell? ⟨by', oy + 2, none⟩ = some (.int .i64 y1.k) ∧ w'.cell? ⟨by', oy + 3, none⟩ = some (.slice y1.a y1.l.length y1.c))) := by
    intro w' h
    have t : ∀ b i, b < w.heap.size + 1 + 1 → w'.cell? ⟨b, i, none⟩ = W0.cell? ⟨b, i, none⟩ := fun b i hb => h.cell (p := ⟨b, i, none⟩) hb
    exact ⟨(t _ _ (by omega)).trans q0, (t _ _ (by omega)).trans q1, (t _ _ (by omega)).trans q3, (t _ _ (by omega)).trans cx0, (t _ _ (by omega)).trans cx1, (t _ _ (by omega)).trans cx2, (t _ _ (by omega)).trans cx3, (t _ _ (by omega)).trans cy0, (t _ _ (by omega)).trans cy1, (t _ _ (by omega)).trans cy2, (t _ _ (by omega)).trans cy3⟩
  have hbn : Below (w.heap.size + 1 + 1) W0 W0.drew := (Below.refl _ _).drew
  have hbm : Below (w.heap.size + 1 + 1 + 1) W0 W0.drew := (Below.refl _ _).drew
  go_enter Try.func22, Try.ntmps22
  go_wp2_with fail
  rw [← hW0]
  clear hW0 q0 q1 q2 q3 cx0 cx1 cx2 cx3 cy0 cy1 cy2 cy3
  go_region_held3 (fun w' => w'.cell? ⟨w.heap.size, 0, none⟩ = some (.int .i64 3) ∧ w'.cell? ⟨w.heap.size, 1, none⟩ = some (.slice (some ⟨bx, ox, none⟩) 2 c) ∧ w'.cell? ⟨w.heap.size + 1, 1, none⟩ = some (.slice (some ⟨by', oy, none⟩) 2 c') ∧ w'.cell? ⟨bx, ox, none⟩ = some (.int .i64 x0.k) ∧ w'.cell? ⟨bx, ox + 1, none⟩ = some (.slice x0.a x0.l.length x0.c) ∧ w'.cell? ⟨bx, ox + 2, none⟩ = some (.int .i64 x1.k) ∧ w'.cell? ⟨bx, ox + 3, none⟩ = some (.slice x1.a x1.l.length x1.c) ∧ w'.cell? ⟨by', oy, none⟩ = some (.int .i64 y0.k) ∧ w'.cell? ⟨by', oy + 1, none⟩ = some (.slice y0.a y0.l.length y0.c) ∧ w'.cell? ⟨by', oy + 2, none⟩ = some (.int .i64 y1.k) ∧ w'.cell? ⟨by', oy + 3, none⟩ = some (.slice y1.a y1.l.length y1.c))
    (first
      | exact HK.out _ hbn
      | exact HK.out _ (hbn.alloc (by have := hbn.size; omega) _)
      | exact HK.out _ (((hbn.setCell (by simp) _).setCell (by simp) _).alloc (by have := hbn.size; simp [World.setCell]; omega) _)
      | go_keep)
    (first
      | (go_at_call 22; refine (H0.out _ (hbw0.trans (hbn.mono (by omega)))).mono ?_; rintro e w2 ⟨t0, rfl, ht0, hin0, hbl0, hb2⟩; replace r0 := cell_later hb2 r0; replace r1 := cell_later hb2 r1; replace r2 := (hb2.frozen (p := ⟨w.heap.size + 1 + 1, 0, none⟩) (by have := hbm.size; show w.heap.size + 1 + 1 < _; omega)).trans r2; replace r3 := (hb2.frozen (p := ⟨w.heap.size + 1 + 1, 1, none⟩) (by have := hbm.size; show w.heap.size + 1 + 1 < _; omega)).trans r3; replace hbn := hbn.trans (hb2.mono (by have := hbn.size; omega)); replace hbm := hbm.trans (hb2.mono (by have := hbm.size; omega)); clear H0)
      | (go_at_call 22; refine (H1.out _ (hbw0.trans (hbn.mono (by omega)))).mono ?_; rintro e w3 ⟨t1, rfl, ht1, hin1, hbl1, hb3⟩; replace r0 := cell_later hb3 r0; replace r1 := cell_later hb3 r1; replace r2 := (hb3.frozen (p := ⟨w.heap.size + 1 + 1, 0, none⟩) (by have := hbm.size; show w.heap.size + 1 + 1 < _; omega)).trans r2; replace r3 := (hb3.frozen (p := ⟨w.heap.size + 1 + 1, 1, none⟩) (by have := hbm.size; show w.heap.size + 1 + 1 < _; omega)).trans r3; replace hbn := hbn.trans (hb3.mono (by have := hbn.size; omega)); replace hbm := hbm.trans (hb3.mono (by have := hbm.size; omega)); clear H1; have hl3 : w.heap.size + 1 + 1 < w3.heap.size := World.block_lt_of_cell? _ _ r0; have hn3 : w.heap.size + 1 + 1 ≠ w3.heap.size := Nat.ne_of_lt hl3; have ra0 : ∀ Y, (w3.alloc Y).cell? ⟨w.heap.size + 1 + 1, 0, none⟩ = some (.int .i64 0) := fun Y => cell_later ((Below.refl _ _).alloc (Nat.le_refl _) Y) r0; have ra1 : ∀ Y, (w3.alloc Y).cell? ⟨w.heap.size + 1 + 1, 1, none⟩ = some (.slice none 0 0) := fun Y => cell_later ((Below.refl _ _).alloc (Nat.le_refl _) Y) r1))
  have HF : Hid (t0.ty = joinY x0.ty y0.ty ∧ t1.ty = joinY x1.ty y1.ty) := ⟨ht0, ht1⟩
  have HM := made_two (w := w) (W0 := W0) (w3 := w3) (N := w.heap.size + 1 + 1 + 1) (by omega) hbw0 hbm (by omega) (hin0.below hb3) hin1 (hbl0.mono fun b hb => Nat.le_trans (show _ ≤ W0.heap.size by omega) hb) (hbl1.mono fun b hb => Nat.le_trans (show _ ≤ W0.heap.size by omega) (Nat.le_trans (show W0.drew.heap.size ≤ _ from hb2.size) hb)) (.int .i64 3) (.slice (some ⟨w3.heap.size, 0, none⟩) 2 2) rfl
  have HMM : Hid _ := HM
  clear HM ht0 ht1 hin0 hin1 hbl0 hbl1
  go_wp2_with fail
  refine bodyPost_ret (v := .agg #[.int .i64 3, .slice (some ⟨w3.heap.size, 0, none⟩) 2 2]) ?_ rfl ⟨_, rfl, ?_, HMM.out.1, HMM.out.2.1, HMM.out.2.2⟩
  · have hc := set_cells (io := 0) (u := .int .i64 3) (v := .slice (some ⟨w3.heap.size, 0, none⟩) 2 2) r0 r1
    have hc0 := cell_later ((Below.refl _ _).alloc (Nat.le_refl _) (.cells #[.int .i64 t0.k, .slice t0.a t0.l.length t0.c, .int .i64 t1.k, .slice t1.a t1.l.length t1.c] 24)) hc.1
    have hc1 := cell_later ((Below.refl _ _).alloc (Nat.le_refl _) (.cells #[.int .i64 t0.k, .slice t0.a t0.l.length t0.c, .int .i64 t1.k, .slice t1.a t1.l.length t1.c] 24)) hc.2
    simp only [Nat.zero_add] at hc0 hc1
    simp [results, Try.results22, go_sem, hc0, hc1]
  · rw [Tr.ty_mk, ← HF.out.1, ← HF.out.2]
    rfl

/-- chaperoneref.JoinOf. -/
theorem joinOf_any (n : Nat) : ∀ (x y : Tr) (w : World), x.In w → y.In w → x.right → y.right → x.hgt ≤ n → Calls Try.prog 22 #[.agg #[.int .i64 x.k, .slice x.a x.l.length x.c], .agg #[.int .i64 y.k, .slice y.a y.l.length y.c]] w (Made (joinY x.ty y.ty) w) := by
  induction n with
  | zero =>
    intro x y w _ _ _ _ h
    have := x.hgt_pos
    omega
  | succ n ih =>
    intro x y w hx hy rx ry hh
    by_cases hk : x.k = y.k
    · rcases rx.cases with ⟨lx, kx⟩ | ⟨x0, x1, lx, kx, r0, r1⟩
      · rcases ry.cases with ⟨ly, ky⟩ | ⟨y0, y1, ly, ky, _, _⟩
        · have hl1 : x.l.length = 0 := by simp [lx]
          have hl2 : y.l.length = 0 := by simp [ly]
          rw [hl1, hl2, ← hk]
          refine (joinOf_leaf x.k x.a y.a x.c y.c w).mono ?_
          rintro e w' ⟨rfl, hb⟩
          refine ⟨leaf x.k, rfl, ?_, leaf_in _ _, leaf_bl _ _, hb⟩
          obtain ⟨k, a, c, l⟩ := x
          obtain ⟨k', a', c', l'⟩ := y
          dsimp only at lx ly hk
          subst lx ly hk
          simp [leaf, Tr.ty_mk, joinY_mk, joinL]
        · omega
      · rcases ry.cases with ⟨ly, ky⟩ | ⟨y0, y1, ly, ky, q0, q1⟩
        · omega
        · obtain ⟨bx, ox, ax, cx0, cx1, hx0⟩ := hx.part 0 (by simp [lx])
          obtain ⟨bx', ox', ax', cx2, cx3, hx1⟩ := hx.part 1 (by simp [lx])
          obtain ⟨by', oy, ay, cy0, cy1, hy0⟩ := hy.part 0 (by simp [ly])
          obtain ⟨by'', oy', ay', cy2, cy3, hy1⟩ := hy.part 1 (by simp [ly])
          have hg0 := Tr.hgt_part hh 0 (by simp [lx])
          have hg1 := Tr.hgt_part hh 1 (by simp [lx])
          rw [ax] at ax'
          rw [ay] at ay'
          obtain ⟨rfl, rfl⟩ : bx = bx' ∧ ox = ox' := by simpa using ax'
          obtain ⟨rfl, rfl⟩ : by' = by'' ∧ oy = oy' := by simpa using ay'
          simp only [lx, List.getElem_cons_zero, List.getElem_cons_succ] at cx0 cx1 cx2 cx3 hx0 hx1 hg0 hg1
          simp only [ly, List.getElem_cons_zero, List.getElem_cons_succ] at cy0 cy1 cy2 cy3 hy0 hy1
          have hl1 : x.l.length = 2 := by simp [lx]
          have hl2 : y.l.length = 2 := by simp [ly]
          rw [join_parts lx ly kx ky, ax, ay, hl1, hl2, kx, ky]
          exact joinOf_two bx ox by' oy x.c y.c x0 x1 y0 y1 w (by simpa using cx0) (by simpa using cx1) (by simpa using cx2) (by simpa using cx3) (by simpa using cy0) (by simpa using cy1) (by simpa using cy2) (by simpa using cy3)
            (fun W hb => ih x0 y0 W (hx0.below hb) (hy0.below hb) r0 q0 hg0) (fun W hb => ih x1 y1 W (hx1.below hb) (hy1.below hb) r1 q1 hg1)
    · refine (joinOf_diff x y (by simpa using hk) w).mono ?_
      rintro e w' ⟨rfl, hb⟩
      refine ⟨leaf 0, rfl, ?_, leaf_in _ _, leaf_bl _ _, hb⟩
      obtain ⟨k, a, c, l⟩ := x
      obtain ⟨k', a', c', l'⟩ := y
      dsimp only at hk
      simp [leaf, Tr.ty_mk, joinY_mk, if_neg hk]
end Go.Proofs.Ytnddkmccagiclaa

/-
  What the call of chaperoneref.CopyType answers at a tree that lies in memory.
-/
namespace Go.Proofs.Ytnddkmccagiclaa
open Go.RowKit

theorem cellsOf_at : ∀ (l : List Tr) (j : Nat) (h : j < l.length), (cellsOf l)[j * 2]? = some (.int .i64 l[j].k) ∧ (cellsOf l)[j * 2 + 1]? = some l[j].sl
  | [], j, h => by simp at h
  | t :: r, 0, _ => by simp [cellsOf, Tr.sl]
  | t :: r, j + 1, h => by
    have ih := cellsOf_at r j (by simpa using h)
    have e : (j + 1) * 2 = j * 2 + 1 + 1 := by omega
    rw [e]
    simpa [cellsOf] using ih

/-- A row of trees that the call owns is a tree's list. -/
theorem row_in {w : World} {base : Nat} {v : Value} {cs : List Tr} (h : w.ownsRow base 24 2 v cs.length (cellsOf cs)) (hc : ∀ c, c ∈ cs → c.In w ∧ c.Bl (base ≤ ·)) : ∃ a c, v = .slice a cs.length c ∧ ∀ k, (Tr.mk k a c cs).In w ∧ (Tr.mk k a c cs).Bl (base ≤ ·) := by
  rcases h.2 with ⟨rfl, h0⟩ | ⟨g, cap, cur, rfl, hg, _⟩
  · have : cs = [] := List.length_eq_zero_iff.1 h0
    subst this
    exact ⟨none, 0, rfl, fun k => ⟨Tr.In_nil _ _ _ _, Tr.Bl_nil _ _ _ _⟩⟩
  · refine ⟨_, _, rfl, fun k => ⟨Tr.In_mk.2 ⟨fun j hj => ⟨g, 0, rfl, ?_, ?_⟩, fun t ht => (hc t ht).1⟩, Tr.Bl_mk.2 ⟨fun _ x hx => by cases hx; exact hg, fun t ht => (hc t ht).2⟩⟩⟩
    · rw [Nat.zero_add, h.cellAt (j * 2) (by omega), (cellsOf_at cs j hj).1]
    · rw [Nat.zero_add, h.cellAt (j * 2 + 1) (by omega), (cellsOf_at cs j hj).2]

/-- While the parts are copied: the box, the row of copies, the copies, the place of the answer. -/
structure CP (x : Tr) (j : Nat) (v : Value) (cs : List Tr) (w wr : World) : Prop where
  own : wr.ownsRow (w.heap.size + 1 + 1) 24 2 v cs.length (cellsOf cs)
  ins : ∀ c, c ∈ cs → c.In wr ∧ c.Bl (fun b => w.heap.size + 1 + 1 ≤ b ∧ some b ≠ v.ownBlock)
  ty : cs.map Tr.ty = (x.l.take j).map Tr.ty
  low : Below w.heap.size w wr
  b0 : wr.cell? ⟨w.heap.size, 0, none⟩ = some (.int .i64 x.k)
  b1 : wr.cell? ⟨w.heap.size, 1, none⟩ = some v
  bf : wr.frozen? ⟨w.heap.size, 1, none⟩ = false
  r0 : wr.cell? ⟨w.heap.size + 1, 0, none⟩ = some (.int .i64 0)
  r1 : wr.cell? ⟨w.heap.size + 1, 1, none⟩ = some (.slice none 0 0)
  f0 : wr.frozen? ⟨w.heap.size + 1, 0, none⟩ = false
  f1 : wr.frozen? ⟨w.heap.size + 1, 1, none⟩ = false

theorem CP.len {x : Tr} {j : Nat} {v : Value} {cs : List Tr} {w wr : World} (h : CP x j v cs w wr) (hj : j ≤ x.l.length) : cs.length = j := by
  have := congrArg List.length h.ty
  simpa [Nat.min_eq_left hj] using this

/-- One more copy. -/
theorem CP.step {x : Tr} {j : Nat} {v : Value} {cs : List Tr} {w wr w1 w2 w3 : World} {c : Tr} {gg cap1 : Nat} {X : Obj} (h : CP x j v cs w wr) (hj : j < x.l.length) (hb1 : Below wr.heap.size wr w1) (ht : c.ty = x.l[j].ty) (hin : c.In w2) (hbl : c.Bl (w1.heap.size ≤ ·)) (hb2 : Below w1.heap.size w1 w2)
    (hown : w3.ownsRow (w.heap.size + 1 + 1) 24 2 (.slice (some ⟨gg, 0, none⟩) (cs.length + 1) cap1) (cs.length + 1) (cellsOf cs ++ [.int .i64 c.k, .slice c.a c.l.length c.c])) (hgrow : (w2.alloc X).grownBy w3 v.ownBlock) (hat : v.ownBlock = some gg ∨ gg = w2.heap.size + 1) :
    CP x (j + 1) (.slice (some ⟨gg, 0, none⟩) (cs.length + 1) cap1) (cs ++ [c]) w (w3.setCell ⟨w.heap.size, 1, none⟩ (.slice (some ⟨gg, 0, none⟩) (cs.length + 1) cap1)) := by
  have s0 := h.low.size
  have s1 := hb1.size
  have s2 := hb2.size
  have s3 : w2.heap.size + 1 ≤ w3.heap.size := by have := hgrow.size; simpa using this
  have hlr : w.heap.size + 1 < wr.heap.size := World.block_lt_of_cell? _ _ h.r0
  have hba : Below w2.heap.size w2 (w2.alloc X) := (Below.refl _ _).alloc (Nat.le_refl _) _
  have hbr2 : Below wr.heap.size wr (w2.alloc X) := (hb1.trans (hb2.mono s1)).trans (hba.mono (by omega))
  have hov : ∀ k, v.ownBlock = some k → w.heap.size + 1 + 1 ≤ k ∧ k < wr.heap.size := h.own.lt
  have hno : ∀ k, k ≤ w.heap.size + 1 → some k ≠ v.ownBlock := fun k hk e => by have := (hov k e.symm).1; omega
  have hgg : w.heap.size + 1 + 1 ≤ gg := by
    rcases hat with e | e
    · exact (hov gg e).1
    · omega
  -- the blocks that are not the row's are as they were
  have hblk : ∀ k, k < w2.heap.size + 1 → some k ≠ v.ownBlock → w3.heap[k]? = (w2.alloc X).heap[k]? := fun k hk hn => hgrow.block k (by simpa using hk) hn
  have hset : ∀ k i, k ≠ w.heap.size → (w3.setCell ⟨w.heap.size, 1, none⟩ (.slice (some ⟨gg, 0, none⟩) (cs.length + 1) cap1)).cell? ⟨k, i, none⟩ = w3.cell? ⟨k, i, none⟩ := by
    intro k i hk
    rw [World.cell?_setCell_other]
    intro e; simp only [Addr.mk.injEq] at e; omega
  have hold : ∀ k i, k < wr.heap.size → some k ≠ v.ownBlock → w3.cell? ⟨k, i, none⟩ = wr.cell? ⟨k, i, none⟩ ∧ w3.frozen? ⟨k, i, none⟩ = wr.frozen? ⟨k, i, none⟩ := by
    intro k i hk hn
    have e : w3.heap[k]? = wr.heap[k]? := (hblk k (by omega) hn).trans (hbr2.block k hk)
    exact ⟨World.cell?_of_block (a := ⟨k, i, none⟩) e, World.frozen?_of_block (a := ⟨k, i, none⟩) e⟩
  refine ⟨?_, ?_, ?_, ?_, ?_, ?_, ?_, ?_, ?_, ?_, ?_⟩
  · rw [cellsOf_append, List.length_append, List.length_singleton]
    exact ownsRow_setCell_below hown (show w.heap.size < _ by omega) _
  · intro d hd
    rcases List.mem_append.1 hd with hd | hd
    · obtain ⟨i1, i2⟩ := h.ins d hd
      have i3 := i1.bl.and i2
      refine ⟨i1.congr (P := fun b => b < wr.heap.size ∧ w.heap.size + 1 + 1 ≤ b ∧ some b ≠ v.ownBlock) (fun b hb i => ?_) i3, i3.mono fun b hb => ⟨hb.2.1, ?_⟩⟩
      · rw [hset b i (by omega)]
        exact (hold b i hb.1 hb.2.2).1
      · show some b ≠ some gg
        rcases hat with e | e
        · rw [← e]; exact hb.2.2
        · simp only [ne_eq, Option.some.injEq]; omega
    · rcases List.mem_singleton.1 hd with rfl
      have i3 := hin.bl.and hbl
      refine ⟨hin.congr (P := fun b => b < w2.heap.size ∧ w1.heap.size ≤ b) (fun b hb i => ?_) i3, i3.mono fun b hb => ⟨by omega, ?_⟩⟩
      · rw [hset b i (by omega), World.cell?_of_block (a := ⟨b, i, none⟩) (hblk b (by omega) (fun e => by have := (hov b e.symm).2; omega))]
        exact hba.cell (p := ⟨b, i, none⟩) hb.1
      · show some b ≠ some gg
        rcases hat with e | e
        · have := (hov gg e).2
          simp only [ne_eq, Option.some.injEq]; omega
        · simp only [ne_eq, Option.some.injEq]; omega
  · rw [List.take_succ_eq_append_getElem hj, List.map_append, List.map_append, h.ty]
    simp [ht]
  · have hb3 : Below w.heap.size (w2.alloc X) w3 := ⟨hgrow.os, hgrow.tape, hgrow.output, hgrow.size, fun k hk => hblk k (by omega) (hno k (by omega))⟩
    exact ((h.low.trans (hbr2.mono s0)).trans hb3).setCell (by simp) _
  · rw [World.cell?_setCell_other]
    · exact (hold _ 0 (by omega) (hno _ (by omega))).1.trans h.b0
    · intro e; simp only [Addr.mk.injEq] at e; omega
  · exact World.cell?_setCell_same _ _ _ ((hold _ 1 (by omega) (hno _ (by omega))).1.trans h.b1)
  · rw [World.frozen?_setCell]
    exact (hold _ 1 (by omega) (hno _ (by omega))).2.trans h.bf
  · rw [hset _ _ (by omega)]
    exact (hold _ 0 (by omega) (hno _ (by omega))).1.trans h.r0
  · rw [hset _ _ (by omega)]
    exact (hold _ 1 (by omega) (hno _ (by omega))).1.trans h.r1
  · rw [World.frozen?_setCell]
    exact (hold _ 0 (by omega) (hno _ (by omega))).2.trans h.f0
  · rw [World.frozen?_setCell]
    exact (hold _ 1 (by omega) (hno _ (by omega))).2.trans h.f1

theorem CP.start {x : Tr} {w : World} : CP x 0 (.slice none 0 0) [] w ((w.alloc (.cells #[.int .i64 x.k, .slice none 0 0] 24)).alloc (.cells #[.int .i64 0, .slice none 0 0] 24)) := by
  refine ⟨World.ownsRow_nil _ _ _ _, fun c h => (by cases h), by simp, ?_, by simp [go_sem], by simp [go_sem], by simp [go_sem], by simp [go_sem], by simp [go_sem], by simp [go_sem], by simp [go_sem]⟩
  exact ((Below.refl _ _).alloc (Nat.le_refl _) _).alloc (by simp) _

set_option maxHeartbeats 2000000 in
theorem copy_step (n : Nat) (x : Tr) (A : Option Addr) (HA : Hid (A = x.a)) (w : World) (hx : x.In w) (hh : x.hgt ≤ n + 1) (hs : x.sz ≤ 100000000)
    (ih : Hid (∀ (x : Tr) (w : World), x.In w → x.hgt ≤ n → x.sz ≤ 100000000 → Calls Try.prog 8 #[.agg #[.int .i64 x.k, .slice x.a x.l.length x.c]] w (Made x.ty w))) :
    Calls Try.prog 8 #[.agg #[.int .i64 x.k, .slice A x.l.length x.c]] w (Made x.ty w) := by
  have hlen : x.l.length ≤ 100000000 := by have := len_sz x.l; have := x.sz_eq; omega
  obtain ⟨i0, hi0, hz0, hz1, hz2⟩ := info_parts Try.info24s
  go_enter Try.func8, Try.ntmps8
  go_wp2_with fail
  go_loopg [11] x.l.length (fun g i wr => ∃ (j : Nat) (v : Value) (cs : List Tr), j ≤ x.l.length ∧ g = x.l.length - j ∧ i = .int .i64 (j : Int) ∧ Hid (CP x j v cs w wr))
  case atStart => exact ⟨0, _, _, Nat.zero_le _, rfl, rfl, CP.start⟩
  case round =>
    obtain ⟨j, v, cs, hj, hg, rfl, HC⟩ := hrel
    have HG : Hid (gk = x.l.length - j) := hg
    clear hg
    have hsw : w.heap.size + 1 < wr.heap.size := World.block_lt_of_cell? _ _ HC.out.r0
    by_cases hlt : j < x.l.length
    · obtain ⟨b, o, ea, x0, x1, hxj⟩ := hx.part j hlt
      have eA : A = some ⟨b, o, none⟩ := HA.out.trans ea
      subst eA
      clear ea HA
      have hbwr := HC.out.low
      replace x0 := cell_later hbwr x0
      replace x1 := cell_later hbwr x1
      have i1 : (j : Int) < (x.l.length : Int) := by omega
      have i2 : (0 : Int) ≤ (j : Int) := by omega
      have lb : b < wr.heap.size := World.block_lt_of_cell? _ _ x0
      have hcb : cs.length ≤ 100000000 := by have := HC.out.len hj; omega
      have hb1 : Below wr.heap.size wr (wr.alloc (.cells #[.int .i64 x.l[j].k, .slice x.l[j].a x.l[j].l.length x.l[j].c] 24)).drew := ((Below.refl _ _).alloc (Nat.le_refl _) _).drew
      have HI : Hid (Calls Try.prog 8 #[.agg #[.int .i64 x.l[j].k, .slice x.l[j].a x.l[j].l.length x.l[j].c]] (wr.alloc (.cells #[.int .i64 x.l[j].k, .slice x.l[j].a x.l[j].l.length x.l[j].c] 24)).drew (Made x.l[j].ty (wr.alloc (.cells #[.int .i64 x.l[j].k, .slice x.l[j].a x.l[j].l.length x.l[j].c] 24)).drew)) := by
        refine ih.out x.l[j] _ ((hxj.below hbwr).below hb1) (Tr.hgt_part hh j hlt) ?_
        have h2 := sz_take x.l j hlt
        have h3 := sz_take_le x.l (j + 1)
        have h4 := x.sz_eq
        omega
      have q1 := HC.out.b1
      have qf := HC.out.bf
      have hnv : v.ownBlock ≠ some w.heap.size := fun e => by have := (HC.out.own.lt _ e).1; omega
      have hown := HC.out.own
      clear ih hx
      go_wp2_with fail
      have u1 : (wr.alloc (.cells #[.int .i64 x.l[j].k, .slice x.l[j].a x.l[j].l.length x.l[j].c] 24)).drew.cell? ⟨w.heap.size, 1, none⟩ = some v := cell_later hb1 q1
      have uf : (wr.alloc (.cells #[.int .i64 x.l[j].k, .slice x.l[j].a x.l[j].l.length x.l[j].c] 24)).drew.frozen? ⟨w.heap.size, 1, none⟩ = false := (hb1.frozen (p := ⟨w.heap.size, 1, none⟩) (show w.heap.size < wr.heap.size by omega)).trans qf
      have uo : (wr.alloc (.cells #[.int .i64 x.l[j].k, .slice x.l[j].a x.l[j].l.length x.l[j].c] 24)).drew.ownsRow (w.heap.size + 1 + 1) 24 2 v cs.length (cellsOf cs) := ownsRow_below hown hb1
      have us : w.heap.size < (wr.alloc (.cells #[.int .i64 x.l[j].k, .slice x.l[j].a x.l[j].l.length x.l[j].c] 24)).drew.heap.size := World.block_lt_of_cell? _ _ u1
      clear q1 qf hown
      go_region_law
        (first
          | (go_simp; go_at_call 8; refine HI.out.mono ?_; rintro e w2 ⟨c, rfl, ht, hin, hbl, hb2⟩; replace u1 := cell_later hb2 u1; replace uf := (hb2.frozen (p := ⟨w.heap.size, 1, none⟩) us).trans uf; replace uo := ownsRow_below uo hb2; replace us : w.heap.size < w2.heap.size := World.block_lt_of_cell? _ _ u1; have hnew := heap_alloc_new w2 (.cells #[.int .i64 c.k, .slice c.a c.l.length c.c] 24); have un : w.heap.size ≠ w2.heap.size := Nat.ne_of_lt us; go_wp2_with fail)
          | (refine step_append_lies _ (by rfl) _ _ _ (by rfl) (w.heap.size + 1 + 1) 24 i0 _ 2 32 Try.underlying22 hi0 hz0 hz1 hz2 rfl (by omega) v cs.length (cellsOf cs) (by rfl) (uo.alloc _)
                ⟨w2.heap.size, 0, none⟩ 1 1 [.int .i64 c.k, .slice c.a c.l.length c.c] (by rfl) (by rfl) (World.news_of_block (cs := #[.int .i64 c.k, .slice c.a c.l.length c.c]) (t := 24) (fr := (0, 0)) hnew) (by simp [Value.oneCell'])
                (by omega) (by unfold maxLen; omega) (by omega) (by have := hb2.size; simp at this ⊢; omega) (w2.heap.size + 1) (by simp) ?_; intro gg cap1 w3 hown1 hgrow hat hlt3; have hcr : w3.cell? ⟨w.heap.size, 1, none⟩ = some v := (by rw [hgrow.cell_far _ (by simp; omega) (Ne.symm hnv)]; exact cell_later ((Below.refl _ _).alloc (Nat.le_refl _) _) u1); have hfr : w3.frozen? ⟨w.heap.size, 1, none⟩ = false := (by rw [hgrow.frozen_far _ (by simp; omega) (Ne.symm hnv)]; exact (((Below.refl _ _).alloc (Nat.le_refl _) _).frozen (p := ⟨w.heap.size, 1, none⟩) us).trans uf)))
      all_goals
        have HN : Hid (CP x (j + 1) (.slice (some ⟨gg, 0, none⟩) (cs.length + 1) cap1) (cs ++ [c]) w (w3.setCell ⟨w.heap.size, 1, none⟩ (.slice (some ⟨gg, 0, none⟩) (cs.length + 1) cap1))) := HC.out.step hlt hb1 ht hin hbl hb2 hown1 hgrow hat
        clear hown1 hgrow hat hcr hfr ht hin hbl hb2 uo uf u1 HI HC
        go_wp2_with fail
        go_roundg (x.l.length - (j + 1))
        case measure => rw [HG.out]; omega
        case rel => exact ⟨j + 1, _, _, by omega, rfl, by go_num, HN⟩
    · have hcl := HC.out.len hj
      have hjl : j = x.l.length := by omega
      obtain ⟨a, c, rfl, hrow⟩ := row_in HC.out.own (fun c hc => ⟨(HC.out.ins c hc).1, (HC.out.ins c hc).2.mono fun b hb => hb.1⟩)
      have HT : Hid ((Tr.mk x.k a c cs).ty = x.ty) := by
        show _ = _
        obtain ⟨k, a', c', l⟩ := x
        have h := HC.out.ty
        dsimp only at h hjl ⊢
        rw [hjl, List.take_length] at h
        rw [Tr.ty_mk, Tr.ty_mk, h]
      have HB : Hid (Below w.heap.size w wr) := HC.out.low
      have b0 := HC.out.b0
      have b1 := HC.out.b1
      have r0 := HC.out.r0
      have r1 := HC.out.r1
      have f0 := HC.out.f0
      have f1 := HC.out.f1
      have HR := hrow x.k
      clear HC hrow hcl hjl
      go_wp2_with fail
      refine bodyPost_ret (v := .agg #[.int .i64 x.k, .slice a cs.length c]) ?_ rfl ⟨.mk x.k a c cs, rfl, HT.out, set_keeps HR.1 (HR.2.mono fun b hb => by omega), HR.2.mono fun b hb => by omega, (HB.out.setCell (by simp) _).setCell (by simp) _⟩
      have hc := set_cells (u := .int .i64 x.k) (v := .slice a cs.length c) r0 r1
      simp only [Nat.zero_add] at hc
      simp [results, Try.results8, go_sem, hc.1, hc.2]

/-- chaperoneref.CopyType. -/
theorem copy_any (n : Nat) : ∀ (x : Tr) (w : World), x.In w → x.hgt ≤ n → x.sz ≤ 100000000 → Calls Try.prog 8 #[.agg #[.int .i64 x.k, .slice x.a x.l.length x.c]] w (Made x.ty w) := by
  induction n with
  | zero =>
    intro x w _ h
    have := x.hgt_pos
    omega
  | succ n ih =>
    intro x w hx h hs
    exact copy_step n x x.a rfl w hx h hs (fun x w hx h hs => ih x w hx h hs)
end Go.Proofs.Ytnddkmccagiclaa

/-
  The call of chaperonelaw.types answers true, and nothing that was there has turned.
-/
namespace Go.Proofs.Ytnddkmccagiclaa
open Go.RowKit

set_option maxHeartbeats 1000000 in
theorem typesLaw_any (w : World) : Calls Try.prog 12 #[] w fun e w' => e = .returned (.bool true) ∧ Below w.heap.size w w' := by
  go_enter Try.func12, Try.ntmps12
  go_wp2_with fail
  refine (to_any (leaf 1) (leaf 0) _ (leaf_in _ _) (leaf_in _ _)).mono ?_
  rintro e w1 ⟨g, _, rfl, hin, hb1⟩
  have HI : Hid ((nf g).In w1) := hin
  clear hin
  have G1 : Hid (∀ W, (nf g).In W → Calls Try.prog 7 #[.agg #[.int .i64 3, .slice (some ⟨g, 0, none⟩) 2 2]] W fun e w' => e = .returned (.bool true) ∧ Below W.heap.size W w') := fun W h => by
    have := good_any (nf g) W h
    rw [nf_good] at this
    exact this
  have hg : (nf g).hgt ≤ 1000 := Nat.le_trans (Tr.hgt_good 4 _ (nf_good g)) (by omega)
  have hs : (nf g).sm := Tr.sm_good 4 _ (nf_good g)
  have hr : (nf g).right := Tr.right_good 4 _ (nf_good g)
  have G2 : Hid (∀ W, (nf g).In W → Calls Try.prog 17 #[.agg #[.int .i64 3, .slice (some ⟨g, 0, none⟩) 2 2], .agg #[.int .i64 0, .slice none 0 0]] W fun e w' => e = .returned (.bool true) ∧ Below W.heap.size W w') := fun W h => by
    have := fits_whole (nf g) (leaf 0) W h (leaf_in _ _) hg hs
    rw [nf_fits] at this
    exact this
  have G3 : Hid (∀ W, (nf g).In W → Calls Try.prog 17 #[.agg #[.int .i64 3, .slice (some ⟨g, 0, none⟩) 2 2], .agg #[.int .i64 1, .slice none 0 0]] W fun e w' => e = .returned (.bool false) ∧ Below W.heap.size W w') := fun W h => by
    have := fits_whole (nf g) (leaf 1) W h (leaf_in _ _) hg hs
    rw [nf_nofit] at this
    exact this
  have G4 : Hid (∀ W, (nf g).In W → Calls Try.prog 21 #[.agg #[.int .i64 3, .slice (some ⟨g, 0, none⟩) 2 2], .agg #[.int .i64 3, .slice (some ⟨g, 0, none⟩) 2 2]] W fun e w' => ∃ a m c, e = .returned (.agg #[.int .i64 3, .slice a m c]) ∧ Below W.heap.size W w') := fun W h => by
    refine (join_whole (nf g) (nf g) W h h hr hr hg).mono ?_
    rintro e w' ⟨t, rfl, ht, _, _, hb⟩
    have : t.k = 3 := by rw [← Tr.ty_k, ht, nf_join]
    exact ⟨t.a, t.l.length, t.c, by rw [this], hb⟩
  have hb0 : Below w.heap.size w w1 := hb1
  clear hg hs hr hb1
  have hb2 : Below w.heap.size w (w1.alloc (.cells #[.int .i64 3, .slice (some ⟨g, 0, none⟩) 2 2] 24)) := hb0.alloc hb0.size _
  have hbb : Below w1.heap.size w1 (w1.alloc (.cells #[.int .i64 3, .slice (some ⟨g, 0, none⟩) 2 2] 24)) := (Below.refl _ _).alloc (Nat.le_refl _) _
  go_wp2_with fail
  refine (G1.out _ (HI.out.below hbb)).mono ?_
  rintro e w2 ⟨rfl, hb3⟩
  have p0 : w2.cell? ⟨w1.heap.size, 0, none⟩ = some (.int .i64 3) := cell_later hb3 (by simp [go_sem])
  have p1 : w2.cell? ⟨w1.heap.size, 1, none⟩ = some (.slice (some ⟨g, 0, none⟩) 2 2) := cell_later hb3 (by simp [go_sem])
  have HI2 : Hid ((nf g).In w2) := (HI.out.below hbb).below hb3
  have hb4 : Below w.heap.size w w2 := hb2.trans (hb3.mono hb2.size)
  clear hb3 hbb hb2 hb0 HI G1
  go_wp2_with fail
  refine (G2.out _ HI2.out).mono ?_
  rintro e w3 ⟨rfl, hb5⟩
  have hb6 : Below w.heap.size w w3 := hb4.trans (hb5.mono hb4.size)
  replace p0 := cell_later hb5 p0
  replace p1 := cell_later hb5 p1
  have HI3 : Hid ((nf g).In w3) := HI2.out.below hb5
  clear hb4 hb5 HI2 G2
  go_wp2_with fail
  refine (G3.out _ HI3.out).mono ?_
  rintro e w4 ⟨rfl, hb7⟩
  have hb8 : Below w.heap.size w w4 := hb6.trans (hb7.mono hb6.size)
  replace p0 := cell_later hb7 p0
  replace p1 := cell_later hb7 p1
  have HI4 : Hid ((nf g).In w4) := HI3.out.below hb7
  clear hb6 hb7 HI3 G3
  go_wp2_with fail
  refine (G4.out _ HI4.out).mono ?_
  rintro e w5 ⟨a, m, c, rfl, hb9⟩
  have hb10 : Below w.heap.size w w5 := hb8.trans (hb9.mono hb8.size)
  clear hb8 hb9 HI4 G4
  have hfk := field_kind 3 (.slice a m c)
  go_wp2_with fail
  go_ret
  exact ⟨rfl, hb10⟩
end Go.Proofs.Ytnddkmccagiclaa
