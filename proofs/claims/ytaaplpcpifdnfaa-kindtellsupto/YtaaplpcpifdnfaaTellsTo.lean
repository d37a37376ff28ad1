/-
  Where the box of kind.To's answer lies among what is copied, in whatever order they are made.
-/
import Derived.Test.YtaaplpcpifdnfaaTells
namespace Go.Proofs.Ytaaplpcpifdnfaa
open Go.RowKit

/-- A box that nothing was written into. -/
def ZB (V : World) (b : Nat) : Prop := V.cell? ⟨b, 0, none⟩ = some (.int .i64 0) ∧ V.cell? ⟨b, 1, none⟩ = some (.slice none 0 0) ∧ V.frozen? ⟨b, 0, none⟩ = false ∧ V.frozen? ⟨b, 1, none⟩ = false

theorem ZB.new (U : World) : ZB (U.alloc (.cells #[.int .i64 0, .slice none 0 0] 24)) U.heap.size :=
  ⟨by simp [go_sem], by simp [go_sem], by simp [go_sem], by simp [go_sem]⟩

theorem ZB.later {V w : World} {b : Nat} (hb : Below V.heap.size V w) (h : ZB V b) : ZB w b := by
  have hl : b < V.heap.size := World.block_lt_of_cell? _ _ h.1
  exact ⟨cell_later hb h.1, cell_later hb h.2.1, (hb.frozen (p := ⟨b, 0, none⟩) hl).trans h.2.2.1, (hb.frozen (p := ⟨b, 1, none⟩) hl).trans h.2.2.2⟩

/-- Where To's answer lies, behind it all. -/
structure ToBox (W0 : World) (T0 T1 : Ty) (b : Nat) (c0 c1 : Tr) (g : Nat) (F : World) : Prop where
  low : Below W0.heap.size W0 F
  k : F.cell? ⟨b, 0, none⟩ = some (.int .i64 3)
  l : F.cell? ⟨b, 1, none⟩ = some (.slice (some ⟨g, 0, none⟩) 2 2)
  t0 : c0.ty = T0
  t1 : c1.ty = T1
  i : (Tr.mk 3 (some ⟨g, 0, none⟩) 2 [c0, c1]).In F

theorem ToBox.of {W0 V1 w7 V2 w8 V3 w9 F : World} {T0 T1 : Ty} {b : Nat} {c0 c1 : Tr} {g : Nat} (low : Below W0.heap.size W0 F) (k : F.cell? ⟨b, 0, none⟩ = some (.int .i64 3)) (l : F.cell? ⟨b, 1, none⟩ = some (.slice (some ⟨g, 0, none⟩) 2 2)) (t0 : c0.ty = T0) (t1 : c1.ty = T1)
    (i0 : c0.In w7) (b0 : c0.Bl (V1.heap.size ≤ ·)) (i1 : c1.In w8) (b1 : c1.Bl (V2.heap.size ≤ ·)) (h72 : Below w7.heap.size w7 V2) (h28 : Below V2.heap.size V2 w8) (h83 : Below w8.heap.size w8 V3) (h39 : Below V3.heap.size V3 w9)
    (hg : V3.heap.size ≤ g) (g0 : w9.cell? ⟨g, 0, none⟩ = some (.int .i64 c0.k)) (g1 : w9.cell? ⟨g, 1, none⟩ = some (.slice c0.a c0.l.length c0.c)) (g2 : w9.cell? ⟨g, 2, none⟩ = some (.int .i64 c1.k)) (g3 : w9.cell? ⟨g, 3, none⟩ = some (.slice c1.a c1.l.length c1.c))
    (hF : ∀ q, q < w9.heap.size → q ≠ b → F.heap[q]? = w9.heap[q]?) (n0 : b < V1.heap.size ∨ w7.heap.size ≤ b) (n1 : b < V2.heap.size ∨ w8.heap.size ≤ b) (n2 : b < V3.heap.size ∨ w9.heap.size ≤ b) : ToBox W0 T0 T1 b c0 c1 g F := by
  have s1 := h72.size
  have s2 := h28.size
  have s3 := h83.size
  have s4 := h39.size
  have hgl : g < w9.heap.size := World.block_lt_of_cell? _ _ g0
  have hgc : ∀ o, F.cell? ⟨g, o, none⟩ = w9.cell? ⟨g, o, none⟩ := fun o => World.cell?_of_block (a := ⟨g, o, none⟩) (hF g hgl (by omega))
  have hb89 : Below w8.heap.size w8 w9 := h83.trans (h39.mono s3)
  have hb79 : Below w7.heap.size w7 w9 := (h72.trans (h28.mono s1)).trans (hb89.mono (by omega))
  refine ⟨low, k, l, t0, t1, Tr.In_two ((hgc _).trans g0) ((hgc _).trans g1) ((hgc _).trans g2) ((hgc _).trans g3) ?_ ?_⟩
  · refine i0.congr (P := fun q => q < w7.heap.size ∧ V1.heap.size ≤ q) (fun q hq o => ?_) (i0.bl.and b0)
    rw [World.cell?_of_block (a := ⟨q, o, none⟩) (hF q (by omega) (by omega))]
    exact hb79.cell (p := ⟨q, o, none⟩) hq.1
  · refine i1.congr (P := fun q => q < w8.heap.size ∧ V2.heap.size ≤ q) (fun q hq o => ?_) (i1.bl.and b1)
    rw [World.cell?_of_block (a := ⟨q, o, none⟩) (hF q (by omega) (by omega))]
    exact hb89.cell (p := ⟨q, o, none⟩) hq.1

theorem set_other {w : World} {b : Nat} {u v : Value} : ∀ q, q < w.heap.size → q ≠ b → ((w.setCell ⟨b, 0, none⟩ u).setCell ⟨b, 1, none⟩ v).heap[q]? = w.heap[q]? := fun q _ h => by
  rw [Below.heap_setCell _ _ _ _ h, Below.heap_setCell _ _ _ _ h]

/-- How many nodes, without addresses. -/
def szY : Ty → Nat
  | ⟨_, l⟩ => (l.map fun t => szY t).sum + 1
theorem szY_mk (k : Int) (l : List Ty) : szY ⟨k, l⟩ = (l.map szY).sum + 1 := by rw [szY]

theorem sz_ty (t : Tr) : t.sz = szY t.ty := by
  induction t using Tr.ind with
  | h k a c l ih =>
    rw [Tr.sz_mk, Tr.ty_mk, szY_mk, List.map_map]
    congr 2
    exact List.map_congr_left fun t ht => ih t ht

theorem szY_join : ∀ (X Y : Ty), szY (joinY X Y) ≤ szY X := by
  intro X
  induction X using Ty.ind with
  | h k l ih =>
    rintro ⟨k', l'⟩
    rw [joinY_mk]
    by_cases e : k = k'
    · rw [if_pos e, szY_mk, szY_mk]
      have h : ∀ (l l' : List Ty), (∀ t, t ∈ l → ∀ Y, szY (joinY t Y) ≤ szY t) → ((joinL l l').map szY).sum ≤ (l.map szY).sum := by
        intro l
        induction l with
        | nil => intro l' _; cases l' <;> simp [joinL]
        | cons x r ihr =>
          intro l' hl
          cases l' with
          | nil => simp [joinL]
          | cons y s =>
            have h1 := ihr s fun t ht => hl t (List.mem_cons_of_mem _ ht)
            have h2 := hl x List.mem_cons_self y
            simp only [joinL, List.map_cons, List.sum_cons]; omega
      have := h l l' ih
      omega
    · rw [if_neg e, szY_mk, szY_mk]
      simp

theorem szY_ground (T : Ty) : szY (groundY T) ≤ 3 := by
  unfold groundY
  split <;> simp [szY_mk]

/-- Two trees of one type, not too great: the document's own look at them says that they are alike. -/
theorem sameType_ty (p q : Tr) (W : World) (hp : p.In W) (hq : q.In W) (ht : p.ty = q.ty) (hz : p.sz ≤ 10000000) :
    Calls Try.prog 11 #[.agg #[.int .i64 p.k, .slice p.a p.l.length p.c], .agg #[.int .i64 q.k, .slice q.a q.l.length q.c]] W fun e w' => e = .returned (.bool true) ∧ Below W.heap.size W w' := by
  have h := sameType_any 10000000 p q W hp hq (by have := p.hgt_sz; omega) (p.sm_sz (by omega))
  rw [ht, same_refl] at h
  exact h
end Go.Proofs.Ytaaplpcpifdnfaa
