/-
  A box of a term's seven cells; a row of terms that a call makes longer; no program's run in it.
-/
import Derived.Test.YtibjnkpmnimgoaaDoorTerm
import Derived.Test.YtibjnkpmnimgoaaDoorRead
import Derived.Deep.AppendLies
import Derived.Deep.RegionLaw
namespace Go.Proofs.YtibjnkpmnimgoaaDoor
open Go.RowKit

theorem Kept.fz {R : Nat} {w w' : World} (h : Kept R none w w') {b i : Nat} (hf : w.frozen? ⟨b, i, none⟩ = false) (hl : b < w.heap.size) (hb : b ≠ R) : w'.frozen? ⟨b, i, none⟩ = false :=
  (World.frozen?_of_block (a := ⟨b, i, none⟩) (h.block b hl hb (by simp))).trans hf

theorem Kept.refl {R : Nat} {w : World} : Kept R none w w := ⟨rfl, rfl, rfl, Nat.le_refl _, fun _ _ _ _ => rfl⟩

/-- A store into a block that is new. -/
theorem Kept.new {R k : Nat} {w w' w'' : World} (h : Kept R none w w') (hk : Kept k none w' w'') (hn : w.heap.size ≤ k) : Kept R none w w'' :=
  ⟨hk.os.trans h.os, hk.tape.trans h.tape, hk.output.trans h.output, Nat.le_trans h.size hk.size, fun q hq h1 h2 => (hk.block q (by have := h.size; omega) (by omega) h2).trans (h.block q hq h1 h2)⟩

theorem RS.new {R k : Nat} {ws : List ByteArray} {b : Bool} {w w' : World} (h : RS R ws b w) (hk : Kept k none w w') (hR : R < k) : RS R ws b w' := by
  have hl := h.lt
  obtain ⟨⟨a, c, hc, hn, hw⟩, h1, h2, h3, hz⟩ := h
  refine ⟨⟨a, c, hk.cell hc (by omega), hn, fun hne => ?_⟩, hk.cell h1 (by omega), hk.fz h2 hl (by omega), hk.fz h3 hl (by omega), hz⟩
  obtain ⟨A, o, ha, hA, hx⟩ := hw hne
  exact ⟨A, o, ha, hA, fun i x hi => hk.cell (hx i x hi) (by omega)⟩

/-- Seven cells that may be written. -/
structure Box7 (w : World) (J : Nat) (x : TT) : Prop where
  at7 : At7 w J 0 x
  fz : ∀ i, i < 7 → w.frozen? ⟨J, i, none⟩ = false

theorem Box7.lt {w : World} {J : Nat} {x : TT} (h : Box7 w J x) : J < w.heap.size := h.at7.lt

theorem Box7.kept {R J : Nat} {w w' : World} {x : TT} (h : Box7 w J x) (hk : Kept R none w w') (hJ : J ≠ R) : Box7 w' J x :=
  ⟨h.at7.keptR hk hJ, fun i hi => hk.fz (h.fz i hi) h.lt hJ⟩

theorem Box7.below {J : Nat} {w w' : World} {x : TT} (h : Box7 w J x) (hb : Below w.heap.size w w') : Box7 w' J x :=
  ⟨h.at7.below hb, fun i hi => (hb.frozen (p := ⟨J, i, none⟩) h.lt).trans (h.fz i hi)⟩

theorem Box7.set6 {w : World} {J : Nat} {x : TT} {a' : Option Addr} {c' : Nat} {l' : List TT} (h : Box7 w J x) : Box7 (w.setCell ⟨J, 6, none⟩ (.slice a' l'.length c')) J { x with a := a', c := c', l := l' } := by
  have h7 := h.at7
  refine ⟨⟨?_, ?_, ?_, ?_, ?_, ?_, ?_⟩, fun i hi => by rw [World.frozen?_setCell]; exact h.fz i hi⟩
  · rw [World.cell?_setCell_other _ _ _ _ (by simp)]; exact h7.c0
  · rw [World.cell?_setCell_other _ _ _ _ (by simp)]; exact h7.c1
  · rw [World.cell?_setCell_other _ _ _ _ (by simp)]; exact h7.c2
  · rw [World.cell?_setCell_other _ _ _ _ (by simp)]; exact h7.c3
  · rw [World.cell?_setCell_other _ _ _ _ (by simp)]; exact h7.c4
  · rw [World.cell?_setCell_other _ _ _ _ (by simp)]; exact h7.c5
  · exact World.cell?_setCell_same _ _ _ (by simpa using h7.c6)

theorem Box7.set23 {w : World} {J : Nat} {x : TT} {t : Tr} (h : Box7 w J x) : Box7 ((w.setCell ⟨J, 2, none⟩ (.int .i64 t.k)).setCell ⟨J, 3, none⟩ (.slice t.a t.l.length t.c)) J { x with t := t } := by
  have h7 := h.at7
  refine ⟨⟨?_, ?_, ?_, ?_, ?_, ?_, ?_⟩, fun i hi => by rw [World.frozen?_setCell, World.frozen?_setCell]; exact h.fz i hi⟩
  · rw [World.cell?_setCell_other _ _ _ _ (by simp), World.cell?_setCell_other _ _ _ _ (by simp)]; exact h7.c0
  · rw [World.cell?_setCell_other _ _ _ _ (by simp), World.cell?_setCell_other _ _ _ _ (by simp)]; exact h7.c1
  · rw [World.cell?_setCell_other _ _ _ _ (by simp)]; exact World.cell?_setCell_same _ _ _ (by simpa using h7.c2)
  · refine World.cell?_setCell_same _ _ _ (u := .slice x.t.a x.t.l.length x.t.c) ?_
    rw [World.cell?_setCell_other _ _ _ _ (by simp)]; simpa using h7.c3
  · rw [World.cell?_setCell_other _ _ _ _ (by simp), World.cell?_setCell_other _ _ _ _ (by simp)]; exact h7.c4
  · rw [World.cell?_setCell_other _ _ _ _ (by simp), World.cell?_setCell_other _ _ _ _ (by simp)]; exact h7.c5
  · rw [World.cell?_setCell_other _ _ _ _ (by simp), World.cell?_setCell_other _ _ _ _ (by simp)]; exact h7.c6

/-- All seven cells written. -/
def put7 (w : World) (J : Nat) (x : TT) : World :=
  ((((((w.setCell ⟨J, 0, none⟩ (.int .i64 x.k)).setCell ⟨J, 1, none⟩ (.int .i64 x.n)).setCell ⟨J, 2, none⟩ (.int .i64 x.t.k)).setCell ⟨J, 3, none⟩ (.slice x.t.a x.t.l.length x.t.c)).setCell ⟨J, 4, none⟩ (.int .i64 x.f.k)).setCell ⟨J, 5, none⟩ (.slice x.f.a x.f.l.length x.f.c)).setCell ⟨J, 6, none⟩ (.slice x.a x.l.length x.c)

theorem set_get {w : World} {J i j : Nat} {u v : Value} (h : w.cell? ⟨J, i, none⟩ = some u) : (w.setCell ⟨J, j, none⟩ v).cell? ⟨J, i, none⟩ = some (if i = j then v else u) := by
  by_cases e : i = j
  · subst e
    rw [if_pos rfl]
    exact World.cell?_setCell_same _ _ _ h
  · rw [if_neg e, World.cell?_setCell_other _ _ _ _ (by simp)]
    exact h

theorem put7_box {w : World} {J : Nat} {x y : TT} (h : Box7 w J y) : Box7 (put7 w J x) J x := by
  have h7 := h.at7
  have c0 := h7.c0
  have c1 := h7.c1
  have c2 := h7.c2
  have c3 := h7.c3
  have c4 := h7.c4
  have c5 := h7.c5
  have c6 := h7.c6
  simp only [Nat.zero_add] at c0 c1 c2 c3 c4 c5 c6
  have key : ∀ i u, w.cell? ⟨J, i, none⟩ = some u → (put7 w J x).cell? ⟨J, i, none⟩ = some (if i = 6 then .slice x.a x.l.length x.c else if i = 5 then .slice x.f.a x.f.l.length x.f.c else if i = 4 then .int .i64 x.f.k else if i = 3 then .slice x.t.a x.t.l.length x.t.c else if i = 2 then .int .i64 x.t.k else if i = 1 then .int .i64 x.n else if i = 0 then .int .i64 x.k else u) := by
    intro i u hu
    exact set_get (set_get (set_get (set_get (set_get (set_get (set_get hu))))))
  refine ⟨⟨?_, ?_, ?_, ?_, ?_, ?_, ?_⟩, fun i hi => ?_⟩
  · simpa using key 0 _ c0
  · simpa using key 1 _ c1
  · simpa using key 2 _ c2
  · simpa using key 3 _ c3
  · simpa using key 4 _ c4
  · simpa using key 5 _ c5
  · simpa using key 6 _ c6
  · simp only [put7, World.frozen?_setCell]
    exact h.fz i hi

theorem put7_kept {w : World} {J : Nat} {x : TT} : Kept J none w (put7 w J x) :=
  setR_kept.trans (setR_kept.trans (setR_kept.trans (setR_kept.trans (setR_kept.trans (setR_kept.trans setR_kept)))))

theorem set23_kept {w : World} {J : Nat} {u v : Value} : Kept J none w ((w.setCell ⟨J, 2, none⟩ u).setCell ⟨J, 3, none⟩ v) :=
  setR_kept.trans setR_kept

/-! ### A row of terms -/

def cells7 (cs : List TT) : List Value := cs.flatMap fun x => [.int .i64 x.k, .int .i64 x.n, .int .i64 x.t.k, .slice x.t.a x.t.l.length x.t.c, .int .i64 x.f.k, .slice x.f.a x.f.l.length x.f.c, .slice x.a x.l.length x.c]

theorem cells7_append (a b : List TT) : cells7 (a ++ b) = cells7 a ++ cells7 b := by simp [cells7]

theorem cells7_at : ∀ (l : List TT) (j : Nat) (h : j < l.length) (i : Nat), i < 7 → (cells7 l)[j * 7 + i]? = [Value.int .i64 l[j].k, .int .i64 l[j].n, .int .i64 l[j].t.k, .slice l[j].t.a l[j].t.l.length l[j].t.c, .int .i64 l[j].f.k, .slice l[j].f.a l[j].f.l.length l[j].f.c, .slice l[j].a l[j].l.length l[j].c][i]?
  | [], j, h, _, _ => by simp at h
  | x :: r, 0, _, i, hi => by
    obtain rfl | rfl | rfl | rfl | rfl | rfl | rfl : i = 0 ∨ i = 1 ∨ i = 2 ∨ i = 3 ∨ i = 4 ∨ i = 5 ∨ i = 6 := by omega
    all_goals simp [cells7]
  | x :: r, j + 1, h, i, hi => by
    have ih := cells7_at r j (by simpa using h) i hi
    have e : (j + 1) * 7 + i = (j * 7 + i) + 1 + 1 + 1 + 1 + 1 + 1 + 1 := by omega
    rw [e]
    simpa [cells7] using ih

/-- A list that the call makes: its row, and what lies in it. -/
structure Row (base : Nat) (v : Value) (cs : List TT) (w : World) : Prop where
  own : w.ownsRow base 27 7 v cs.length (cells7 cs)
  ins : ∀ c, c ∈ cs → c.In w ∧ c.Bl (fun b => base ≤ b ∧ some b ≠ v.ownBlock)

theorem Row.nil (base : Nat) (w : World) : Row base (.slice none 0 0) [] w := ⟨World.ownsRow_nil _ _ _ _, fun c h => by cases h⟩

theorem Row.kept {base R : Nat} {v : Value} {cs : List TT} {w w' : World} (h : Row base v cs w) (hk : Kept R none w w') (hR : R < base) : Row base v cs w' := by
  refine ⟨⟨h.own.1, ?_⟩, fun c hc => ⟨(h.ins c hc).1.keptR hk ((h.ins c hc).2.mono fun b hb => by omega), (h.ins c hc).2⟩⟩
  rcases h.own.2 with hn | ⟨g, cap, cur, hv, hb, hg, rest⟩
  · exact .inl hn
  · exact .inr ⟨g, cap, cur, hv, hb, (hk.block g (Array.getElem?_eq_some_iff.1 hg).1 (by omega) (by simp)).trans hg, rest⟩

theorem Row.below {base : Nat} {v : Value} {cs : List TT} {w w' : World} (h : Row base v cs w) (hb : Below w.heap.size w w') : Row base v cs w' := by
  refine ⟨⟨h.own.1, ?_⟩, fun c hc => ⟨(h.ins c hc).1.below hb, (h.ins c hc).2⟩⟩
  rcases h.own.2 with hn | ⟨g, cap, cur, hv, hb', hg, rest⟩
  · exact .inl hn
  · exact .inr ⟨g, cap, cur, hv, hb', (hb.block g (Array.getElem?_eq_some_iff.1 hg).1).trans hg, rest⟩

/-- One more. -/
theorem Row.step {base : Nat} {v : Value} {cs : List TT} {w2 w3 : World} {c : TT} {gg cap1 : Nat} {X : Obj} (h : Row base v cs w2) (hin : c.In w2) (hbl : c.Bl (fun b => base ≤ b ∧ some b ≠ v.ownBlock))
    (hown : w3.ownsRow base 27 7 (.slice (some ⟨gg, 0, none⟩) (cs.length + 1) cap1) (cs.length + 1) (cells7 cs ++ cells7 [c])) (hgrow : (w2.alloc X).grownBy w3 v.ownBlock) (hat : v.ownBlock = some gg ∨ gg = w2.heap.size + 1) :
    Row base (.slice (some ⟨gg, 0, none⟩) (cs.length + 1) cap1) (cs ++ [c]) w3 ∧ ∀ k, k < w2.heap.size → some k ≠ v.ownBlock → w3.heap[k]? = w2.heap[k]? := by
  have hblk : ∀ k, k < w2.heap.size → some k ≠ v.ownBlock → w3.heap[k]? = w2.heap[k]? := fun k hk hn => by
    rw [hgrow.block k (by simp; omega) hn]
    exact ((Below.refl _ w2).alloc (Nat.le_refl _) X).block k hk
  refine ⟨⟨by rw [cells7_append, List.length_append, List.length_singleton]; exact hown, fun d hd => ?_⟩, hblk⟩
  have key : d.In w2 ∧ d.Bl (fun b => base ≤ b ∧ some b ≠ v.ownBlock) := by
    rcases List.mem_append.1 hd with hd | hd
    · exact h.ins d hd
    · rcases List.mem_singleton.1 hd with rfl
      exact ⟨hin, hbl⟩
  have i3 := key.1.bl.and key.2
  refine ⟨key.1.congr (P := fun b => b < w2.heap.size ∧ base ≤ b ∧ some b ≠ v.ownBlock) (fun b hb i => ?_) i3, i3.mono fun b hb => ⟨hb.2.1, ?_⟩⟩
  · exact World.cell?_of_block (a := ⟨b, i, none⟩) (hblk b hb.1 hb.2.2)
  · show some b ≠ some gg
    rcases hat with e | e
    · rw [← e]; exact hb.2.2
    · simp only [ne_eq, Option.some.injEq]; omega

/-- A row that the call owns is a term's list. -/
theorem Row.list {base : Nat} {v : Value} {cs : List TT} {w : World} (h : Row base v cs w) : ∃ a c, v = .slice a cs.length c ∧ (∀ j (hj : j < cs.length), ∃ b o, a = some ⟨b, o, none⟩ ∧ At7 w b (o + j * 7) cs[j]) ∧ (∀ y, cs ≠ [] → a = some y → base ≤ y.block) := by
  rcases h.own.2 with ⟨rfl, h0⟩ | ⟨g, cap, cur, rfl, hg, _⟩
  · have : cs = [] := List.length_eq_zero_iff.1 h0
    subst this
    exact ⟨none, 0, rfl, fun j hj => absurd hj (by simp), fun y h => absurd rfl h⟩
  · refine ⟨_, _, rfl, fun j hj => ⟨g, 0, rfl, ?_⟩, fun y _ hy => by cases hy; exact hg⟩
    have hc : ∀ i, i < 7 → w.cell? ⟨g, 0 + j * 7 + i, none⟩ = _ := fun i hi => by rw [Nat.zero_add, h.own.cellAt (j * 7 + i) (by omega), cells7_at cs j hj i hi]
    exact ⟨hc 0 (by omega), hc 1 (by omega), hc 2 (by omega), hc 3 (by omega), hc 4 (by omega), hc 5 (by omega), hc 6 (by omega)⟩

theorem Row.tree {base : Nat} {v : Value} {cs : List TT} {w : World} (h : Row base v cs w) : ∃ a c, v = .slice a cs.length c ∧ ∀ k n t f, t.In w → f.In w → (TT.mk k n t f a c cs).In w ∧ (∀ P : Nat → Prop, (∀ b, base ≤ b → P b) → t.Bl P → f.Bl P → (TT.mk k n t f a c cs).Bl P) := by
  obtain ⟨a, c, hv, hl, hb⟩ := h.list
  refine ⟨a, c, hv, fun k n t f ht hf => ⟨TT.In_mk.2 ⟨ht, hf, hl, fun x hx => (h.ins x hx).1⟩, fun P hP h1 h2 => TT.Bl_mk.2 ⟨h1, h2, fun hne x hx => hP _ (hb x hne hx), fun x hx => (h.ins x hx).2.mono fun b hb => hP b hb.1⟩⟩⟩

theorem Row.lt {base : Nat} {v : Value} {cs : List TT} {w : World} (h : Row base v cs w) (k : Nat) (hk : v.ownBlock = some k) : base ≤ k ∧ k < w.heap.size := h.own.lt k hk
end Go.Proofs.YtibjnkpmnimgoaaDoor
