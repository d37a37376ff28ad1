/-
  What the call of check's typesOf answers: the types of a row of readings, in a row of their own.
-/
import Derived.Test.YtnddkmccagiclabGreatDoorLot683b629a1a
import Derived.Test.YtnddkmccagiclabGreatDoorLotaf7b3021f5
import Derived.Test.YtnddkmccagiclabGreatDoorLotabe26c0bfc
import Derived.Test.YtnddkmccagiclabGreatDoorLotabeb265aa8
import Derived.Deep.AppendLies
namespace Go.Proofs.YtnddkmccagiclabGreatDoor
open Go.RowKit
theorem makeN (n : Nat) (hn : n ≤ 1000) (w : World) : (Instr.makeSlice 22 (.int .i64 (n : Int)) (.int .i64 (n : Int))).run Tryz.prog w = .ok (.slice (some ⟨w.heap.size, 0, none⟩) n n) (w.alloc (.cells (madeCells #[.int .i64 0, .slice none 0 0] (n * 2)) 24)) := by
  obtain ⟨i0, hi0, hz0, hz1, hz2⟩ := info_parts Tryz.info24
  have h := run_make (P := Tryz.prog) w 22 24 i0 _ Tryz.underlying22 hi0 hz0 .i64 .i64 (n : Int) (n : Int) (by omega) (by omega) (by rw [hz2]; omega) (by omega)
  rw [h, hz1]
  rfl
/-- The row while it is filled: the first j types stand, all cells are there. -/
structure TyRow (w : World) (g : Nat) (rs : List Rd) (j : Nat) (wr : World) : Prop where
  bel : Below w.heap.size w wr
  is : ∀ q (h : q < rs.length), q < j → wr.cell? ⟨g, q * 2, none⟩ = some (.int .i64 rs[q].i.k) ∧ wr.cell? ⟨g, q * 2 + 1, none⟩ = some (.slice rs[q].i.a rs[q].i.l.length rs[q].i.c)
  any : ∀ i, i < rs.length * 2 → ∃ v, wr.cell? ⟨g, i, none⟩ = some v
  fz : ∀ i, wr.frozen? ⟨g, i, none⟩ = false
theorem TyRow.start (w : World) (rs : List Rd) : TyRow w w.heap.size rs 0 (w.alloc (.cells (madeCells #[.int .i64 0, .slice none 0 0] (rs.length * 2)) 24)) := by
  refine ⟨(Below.refl _ _).alloc (Nat.le_refl _) _, fun q _ h => absurd h (by omega), fun i hi => ?_, fun i => by simp [go_sem]⟩
  have hs : i < (madeCells #[.int .i64 0, .slice none 0 0] (rs.length * 2)).size := by rw [size_madeCells]; exact hi
  refine ⟨(madeCells #[.int .i64 0, .slice none 0 0] (rs.length * 2))[i], ?_⟩
  simp [go_sem, hs]
theorem TyRow.step {w wr : World} {g j : Nat} {rs : List Rd} (h : TyRow w g rs j wr) (hg : w.heap.size ≤ g) (hgl : g < wr.heap.size) (hj : j < rs.length) (X : Obj) :
    TyRow w g rs (j + 1) (((wr.alloc X).setCell ⟨g, j * 2, none⟩ (.int .i64 rs[j].i.k)).setCell ⟨g, j * 2 + 1, none⟩ (.slice rs[j].i.a rs[j].i.l.length rs[j].i.c)) := by
  have hb : Below wr.heap.size wr (wr.alloc X) := (Below.refl _ _).alloc (Nat.le_refl _) _
  refine ⟨((h.bel.trans (hb.mono h.bel.size)).setCell hg _).setCell hg _, fun q hq hlt => ?_, fun i hi => ?_, fun i => ?_⟩
  · by_cases e : q = j
    · subst e
      obtain ⟨v0, hv0⟩ := h.any (q * 2) (by omega)
      obtain ⟨v1, hv1⟩ := h.any (q * 2 + 1) (by omega)
      constructor
      · simpa using set_get (j := q * 2 + 1) (v := .slice rs[q].i.a rs[q].i.l.length rs[q].i.c) (set_get (j := q * 2) (v := .int .i64 rs[q].i.k) (cell_later hb hv0))
      · simpa using set_get (j := q * 2 + 1) (v := .slice rs[q].i.a rs[q].i.l.length rs[q].i.c) (set_get (j := q * 2) (v := .int .i64 rs[q].i.k) (cell_later hb hv1))
    · obtain ⟨c0, c1⟩ := h.is q hq (by omega)
      have n1 : q * 2 ≠ j * 2 := by omega
      have n2 : q * 2 ≠ j * 2 + 1 := by omega
      have n3 : q * 2 + 1 ≠ j * 2 := by omega
      have n4 : q * 2 + 1 ≠ j * 2 + 1 := by omega
      constructor
      · have := set_get (j := j * 2 + 1) (v := .slice rs[j].i.a rs[j].i.l.length rs[j].i.c) (set_get (j := j * 2) (v := .int .i64 rs[j].i.k) (cell_later hb c0))
        rw [if_neg n2, if_neg n1] at this
        exact this
      · have := set_get (j := j * 2 + 1) (v := .slice rs[j].i.a rs[j].i.l.length rs[j].i.c) (set_get (j := j * 2) (v := .int .i64 rs[j].i.k) (cell_later hb c1))
        rw [if_neg n4, if_neg n3] at this
        exact this
  · obtain ⟨v, hv⟩ := h.any i hi
    exact ⟨_, set_get (j := j * 2 + 1) (v := .slice rs[j].i.a rs[j].i.l.length rs[j].i.c) (set_get (j := j * 2) (v := .int .i64 rs[j].i.k) (cell_later hb hv))⟩
  · have := (hb.frozen (p := ⟨g, i, none⟩) hgl).trans (h.fz i)
    simpa using this
set_option maxRecDepth 20000 in
set_option maxHeartbeats 1000000 in
/-- typesOf. -/
theorem typesOf_any (rs : List Rd) (a : Option Addr) (c : Nat) (w : World) (hr : RL w a rs) (h3 : rs.length ≤ 1000) :
    Calls Tryz.prog 68 #[.slice a rs.length c] w fun e w' => ∃ T : Tr, e = .returned (.slice T.a T.l.length T.c) ∧ T.l = rs.map (fun r => r.i) ∧ T.In w' ∧ (∀ y, T.a = some y → w.heap.size ≤ y.block) ∧ Below w.heap.size w w' := by
  have hmk := makeN rs.length h3
  have HR : Hid (RL w a rs) := hr
  have HT : Hid (TyRow w w.heap.size rs 0 (w.alloc (.cells (madeCells #[.int .i64 0, .slice none 0 0] (rs.length * 2)) 24))) := TyRow.start w rs
  clear hr
  go_enter Tryz.func68, Tryz.ntmps68
  go_wp2_with fail
  go_loopg [11] rs.length (fun g i wr => ∃ (j : Nat), g + j = rs.length ∧ i = .int .i64 (j : Int) ∧ Hid (TyRow w w.heap.size rs j wr ∧ w.heap.size < wr.heap.size))
  case atStart => exact ⟨0, by omega, rfl, HT.out, by simp⟩
  case round =>
    obtain ⟨j, hj, rfl, HQ⟩ := hrel
    by_cases hlt : j < rs.length
    · obtain ⟨b, o, ea, h10, hy, hi⟩ := HR.out j hlt
      have hb := HQ.out.1.bel
      have h11 := h10.below hb
      obtain ⟨d0, ⟨d1, d2, d3, d4, d5, d6, d7⟩, d8, d9⟩ := h11
      have i1 : (j : Int) < (rs.length : Int) := by omega
      have i0 : (0 : Int) ≤ (j : Int) := by omega
      have HEA : Hid (a = some ⟨b, o, none⟩) := ea
      rw [ea]
      have hbA : ∀ X, Below wr.heap.size wr (wr.alloc X) := fun X => (Below.refl _ _).alloc (Nat.le_refl _) _
      obtain ⟨x0, hx0⟩ := HQ.out.1.any (j * 2) (by omega)
      obtain ⟨x1, hx1⟩ := HQ.out.1.any (j * 2 + 1) (by omega)
      have v0 := fun X => cell_later (hbA X) hx0
      have v1 := fun X => cell_later (hbA X) hx1
      have vf : ∀ X i, (wr.alloc X).frozen? ⟨w.heap.size, i, none⟩ = false := fun X i => ((hbA X).frozen (p := ⟨w.heap.size, i, none⟩) HQ.out.2).trans (HQ.out.1.fz i)
      have nw : wr.heap.size ≠ w.heap.size := by have := HQ.out.2; omega
      have HN : Hid (TyRow w w.heap.size rs (j + 1) (((wr.alloc (.cells #[.int .i64 rs[j].n, .int .i64 rs[j].y.k, .int .i64 rs[j].y.n, .int .i64 rs[j].y.t.k, .slice rs[j].y.t.a rs[j].y.t.l.length rs[j].y.t.c, .int .i64 rs[j].y.f.k, .slice rs[j].y.f.a rs[j].y.f.l.length rs[j].y.f.c, .slice rs[j].y.a rs[j].y.l.length rs[j].y.c, .int .i64 rs[j].i.k, .slice rs[j].i.a rs[j].i.l.length rs[j].i.c] 64)).setCell ⟨w.heap.size, j * 2, none⟩ (.int .i64 rs[j].i.k)).setCell ⟨w.heap.size, j * 2 + 1, none⟩ (.slice rs[j].i.a rs[j].i.l.length rs[j].i.c)) ∧ w.heap.size < (((wr.alloc (.cells #[.int .i64 rs[j].n, .int .i64 rs[j].y.k, .int .i64 rs[j].y.n, .int .i64 rs[j].y.t.k, .slice rs[j].y.t.a rs[j].y.t.l.length rs[j].y.t.c, .int .i64 rs[j].y.f.k, .slice rs[j].y.f.a rs[j].y.f.l.length rs[j].y.f.c, .slice rs[j].y.a rs[j].y.l.length rs[j].y.c, .int .i64 rs[j].i.k, .slice rs[j].i.a rs[j].i.l.length rs[j].i.c] 64)).setCell ⟨w.heap.size, j * 2, none⟩ (.int .i64 rs[j].i.k)).setCell ⟨w.heap.size, j * 2 + 1, none⟩ (.slice rs[j].i.a rs[j].i.l.length rs[j].i.c)).heap.size) :=
        ⟨HQ.out.1.step (Nat.le_refl _) HQ.out.2 hlt _, by have := HQ.out.2; simp [World.setCell]; omega⟩
      clear ea hbA hb h10 hy hi HQ HT
      go_wp2_with fail
      rw [← HEA.out]
      go_roundg (rs.length - (j + 1))
      case measure => omega
      case rel => exact ⟨j + 1, by omega, by go_num, HN⟩
    · have HE : Hid (TyRow w w.heap.size rs j wr) := HQ.out.1
      have HJ : Hid (rs.length ≤ j) := by exact Nat.le_of_not_lt hlt
      clear HQ
      go_wp2_with fail
      go_ret
      refine ⟨⟨0, some ⟨w.heap.size, 0, none⟩, rs.length, rs.map fun r => r.i⟩, by simp, rfl, ?_, fun y hy => by cases hy; exact Nat.le_refl _, HE.out.bel⟩
      refine Tr.In_mk.2 ⟨fun q hq => ?_, fun t ht => ?_⟩
      · have hq' : q < rs.length := by simpa using hq
        obtain ⟨c0, c1⟩ := HE.out.is q hq' (by have := HJ.out; omega)
        exact ⟨w.heap.size, 0, rfl, by simpa using c0, by simpa [Tr.sl] using c1⟩
      · obtain ⟨r, hr, rfl⟩ := List.mem_map.1 ht
        obtain ⟨q, hq, rfl⟩ := List.getElem_of_mem hr
        obtain ⟨_, _, _, _, _, hi⟩ := HR.out q hq
        exact hi.below HE.out.bel
end Go.Proofs.YtnddkmccagiclabGreatDoor

/-
  A row of terms while it is filled, place by place; what the call of check's cast answers, whole.
-/
namespace Go.Proofs.YtnddkmccagiclabGreatDoor
open Go.RowKit
theorem cast_any (r : Rd) (u : Tr) (w : World) (hu : u.In w) (hi : r.i.In w) (hy : r.y.In w) (hh : r.i.hgt ≤ 1000) (hs : r.i.sm) (ri : r.i.right) (ru : u.right) (hhu : u.hgt ≤ 1000) :
    Calls Tryz.prog 109 #[.agg #[.int .i64 r.n, .int .i64 r.y.k, .int .i64 r.y.n, .int .i64 r.y.t.k, .slice r.y.t.a r.y.t.l.length r.y.t.c, .int .i64 r.y.f.k, .slice r.y.f.a r.y.f.l.length r.y.f.c, .slice r.y.a r.y.l.length r.y.c, .int .i64 r.i.k, .slice r.i.a r.i.l.length r.i.c], .agg #[.int .i64 u.k, .slice u.a u.l.length u.c]] w (CPost r u w) := by
  cases hr : relY escSame r.i.ty u.ty with
  | true => exact cast_same r u w hu hi hy hh hs hr
  | false => exact cast_diff r u w hu hi hy hh hs ri ru hhu hr
def put7at (w : World) (J o : Nat) (x : TT) : World :=
  ((((((w.setCell ⟨J, o, none⟩ (.int .i64 x.k)).setCell ⟨J, o + 1, none⟩ (.int .i64 x.n)).setCell ⟨J, o + 2, none⟩ (.int .i64 x.t.k)).setCell ⟨J, o + 3, none⟩ (.slice x.t.a x.t.l.length x.t.c)).setCell ⟨J, o + 4, none⟩ (.int .i64 x.f.k)).setCell ⟨J, o + 5, none⟩ (.slice x.f.a x.f.l.length x.f.c)).setCell ⟨J, o + 6, none⟩ (.slice x.a x.l.length x.c)
theorem put7at_get {w : World} {J o i : Nat} {u : Value} (x : TT) (hu : w.cell? ⟨J, i, none⟩ = some u) : (put7at w J o x).cell? ⟨J, i, none⟩ = some (if i = o + 6 then .slice x.a x.l.length x.c else if i = o + 5 then .slice x.f.a x.f.l.length x.f.c else if i = o + 4 then .int .i64 x.f.k else if i = o + 3 then .slice x.t.a x.t.l.length x.t.c else if i = o + 2 then .int .i64 x.t.k else if i = o + 1 then .int .i64 x.n else if i = o then .int .i64 x.k else u) :=
  set_get (set_get (set_get (set_get (set_get (set_get (set_get hu))))))
theorem put7at_kept {w : World} {J o : Nat} {x : TT} : Kept J none w (put7at w J o x) :=
  setR_kept.trans (setR_kept.trans (setR_kept.trans (setR_kept.trans (setR_kept.trans (setR_kept.trans setR_kept)))))
theorem put7at_size {w : World} {J o : Nat} {x : TT} : (put7at w J o x).heap.size = w.heap.size := by
  simp [put7at, World.setCell]
/-- The row while it is filled: the first terms stand, all cells are there. -/
structure TmRow (Q : Nat → Prop) (w : World) (g m : Nat) (zs : List TT) (wr : World) : Prop where
  bel : Below w.heap.size w wr
  lt : g < wr.heap.size
  is : ∀ q (h : q < zs.length), At7 wr g (q * 7) zs[q]
  ins : ∀ z, z ∈ zs → z.In wr ∧ z.Bl (fun b => b ≠ g ∧ Q b)
  any : ∀ i, i < m * 7 → ∃ v, wr.cell? ⟨g, i, none⟩ = some v
  fz : ∀ i, wr.frozen? ⟨g, i, none⟩ = false
theorem TmRow.start (Q : Nat → Prop) (w : World) (m : Nat) : TmRow Q w w.heap.size m [] (w.alloc (.cells (madeCells #[.int .i64 0, .int .i64 0, .int .i64 0, .slice none 0 0, .int .i64 0, .slice none 0 0, .slice none 0 0] (m * 7)) 27)) := by
  refine ⟨(Below.refl _ _).alloc (Nat.le_refl _) _, by simp, fun q h => absurd h (by simp), fun z h => (by cases h), fun i hi => ?_, fun i => by simp [go_sem]⟩
  have hs : i < (madeCells #[.int .i64 0, .int .i64 0, .int .i64 0, .slice none 0 0, .int .i64 0, .slice none 0 0, .slice none 0 0] (m * 7)).size := by rw [size_madeCells]; exact hi
  refine ⟨(madeCells #[.int .i64 0, .int .i64 0, .int .i64 0, .slice none 0 0, .int .i64 0, .slice none 0 0, .slice none 0 0] (m * 7))[i], ?_⟩
  simp [go_sem, hs]
theorem TmRow.below {Q : Nat → Prop} {w wr wr' : World} {g m : Nat} {zs : List TT} (h : TmRow Q w g m zs wr) (hb : Below wr.heap.size wr wr') : TmRow Q w g m zs wr' :=
  ⟨h.bel.trans (hb.mono h.bel.size), Nat.lt_of_lt_of_le h.lt hb.size, fun q hq => (h.is q hq).below hb, fun z hz => ⟨(h.ins z hz).1.below hb, (h.ins z hz).2⟩, fun i hi => by obtain ⟨v, hv⟩ := h.any i hi; exact ⟨v, cell_later hb hv⟩, fun i => (hb.frozen (p := ⟨g, i, none⟩) h.lt).trans (h.fz i)⟩
theorem TmRow.step {Q : Nat → Prop} {w wr : World} {g m : Nat} {zs : List TT} {z : TT} (h : TmRow Q w g m zs wr) (hg : w.heap.size ≤ g) (hz : z.In wr) (bz : z.Bl (fun b => b ≠ g ∧ Q b)) (hm : zs.length < m) : TmRow Q w g m (zs ++ [z]) (put7at wr g (zs.length * 7) z) := by
  have hk := put7at_kept (w := wr) (J := g) (o := zs.length * 7) (x := z)
  refine ⟨?_, by rw [put7at_size]; exact h.lt, fun q hq => ?_, fun y hy => ?_, fun i hi => ?_, fun i => ?_⟩
  · exact h.bel.trans ((hk.below (by simp) (Nat.le_of_lt h.lt)).mono hg)
  · have hcell : ∀ i, i < 7 → ∃ v, wr.cell? ⟨g, q * 7 + i, none⟩ = some v := fun i hi => h.any _ (by simp at hq; omega)
    by_cases e : q = zs.length
    · subst e
      have hzz : (zs ++ [z])[zs.length] = z := by simp
      rw [hzz]
      obtain ⟨v0, h0⟩ := hcell 0 (by omega)
      obtain ⟨v1, h1⟩ := hcell 1 (by omega)
      obtain ⟨v2, h2⟩ := hcell 2 (by omega)
      obtain ⟨v3, h3⟩ := hcell 3 (by omega)
      obtain ⟨v4, h4⟩ := hcell 4 (by omega)
      obtain ⟨v5, h5⟩ := hcell 5 (by omega)
      obtain ⟨v6, h6⟩ := hcell 6 (by omega)
      refine ⟨?_, ?_, ?_, ?_, ?_, ?_, ?_⟩
      · simpa using put7at_get (o := zs.length * 7) z h0
      · simpa using put7at_get (o := zs.length * 7) z h1
      · simpa using put7at_get (o := zs.length * 7) z h2
      · simpa using put7at_get (o := zs.length * 7) z h3
      · simpa using put7at_get (o := zs.length * 7) z h4
      · simpa using put7at_get (o := zs.length * 7) z h5
      · simpa using put7at_get (o := zs.length * 7) z h6
    · have hq' : q < zs.length := by simp at hq; omega
      have hzz : (zs ++ [z])[q] = zs[q] := by rw [List.getElem_append_left hq']
      rw [hzz]
      obtain ⟨c0, c1, c2, c3, c4, c5, c6⟩ := h.is q hq'
      have key : ∀ i u, i < 7 → wr.cell? ⟨g, q * 7 + i, none⟩ = some u → (put7at wr g (zs.length * 7) z).cell? ⟨g, q * 7 + i, none⟩ = some u := by
        intro i u hi hu
        have := put7at_get (o := zs.length * 7) z hu
        rw [if_neg (by omega), if_neg (by omega), if_neg (by omega), if_neg (by omega), if_neg (by omega), if_neg (by omega), if_neg (by omega)] at this
        exact this
      exact ⟨key 0 _ (by omega) c0, key 1 _ (by omega) c1, key 2 _ (by omega) c2, key 3 _ (by omega) c3, key 4 _ (by omega) c4, key 5 _ (by omega) c5, key 6 _ (by omega) c6⟩
  · rcases List.mem_append.1 hy with hy | hy
    · exact ⟨(h.ins y hy).1.keptR hk ((h.ins y hy).2.mono fun b hb => hb.1), (h.ins y hy).2⟩
    · rcases List.mem_singleton.1 hy with rfl
      exact ⟨hz.keptR hk (bz.mono fun b hb => hb.1), bz⟩
  · obtain ⟨v, hv⟩ := h.any i hi
    exact ⟨_, put7at_get z hv⟩
  · simp only [put7at, World.frozen?_setCell]
    exact h.fz i
/-- A row that is full is a term's list. -/
theorem TmRow.tree {Q : Nat → Prop} {w wr : World} {g m : Nat} {zs : List TT} (h : TmRow Q w g m zs wr) (hQ : Q g) (k n : Int) (t f : Tr) (c : Nat) (ht : t.In wr) (hf : f.In wr) (bt : t.Bl Q) (bf : f.Bl Q) :
    (TT.mk k n t f (some ⟨g, 0, none⟩) c zs).In wr ∧ (TT.mk k n t f (some ⟨g, 0, none⟩) c zs).Bl Q :=
  ⟨TT.In_mk.2 ⟨ht, hf, fun j hj => ⟨g, 0, rfl, by simpa using h.is j hj⟩, fun x hx => (h.ins x hx).1⟩, TT.Bl_mk.2 ⟨bt, bf, fun _ y hy => by cases hy; exact hQ, fun x hx => (h.ins x hx).2.mono fun b hb => hb.2⟩⟩
end Go.Proofs.YtnddkmccagiclabGreatDoor

/-
  What the call of check's castAll answers: the parts' terms in a row of their own, cast to what they are used as.
-/
namespace Go.Proofs.YtnddkmccagiclabGreatDoor
open Go.RowKit
theorem Tryz.info27c : (Tryz.prog.info? 27).map (fun i => (i.zero, i.size, i.bytes)) = some (some (.agg #[.int .i64 0, .int .i64 0, .int .i64 0, .slice none 0 0, .int .i64 0, .slice none 0 0, .slice none 0 0]), 7, 104) := by kernel_rfl
theorem makeT (n : Nat) (hn : n ≤ 1000) (w : World) : (Instr.makeSlice 25 (.int .i64 (n : Int)) (.int .i64 (n : Int))).run Tryz.prog w = .ok (.slice (some ⟨w.heap.size, 0, none⟩) n n) (w.alloc (.cells (madeCells #[.int .i64 0, .int .i64 0, .int .i64 0, .slice none 0 0, .int .i64 0, .slice none 0 0, .slice none 0 0] (n * 7)) 27)) := by
  obtain ⟨i0, hi0, hz0, hz1, hz2⟩ := info_parts Tryz.info27c
  have h := run_make (P := Tryz.prog) w 25 27 i0 _ Tryz.underlying25 hi0 hz0 .i64 .i64 (n : Int) (n : Int) (by omega) (by omega) (by rw [hz2]; omega) (by omega)
  rw [h, hz1]
  rfl
set_option maxRecDepth 20000 in
set_option maxHeartbeats 4000000 in
/-- castAll. -/
theorem castAll_any (Q : Nat → Prop) (rs : List Rd) (a : Option Addr) (c : Nat) (U : Tr) (w : World) (hr : RL w a rs) (hU : U.In w) (hl : rs.length = U.l.length) (h3 : rs.length ≤ 1000) (hok : ∀ r, r ∈ rs → r.i.right ∧ r.i.hgt ≤ 1000 ∧ r.i.sm) (hu : ∀ u, u ∈ U.l → u.right ∧ u.hgt ≤ 1000)
    (hQ : ∀ b, w.heap.size ≤ b → Q b) (hyQ : ∀ r, r ∈ rs → r.y.Bl Q) :
    Calls Tryz.prog 70 #[.slice a rs.length c, .slice U.a U.l.length U.c] w fun e w' => ∃ zs : List TT, e = .returned (.slice (some ⟨w.heap.size, 0, none⟩) rs.length rs.length) ∧ TmRow Q w w.heap.size rs.length zs w' ∧ zs.length = rs.length ∧ ∀ q (h : q < zs.length) (h1 : q < rs.length) (h2 : q < U.l.length), zs[q].tm = castY rs[q].n rs[q].y.tm rs[q].i.ty U.l[q].ty := by
  have hmk := makeT rs.length h3
  have HF : Hid (∀ j (h : j < rs.length) (h' : j < U.l.length) (W : World), rs[j].y.In W → rs[j].i.In W → U.l[j].In W → Calls Tryz.prog 109 #[.agg #[.int .i64 rs[j].n, .int .i64 rs[j].y.k, .int .i64 rs[j].y.n, .int .i64 rs[j].y.t.k, .slice rs[j].y.t.a rs[j].y.t.l.length rs[j].y.t.c, .int .i64 rs[j].y.f.k, .slice rs[j].y.f.a rs[j].y.f.l.length rs[j].y.f.c, .slice rs[j].y.a rs[j].y.l.length rs[j].y.c, .int .i64 rs[j].i.k, .slice rs[j].i.a rs[j].i.l.length rs[j].i.c], .agg #[.int .i64 U.l[j].k, .slice U.l[j].a U.l[j].l.length U.l[j].c]] W (CPost rs[j] U.l[j] W)) :=
    fun j h h' W h0 h1 h2 => cast_any _ _ W h2 h1 h0 (hok _ (List.getElem_mem h)).2.1 (hok _ (List.getElem_mem h)).2.2 (hok _ (List.getElem_mem h)).1 (hu _ (List.getElem_mem h')).1 (hu _ (List.getElem_mem h')).2
  have HR : Hid (RL w a rs) := hr
  have HU : Hid (U.In w) := hU
  have HL : Hid (rs.length = U.l.length) := hl
  have HQ0 : Hid ((∀ b, w.heap.size ≤ b → Q b) ∧ ∀ r, r ∈ rs → r.y.Bl Q) := ⟨hQ, hyQ⟩
  have HT : Hid (TmRow Q w w.heap.size rs.length [] (w.alloc (.cells (madeCells #[.int .i64 0, .int .i64 0, .int .i64 0, .slice none 0 0, .int .i64 0, .slice none 0 0, .slice none 0 0] (rs.length * 7)) 27))) := TmRow.start Q w rs.length
  clear hr hU hl hok hu hQ hyQ
  go_enter Tryz.func70, Tryz.ntmps70
  go_wp2_with fail
  go_loopg [13] rs.length (fun g i wr => ∃ (j : Nat) (zs : List TT), g + j = rs.length ∧ i = .int .i64 (j : Int) ∧ Hid (TmRow Q w w.heap.size rs.length zs wr ∧ zs.length = j ∧ ∀ q (h : q < zs.length) (h1 : q < rs.length) (h2 : q < U.l.length), zs[q].tm = castY rs[q].n rs[q].y.tm rs[q].i.ty U.l[q].ty))
  case atStart => exact ⟨0, [], by omega, rfl, HT.out, rfl, fun q h => absurd h (by simp)⟩
  case round =>
    obtain ⟨j, zs, hj, rfl, HQ⟩ := hrel
    by_cases hlt : j < rs.length
    · have hlt' : j < U.l.length := HL.out ▸ hlt
      obtain ⟨b, o, ea, h10, hy, hi⟩ := HR.out j hlt
      obtain ⟨b', o', eb, u0, u1, hu⟩ := HU.out.part j hlt'
      have hb := HQ.out.1.bel
      have hb'l : b' < w.heap.size := World.block_lt_of_cell? _ _ u0
      have h11 := h10.below hb
      obtain ⟨d0, ⟨d1, d2, d3, d4, d5, d6, d7⟩, d8, d9⟩ := h11
      replace u0 := cell_later hb u0
      replace u1 := cell_later hb u1
      have i1 : (j : Int) < (rs.length : Int) := by omega
      have i2 : (j : Int) < (U.l.length : Int) := by omega
      have i0 : (0 : Int) ≤ (j : Int) := by omega
      have HEA : Hid (a = some ⟨b, o, none⟩) := ea
      have HEB : Hid (U.a = some ⟨b', o', none⟩) := eb
      rw [ea, eb]
      clear ea eb
      obtain ⟨r, hre⟩ : ∃ r, rs[j] = r := ⟨_, rfl⟩
      obtain ⟨u, hue⟩ : ∃ u, U.l[j] = u := ⟨_, rfl⟩
      have HC := HF.out j hlt hlt'
      have hyl := hy.bl
      have hyq := HQ0.out.2 _ (List.getElem_mem hlt)
      rw [hre] at d0 d1 d2 d3 d4 d5 d6 d7 d8 d9 hy hi HC hyl hyq
      rw [hue] at u0 u1 hu HC
      have HRE : Hid (rs[j] = r ∧ U.l[j] = u) := ⟨hre, hue⟩
      obtain ⟨OX, hOX⟩ : ∃ O, O = Obj.cells #[.int .i64 r.n, .int .i64 r.y.k, .int .i64 r.y.n, .int .i64 r.y.t.k, .slice r.y.t.a r.y.t.l.length r.y.t.c, .int .i64 r.y.f.k, .slice r.y.f.a r.y.f.l.length r.y.f.c, .slice r.y.a r.y.l.length r.y.c, .int .i64 r.i.k, .slice r.i.a r.i.l.length r.i.c] 64 := ⟨_, rfl⟩
      have hbA : Below wr.heap.size wr (wr.alloc OX) := (Below.refl _ _).alloc (Nat.le_refl _) _
      have b0 : (wr.alloc OX).cell? ⟨wr.heap.size, 0, none⟩ = some (.int .i64 r.n) := by subst hOX; simp [go_sem]
      have b1 : (wr.alloc OX).cell? ⟨wr.heap.size, 1, none⟩ = some (.int .i64 r.y.k) := by subst hOX; simp [go_sem]
      have b2 : (wr.alloc OX).cell? ⟨wr.heap.size, 2, none⟩ = some (.int .i64 r.y.n) := by subst hOX; simp [go_sem]
      have b3 : (wr.alloc OX).cell? ⟨wr.heap.size, 3, none⟩ = some (.int .i64 r.y.t.k) := by subst hOX; simp [go_sem]
      have b4 : (wr.alloc OX).cell? ⟨wr.heap.size, 4, none⟩ = some (.slice r.y.t.a r.y.t.l.length r.y.t.c) := by subst hOX; simp [go_sem]
      have b5 : (wr.alloc OX).cell? ⟨wr.heap.size, 5, none⟩ = some (.int .i64 r.y.f.k) := by subst hOX; simp [go_sem]
      have b6 : (wr.alloc OX).cell? ⟨wr.heap.size, 6, none⟩ = some (.slice r.y.f.a r.y.f.l.length r.y.f.c) := by subst hOX; simp [go_sem]
      have b7 : (wr.alloc OX).cell? ⟨wr.heap.size, 7, none⟩ = some (.slice r.y.a r.y.l.length r.y.c) := by subst hOX; simp [go_sem]
      have b8 : (wr.alloc OX).cell? ⟨wr.heap.size, 8, none⟩ = some (.int .i64 r.i.k) := by subst hOX; simp [go_sem]
      have b9 : (wr.alloc OX).cell? ⟨wr.heap.size, 9, none⟩ = some (.slice r.i.a r.i.l.length r.i.c) := by subst hOX; simp [go_sem]
      have v0 := cell_later hbA u0
      have v1 := cell_later hbA u1
      have hbE : Below w.heap.size w (wr.alloc OX) := hb.trans (hbA.mono hb.size)
      have HTA : Hid (TmRow Q w w.heap.size rs.length zs (wr.alloc OX)) := HQ.out.1.below hbA
      have HZ : Hid (zs.length = j ∧ ∀ q (h : q < zs.length) (h1 : q < rs.length) (h2 : q < U.l.length), zs[q].tm = castY rs[q].n rs[q].y.tm rs[q].i.ty U.l[q].ty) := HQ.out.2
      have HI : Hid (r.y.In (wr.alloc OX) ∧ r.i.In (wr.alloc OX) ∧ u.In (wr.alloc OX) ∧ r.y.Bl (fun b => b ≠ w.heap.size ∧ Q b)) := ⟨hy.below hbE, hi.below hbE, hu.below hbE, (hyl.and hyq).mono fun b hb => ⟨by omega, hb.2⟩⟩
      have HCC : Hid (∀ (W : World), r.y.In W → r.i.In W → u.In W → Calls Tryz.prog 109 #[.agg #[.int .i64 r.n, .int .i64 r.y.k, .int .i64 r.y.n, .int .i64 r.y.t.k, .slice r.y.t.a r.y.t.l.length r.y.t.c, .int .i64 r.y.f.k, .slice r.y.f.a r.y.f.l.length r.y.f.c, .slice r.y.a r.y.l.length r.y.c, .int .i64 r.i.k, .slice r.i.a r.i.l.length r.i.c], .agg #[.int .i64 u.k, .slice u.a u.l.length u.c]] W (CPost r u W)) := HC
      have hwl : w.heap.size < wr.heap.size := HQ.out.1.lt
      have nw : wr.heap.size ≠ w.heap.size := by omega
      have nw2 : b' ≠ w.heap.size := by omega
      have HJ : Hid (j < rs.length ∧ w.heap.size < (wr.alloc OX).heap.size) := ⟨hlt, HTA.out.lt⟩
      clear hbA u0 u1 hi hu h10 hy HQ hbE hyl hyq HC hre hue hwl hb
      subst hOX
      go_wp2_with fail
      clear d0 d1 d2 d3 d4 d5 d6 d7 d8 d9
      generalize (wr.alloc (.cells #[.int .i64 r.n, .int .i64 r.y.k, .int .i64 r.y.n, .int .i64 r.y.t.k, .slice r.y.t.a r.y.t.l.length r.y.t.c, .int .i64 r.y.f.k, .slice r.y.f.a r.y.f.l.length r.y.f.c, .slice r.y.a r.y.l.length r.y.c, .int .i64 r.i.k, .slice r.i.a r.i.l.length r.i.c] 64)) = WA at *
      have HS : Hid (∀ w2, Below WA.drew.heap.size WA.drew w2 → w2.cell? ⟨wr.heap.size, 0, none⟩ = some (.int .i64 r.n) ∧ w2.cell? ⟨wr.heap.size, 1, none⟩ = some (.int .i64 r.y.k) ∧ w2.cell? ⟨wr.heap.size, 2, none⟩ = some (.int .i64 r.y.n) ∧ w2.cell? ⟨wr.heap.size, 3, none⟩ = some (.int .i64 r.y.t.k) ∧ w2.cell? ⟨wr.heap.size, 4, none⟩ = some (.slice r.y.t.a r.y.t.l.length r.y.t.c) ∧ w2.cell? ⟨wr.heap.size, 5, none⟩ = some (.int .i64 r.y.f.k) ∧ w2.cell? ⟨wr.heap.size, 6, none⟩ = some (.slice r.y.f.a r.y.f.l.length r.y.f.c) ∧ w2.cell? ⟨wr.heap.size, 7, none⟩ = some (.slice r.y.a r.y.l.length r.y.c) ∧ w2.cell? ⟨wr.heap.size, 8, none⟩ = some (.int .i64 r.i.k) ∧ w2.cell? ⟨wr.heap.size, 9, none⟩ = some (.slice r.i.a r.i.l.length r.i.c) ∧ w2.cell? ⟨b', o' + j * 2, none⟩ = some (.int .i64 u.k) ∧ w2.cell? ⟨b', o' + j * 2 + 1, none⟩ = some (.slice u.a u.l.length u.c)) :=
        fun w2 hb2 => ⟨cell_later hb2 b0, cell_later hb2 b1, cell_later hb2 b2, cell_later hb2 b3, cell_later hb2 b4, cell_later hb2 b5, cell_later hb2 b6, cell_later hb2 b7, cell_later hb2 b8, cell_later hb2 b9, cell_later hb2 v0, cell_later hb2 v1⟩
      have HAN : Hid (∀ w2, Below WA.drew.heap.size WA.drew w2 → (∃ v, w2.cell? ⟨w.heap.size, j * 7, none⟩ = some v) ∧ (∃ v, w2.cell? ⟨w.heap.size, j * 7 + 1, none⟩ = some v) ∧ (∃ v, w2.cell? ⟨w.heap.size, j * 7 + 2, none⟩ = some v) ∧ (∃ v, w2.cell? ⟨w.heap.size, j * 7 + 3, none⟩ = some v) ∧ (∃ v, w2.cell? ⟨w.heap.size, j * 7 + 4, none⟩ = some v) ∧ (∃ v, w2.cell? ⟨w.heap.size, j * 7 + 5, none⟩ = some v) ∧ (∃ v, w2.cell? ⟨w.heap.size, j * 7 + 6, none⟩ = some v) ∧ w2.frozen? ⟨w.heap.size, j * 7, none⟩ = false ∧ w2.frozen? ⟨w.heap.size, j * 7 + 1, none⟩ = false ∧ w2.frozen? ⟨w.heap.size, j * 7 + 2, none⟩ = false ∧ w2.frozen? ⟨w.heap.size, j * 7 + 3, none⟩ = false ∧ w2.frozen? ⟨w.heap.size, j * 7 + 4, none⟩ = false ∧ w2.frozen? ⟨w.heap.size, j * 7 + 5, none⟩ = false ∧ w2.frozen? ⟨w.heap.size, j * 7 + 6, none⟩ = false ∧ Hid (TmRow Q w w.heap.size rs.length zs w2)) := by
        intro w2 hb2
        have hT2 := HTA.out.below (((Below.refl _ _).drew).trans (hb2.mono (Nat.le_refl _)))
        have hj7 : j * 7 + 6 < rs.length * 7 := by have := HJ.out.1; omega
        exact ⟨hT2.any _ (by omega), hT2.any _ (by omega), hT2.any _ (by omega), hT2.any _ (by omega), hT2.any _ (by omega), hT2.any _ (by omega), hT2.any _ (by omega), hT2.fz _, hT2.fz _, hT2.fz _, hT2.fz _, hT2.fz _, hT2.fz _, hT2.fz _, hT2⟩
      have HS0 : Hid (WA.cell? ⟨wr.heap.size, 0, none⟩ = some (.int .i64 r.n) ∧ WA.cell? ⟨wr.heap.size, 1, none⟩ = some (.int .i64 r.y.k) ∧ WA.cell? ⟨wr.heap.size, 2, none⟩ = some (.int .i64 r.y.n) ∧ WA.cell? ⟨wr.heap.size, 3, none⟩ = some (.int .i64 r.y.t.k) ∧ WA.cell? ⟨wr.heap.size, 4, none⟩ = some (.slice r.y.t.a r.y.t.l.length r.y.t.c) ∧ WA.cell? ⟨wr.heap.size, 5, none⟩ = some (.int .i64 r.y.f.k) ∧ WA.cell? ⟨wr.heap.size, 6, none⟩ = some (.slice r.y.f.a r.y.f.l.length r.y.f.c) ∧ WA.cell? ⟨wr.heap.size, 7, none⟩ = some (.slice r.y.a r.y.l.length r.y.c) ∧ WA.cell? ⟨wr.heap.size, 8, none⟩ = some (.int .i64 r.i.k) ∧ WA.cell? ⟨wr.heap.size, 9, none⟩ = some (.slice r.i.a r.i.l.length r.i.c) ∧ WA.cell? ⟨b', o' + j * 2, none⟩ = some (.int .i64 u.k) ∧ WA.cell? ⟨b', o' + j * 2 + 1, none⟩ = some (.slice u.a u.l.length u.c)) := ⟨b0, b1, b2, b3, b4, b5, b6, b7, b8, b9, v0, v1⟩
      have HS1 : Hid (WA.drew.cell? ⟨wr.heap.size, 0, none⟩ = some (.int .i64 r.n) ∧ WA.drew.cell? ⟨wr.heap.size, 1, none⟩ = some (.int .i64 r.y.k) ∧ WA.drew.cell? ⟨wr.heap.size, 2, none⟩ = some (.int .i64 r.y.n) ∧ WA.drew.cell? ⟨wr.heap.size, 3, none⟩ = some (.int .i64 r.y.t.k) ∧ WA.drew.cell? ⟨wr.heap.size, 4, none⟩ = some (.slice r.y.t.a r.y.t.l.length r.y.t.c) ∧ WA.drew.cell? ⟨wr.heap.size, 5, none⟩ = some (.int .i64 r.y.f.k) ∧ WA.drew.cell? ⟨wr.heap.size, 6, none⟩ = some (.slice r.y.f.a r.y.f.l.length r.y.f.c) ∧ WA.drew.cell? ⟨wr.heap.size, 7, none⟩ = some (.slice r.y.a r.y.l.length r.y.c) ∧ WA.drew.cell? ⟨wr.heap.size, 8, none⟩ = some (.int .i64 r.i.k) ∧ WA.drew.cell? ⟨wr.heap.size, 9, none⟩ = some (.slice r.i.a r.i.l.length r.i.c) ∧ WA.drew.cell? ⟨b', o' + j * 2, none⟩ = some (.int .i64 u.k) ∧ WA.drew.cell? ⟨b', o' + j * 2 + 1, none⟩ = some (.slice u.a u.l.length u.c)) := ⟨b0, b1, b2, b3, b4, b5, b6, b7, b8, b9, v0, v1⟩
      have HSP : Hid (∀ w2 a0 a1 a2 a3 a4 a5 a6, Below WA.drew.heap.size WA.drew w2 → (((((((w2.setCell ⟨w.heap.size, j * 7, none⟩ a0).setCell ⟨w.heap.size, j * 7 + 1, none⟩ a1).setCell ⟨w.heap.size, j * 7 + 2, none⟩ a2).setCell ⟨w.heap.size, j * 7 + 3, none⟩ a3).setCell ⟨w.heap.size, j * 7 + 4, none⟩ a4).setCell ⟨w.heap.size, j * 7 + 5, none⟩ a5).setCell ⟨w.heap.size, j * 7 + 6, none⟩ a6).cell? ⟨wr.heap.size, 0, none⟩ = some (.int .i64 r.n) ∧ (((((((w2.setCell ⟨w.heap.size, j * 7, none⟩ a0).setCell ⟨w.heap.size, j * 7 + 1, none⟩ a1).setCell ⟨w.heap.size, j * 7 + 2, none⟩ a2).setCell ⟨w.heap.size, j * 7 + 3, none⟩ a3).setCell ⟨w.heap.size, j * 7 + 4, none⟩ a4).setCell ⟨w.heap.size, j * 7 + 5, none⟩ a5).setCell ⟨w.heap.size, j * 7 + 6, none⟩ a6).cell? ⟨wr.heap.size, 1, none⟩ = some (.int .i64 r.y.k) ∧ (((((((w2.setCell ⟨w.heap.size, j * 7, none⟩ a0).setCell ⟨w.heap.size, j * 7 + 1, none⟩ a1).setCell ⟨w.heap.size, j * 7 + 2, none⟩ a2).setCell ⟨w.heap.size, j * 7 + 3, none⟩ a3).setCell ⟨w.heap.size, j * 7 + 4, none⟩ a4).setCell ⟨w.heap.size, j * 7 + 5, none⟩ a5).setCell ⟨w.heap.size, j * 7 + 6, none⟩ a6).cell? ⟨wr.heap.size, 2, none⟩ = some (.int .i64 r.y.n) ∧ (((((((w2.setCell ⟨w.heap.size, j * 7, none⟩ a0).setCell ⟨w.heap.size, j * 7 + 1, none⟩ a1).setCell ⟨w.heap.size, j * 7 + 2, none⟩ a2).setCell ⟨w.heap.size, j * 7 + 3, none⟩ a3).setCell ⟨w.heap.size, j * 7 + 4, none⟩ a4).setCell ⟨w.heap.size, j * 7 + 5, none⟩ a5).setCell ⟨w.heap.size, j * 7 + 6, none⟩ a6).cell? ⟨wr.heap.size, 3, none⟩ = some (.int .i64 r.y.t.k) ∧ (((((((w2.setCell ⟨w.heap.size, j * 7, none⟩ a0).setCell ⟨w.heap.size, j * 7 + 1, none⟩ a1).setCell ⟨w.heap.size, j * 7 + 2, none⟩ a2).setCell ⟨w.heap.size, j * 7 + 3, none⟩ a3).setCell ⟨w.heap.size, j * 7 + 4, none⟩ a4).setCell ⟨w.heap.size, j * 7 + 5, none⟩ a5).setCell ⟨w.heap.size, j * 7 + 6, none⟩ a6).cell? ⟨wr.heap.size, 4, none⟩ = some (.slice r.y.t.a r.y.t.l.length r.y.t.c) ∧ (((((((w2.setCell ⟨w.heap.size, j * 7, none⟩ a0).setCell ⟨w.heap.size, j * 7 + 1, none⟩ a1).setCell ⟨w.heap.size, j * 7 + 2, none⟩ a2).setCell ⟨w.heap.size, j * 7 + 3, none⟩ a3).setCell ⟨w.heap.size, j * 7 + 4, none⟩ a4).setCell ⟨w.heap.size, j * 7 + 5, none⟩ a5).setCell ⟨w.heap.size, j * 7 + 6, none⟩ a6).cell? ⟨wr.heap.size, 5, none⟩ = some (.int .i64 r.y.f.k) ∧ (((((((w2.setCell ⟨w.heap.size, j * 7, none⟩ a0).setCell ⟨w.heap.size, j * 7 + 1, none⟩ a1).setCell ⟨w.heap.size, j * 7 + 2, none⟩ a2).setCell ⟨w.heap.size, j * 7 + 3, none⟩ a3).setCell ⟨w.heap.size, j * 7 + 4, none⟩ a4).setCell ⟨w.heap.size, j * 7 + 5, none⟩ a5).setCell ⟨w.heap.size, j * 7 + 6, none⟩ a6).cell? ⟨wr.heap.size, 6, none⟩ = some (.slice r.y.f.a r.y.f.l.length r.y.f.c) ∧ (((((((w2.setCell ⟨w.heap.size, j * 7, none⟩ a0).setCell ⟨w.heap.size, j * 7 + 1, none⟩ a1).setCell ⟨w.heap.size, j * 7 + 2, none⟩ a2).setCell ⟨w.heap.size, j * 7 + 3, none⟩ a3).setCell ⟨w.heap.size, j * 7 + 4, none⟩ a4).setCell ⟨w.heap.size, j * 7 + 5, none⟩ a5).setCell ⟨w.heap.size, j * 7 + 6, none⟩ a6).cell? ⟨wr.heap.size, 7, none⟩ = some (.slice r.y.a r.y.l.length r.y.c) ∧ (((((((w2.setCell ⟨w.heap.size, j * 7, none⟩ a0).setCell ⟨w.heap.size, j * 7 + 1, none⟩ a1).setCell ⟨w.heap.size, j * 7 + 2, none⟩ a2).setCell ⟨w.heap.size, j * 7 + 3, none⟩ a3).setCell ⟨w.heap.size, j * 7 + 4, none⟩ a4).setCell ⟨w.heap.size, j * 7 + 5, none⟩ a5).setCell ⟨w.heap.size, j * 7 + 6, none⟩ a6).cell? ⟨wr.heap.size, 8, none⟩ = some (.int .i64 r.i.k) ∧ (((((((w2.setCell ⟨w.heap.size, j * 7, none⟩ a0).setCell ⟨w.heap.size, j * 7 + 1, none⟩ a1).setCell ⟨w.heap.size, j * 7 + 2, none⟩ a2).setCell ⟨w.heap.size, j * 7 + 3, none⟩ a3).setCell ⟨w.heap.size, j * 7 + 4, none⟩ a4).setCell ⟨w.heap.size, j * 7 + 5, none⟩ a5).setCell ⟨w.heap.size, j * 7 + 6, none⟩ a6).cell? ⟨wr.heap.size, 9, none⟩ = some (.slice r.i.a r.i.l.length r.i.c) ∧ (((((((w2.setCell ⟨w.heap.size, j * 7, none⟩ a0).setCell ⟨w.heap.size, j * 7 + 1, none⟩ a1).setCell ⟨w.heap.size, j * 7 + 2, none⟩ a2).setCell ⟨w.heap.size, j * 7 + 3, none⟩ a3).setCell ⟨w.heap.size, j * 7 + 4, none⟩ a4).setCell ⟨w.heap.size, j * 7 + 5, none⟩ a5).setCell ⟨w.heap.size, j * 7 + 6, none⟩ a6).cell? ⟨b', o' + j * 2, none⟩ = some (.int .i64 u.k) ∧ (((((((w2.setCell ⟨w.heap.size, j * 7, none⟩ a0).setCell ⟨w.heap.size, j * 7 + 1, none⟩ a1).setCell ⟨w.heap.size, j * 7 + 2, none⟩ a2).setCell ⟨w.heap.size, j * 7 + 3, none⟩ a3).setCell ⟨w.heap.size, j * 7 + 4, none⟩ a4).setCell ⟨w.heap.size, j * 7 + 5, none⟩ a5).setCell ⟨w.heap.size, j * 7 + 6, none⟩ a6).cell? ⟨b', o' + j * 2 + 1, none⟩ = some (.slice u.a u.l.length u.c)) := by
        intro w2 a0 a1 a2 a3 a4 a5 a6 hb2
        have hp : ∀ k o, k ≠ w.heap.size → (((((((w2.setCell ⟨w.heap.size, j * 7, none⟩ a0).setCell ⟨w.heap.size, j * 7 + 1, none⟩ a1).setCell ⟨w.heap.size, j * 7 + 2, none⟩ a2).setCell ⟨w.heap.size, j * 7 + 3, none⟩ a3).setCell ⟨w.heap.size, j * 7 + 4, none⟩ a4).setCell ⟨w.heap.size, j * 7 + 5, none⟩ a5).setCell ⟨w.heap.size, j * 7 + 6, none⟩ a6).cell? ⟨k, o, none⟩ = w2.cell? ⟨k, o, none⟩ := by
          intro k o hk
          have hk' : w.heap.size ≠ k := fun e => hk e.symm
          rw [World.cell?_setCell_other _ _ _ _ (fun e => hk' (congrArg Addr.block e)), World.cell?_setCell_other _ _ _ _ (fun e => hk' (congrArg Addr.block e)), World.cell?_setCell_other _ _ _ _ (fun e => hk' (congrArg Addr.block e)), World.cell?_setCell_other _ _ _ _ (fun e => hk' (congrArg Addr.block e)), World.cell?_setCell_other _ _ _ _ (fun e => hk' (congrArg Addr.block e)), World.cell?_setCell_other _ _ _ _ (fun e => hk' (congrArg Addr.block e)), World.cell?_setCell_other _ _ _ _ (fun e => hk' (congrArg Addr.block e))]
        have hq := HS.out _ hb2
        exact ⟨(hp _ _ nw).trans hq.1, (hp _ _ nw).trans hq.2.1, (hp _ _ nw).trans hq.2.2.1, (hp _ _ nw).trans hq.2.2.2.1, (hp _ _ nw).trans hq.2.2.2.2.1, (hp _ _ nw).trans hq.2.2.2.2.2.1, (hp _ _ nw).trans hq.2.2.2.2.2.2.1, (hp _ _ nw).trans hq.2.2.2.2.2.2.2.1, (hp _ _ nw).trans hq.2.2.2.2.2.2.2.2.1, (hp _ _ nw).trans hq.2.2.2.2.2.2.2.2.2.1, (hp _ _ nw2).trans hq.2.2.2.2.2.2.2.2.2.2.1, (hp _ _ nw2).trans hq.2.2.2.2.2.2.2.2.2.2.2⟩
      clear b0 b1 b2 b3 b4 b5 b6 b7 b8 b9 v0 v1
      go_region_held3 (fun w' => w'.cell? ⟨wr.heap.size, 0, none⟩ = some (.int .i64 r.n) ∧ w'.cell? ⟨wr.heap.size, 1, none⟩ = some (.int .i64 r.y.k) ∧ w'.cell? ⟨wr.heap.size, 2, none⟩ = some (.int .i64 r.y.n) ∧ w'.cell? ⟨wr.heap.size, 3, none⟩ = some (.int .i64 r.y.t.k) ∧ w'.cell? ⟨wr.heap.size, 4, none⟩ = some (.slice r.y.t.a r.y.t.l.length r.y.t.c) ∧ w'.cell? ⟨wr.heap.size, 5, none⟩ = some (.int .i64 r.y.f.k) ∧ w'.cell? ⟨wr.heap.size, 6, none⟩ = some (.slice r.y.f.a r.y.f.l.length r.y.f.c) ∧ w'.cell? ⟨wr.heap.size, 7, none⟩ = some (.slice r.y.a r.y.l.length r.y.c) ∧ w'.cell? ⟨wr.heap.size, 8, none⟩ = some (.int .i64 r.i.k) ∧ w'.cell? ⟨wr.heap.size, 9, none⟩ = some (.slice r.i.a r.i.l.length r.i.c) ∧ w'.cell? ⟨b', o' + j * 2, none⟩ = some (.int .i64 u.k) ∧ w'.cell? ⟨b', o' + j * 2 + 1, none⟩ = some (.slice u.a u.l.length u.c))
        (first | (with_reducible exact HS0.out) | (with_reducible exact HS1.out) | (with_reducible exact HS.out _ hb2) | (with_reducible exact HSP.out _ _ _ _ _ _ _ _ hb2))
        (first | (go_at_call 109; refine (HCC.out _ (HI.out.1.below ((Below.refl _ _).drew)) (HI.out.2.1.below ((Below.refl _ _).drew)) (HI.out.2.2.1.below ((Below.refl _ _).drew))).mono ?_; rintro e w2 ⟨z, rfl, hz, hzi, hzb, hb2⟩; obtain ⟨⟨y0, x0⟩, ⟨y1, x1⟩, ⟨y2, x2⟩, ⟨y3, x3⟩, ⟨y4, x4⟩, ⟨y5, x5⟩, ⟨y6, x6⟩, f0, f1, f2, f3, f4, f5, f6, HT2⟩ := HAN.out w2 hb2))
      have HN : Hid (TmRow Q w w.heap.size rs.length (zs ++ [z]) (put7at w2 w.heap.size (j * 7) z) ∧ (zs ++ [z]).length = j + 1 ∧ ∀ q (h : q < (zs ++ [z]).length) (h1 : q < rs.length) (h2 : q < U.l.length), (zs ++ [z])[q].tm = castY rs[q].n rs[q].y.tm rs[q].i.ty U.l[q].ty) := by
        have hst := HT2.out.step (z := z) (Nat.le_refl _) hzi (hzb _ (fun b hb => ⟨by have := HJ.out.2; have : w.heap.size < WA.drew.heap.size := this; omega, HQ0.out.1 b (by have := HJ.out.2; have : w.heap.size < WA.drew.heap.size := this; omega)⟩) HI.out.2.2.2) (by rw [HZ.out.1]; exact HJ.out.1)
        rw [HZ.out.1] at hst
        refine ⟨hst, by simp [HZ.out.1], fun q hq h1 h2 => ?_⟩
        by_cases e : q = j
        · subst e
          have : (zs ++ [z])[q] = z := by
            rw [List.getElem_append_right (by rw [HZ.out.1]; exact Nat.le_refl _)]
            simp [HZ.out.1]
          rw [this, hz, HRE.out.1, HRE.out.2]
        · have hq' : q < zs.length := by rw [List.length_append, List.length_singleton] at hq; have := HZ.out.1; omega
          rw [List.getElem_append_left hq']
          exact HZ.out.2 q hq' h1 h2
      clear hz hzi hzb hb2 HTA HZ HI HCC HS HS0 HS1 HSP HT2 x0 x1 x2 x3 x4 x5 x6 f0 f1 f2 f3 f4 f5 f6
      go_wp2_with fail
      rw [← HEA.out, ← HEB.out]
      go_roundg (rs.length - (j + 1))
      case measure => omega
      case rel => exact ⟨j + 1, zs ++ [z], by omega, by go_num, HN⟩
    · have HE := HQ
      clear HQ
      have HJ : Hid (j = rs.length) := by show j = rs.length; omega
      go_wp2_with fail
      go_ret
      exact ⟨zs, rfl, HE.out.1, HE.out.2.1.trans HJ.out, HE.out.2.2⟩
end Go.Proofs.YtnddkmccagiclabGreatDoor

/-
  What the call of check's ahead answers: a new row, a type ahead of others.
-/
namespace Go.Proofs.YtnddkmccagiclabGreatDoor
open Go.RowKit
/-- append of nothing, where there is room for nothing. -/
theorem wpList_append_void {P : Program} {ops : Array Oper} {rest : List Oper} {o : Oper} {a : Act} {w : World} {Q : Exit → Act → World → Prop}
    (hg : o.guard = none) (s x : Operand) (t : TypeId) (hop : o.op = Op.call { callee := Callee.builtin Builtin.append, args := #[s, x], argTypes := #[t, t] })
    (e : TypeId) (i : TypeInfo) (h1 : P.underlying t = some (.slice e)) (h2 : P.info? e = some i)
    (b n cap : Nat) (hs : a.eval s = .slice (some ⟨b, 0, none⟩) n cap) (xa : Option Addr) (c : Nat) (hx : a.eval x = .slice xa 0 c) (hroom : n ≤ cap)
    (h : wpList P ops Q rest (a.put o.dst (.slice (some ⟨b, 0, none⟩) n cap)) w) : wpList P ops Q (o :: rest) a w := by
  refine wpList_plain hg fun K hK => ?_
  have hsrc : Src P i.size t (.slice xa 0 c) 0 [] w := by
    cases xa with
    | none => exact Src.ofNil w h1 c
    | some ad => exact Src.ofSlice w h1 ad 0 c [] (by simp) (fun j u h => by simp at h) (fun u h => by cases h)
  have hrun := run_append_room_src (P := P) w t t o.type e i h1 h2 b 0 n cap (.slice xa 0 c) 0 [] hsrc (by omega) (fun j h => by simp at h) (fun j h => by simp at h)
  unfold Oper.wp
  simp only [execOp, hop, resolve, invoke, builtin, Sem.run_bind, Sem.run_pure, Result.andThen_ok, List.map_toArray, List.map_cons, List.map_nil, hs, hx, hrun]
  exact hK _ _ h
theorem cellsOf_at : ∀ (l : List Tr) (q : Nat) (h : q < l.length), (cellsOf l)[q * 2]? = some (.int .i64 l[q].k) ∧ (cellsOf l)[q * 2 + 1]? = some (.slice l[q].a l[q].l.length l[q].c)
  | [], q, h => by simp at h
  | x :: r, 0, _ => by simp [cellsOf]
  | x :: r, q + 1, h => by
    have := cellsOf_at r q (by simpa using h)
    have e : (q + 1) * 2 = q * 2 + 1 + 1 := by omega
    rw [e]
    simpa [cellsOf] using this
theorem cellsOf_one : ∀ (l : List Tr) (u : Value), u ∈ cellsOf l → u.oneCell' = true
  | [], u, h => by simp [cellsOf] at h
  | x :: r, u, h => by
    simp only [cellsOf, List.mem_cons] at h
    rcases h with rfl | rfl | h
    · simp [Value.oneCell']
    · simp [Value.oneCell']
    · exact cellsOf_one r u h
theorem cellsOf_news {w : World} {T : Tr} {b o : Nat} (h : T.In w) (ha : T.a = some ⟨b, o, none⟩) (j : Nat) (u : Value) (hj : (cellsOf T.l)[j]? = some u) : w.cell? ((⟨b, o, none⟩ : Addr).add j) = some u := by
  have hlt : j < T.l.length * 2 := by
    have := (List.getElem?_eq_some_iff.1 hj).1
    rwa [cellsOf_length] at this
  obtain ⟨b', o', e, c0, c1, _⟩ := h.part (j / 2) (by omega)
  rw [ha] at e
  cases e
  obtain ⟨d0, d1⟩ := cellsOf_at T.l (j / 2) (by omega)
  have hadd : (⟨b, o, none⟩ : Addr).add j = ⟨b, o + j, none⟩ := by
    unfold Addr.add
    split
    · rename_i h; simp_all
    · rfl
  rcases Nat.mod_two_eq_zero_or_one j with hm | hm
  · have e : j / 2 * 2 = j := by omega
    rw [e] at d0 c0
    rw [hj] at d0
    rw [Option.some.inj d0]
    rw [hadd]
    exact c0
  · have e : j / 2 * 2 + 1 = j := by omega
    have e' : o + j / 2 * 2 + 1 = o + j := by omega
    rw [e] at d1
    rw [e'] at c1
    rw [hj] at d1
    rw [Option.some.inj d1]
    rw [hadd]
    exact c1
/-- A row of types that is owned is a tree's list. -/
theorem tr_of_row {w : World} {base g cap n : Nat} {l : List Tr} (h : w.ownsRow base 24 2 (.slice (some ⟨g, 0, none⟩) n cap) n (cellsOf l)) (hn : n = l.length) (hin : ∀ t, t ∈ l → t.In w) (k : Int) : (Tr.mk k (some ⟨g, 0, none⟩) cap l).In w := by
  refine Tr.In_mk.2 ⟨fun j hj => ⟨g, 0, rfl, ?_, ?_⟩, hin⟩
  · rw [h.cellAt _ (by omega)]
    simpa using (cellsOf_at l j hj).1
  · rw [h.cellAt _ (by omega)]
    simpa [Tr.sl] using (cellsOf_at l j hj).2
set_option maxRecDepth 20000 in
set_option maxHeartbeats 1000000 in
theorem ahead_any (x T : Tr) (w : World) (hx : x.In w) (hT : T.In w) (hl : T.l.length ≤ 1000) :
    Calls Tryz.prog 65 #[.agg #[.int .i64 x.k, .slice x.a x.l.length x.c], .slice T.a T.l.length T.c] w fun e w' => ∃ N : Tr, e = .returned (.slice N.a N.l.length N.c) ∧ N.l = x :: T.l ∧ N.In w' ∧ (∀ y, N.a = some y → w.heap.size ≤ y.block) ∧ Below w.heap.size w w' := by
  obtain ⟨i0, hi0, hz0, hz1, hz2⟩ := info_parts Tryz.info24
  have hb0 : Below w.heap.size w ((w.alloc (.cells #[.int .i64 x.k, .slice x.a x.l.length x.c] 24)).alloc (.cells #[.int .i64 x.k, .slice x.a x.l.length x.c] 24)) := ((Below.refl _ _).alloc (Nat.le_refl _) _).alloc (by simp) _
  have hown : ((w.alloc (.cells #[.int .i64 x.k, .slice x.a x.l.length x.c] 24)).alloc (.cells #[.int .i64 x.k, .slice x.a x.l.length x.c] 24)).ownsRow (w.heap.size + 1) 24 2 (.slice (some ⟨w.heap.size + 1, 0, none⟩) 1 1) 1 (cellsOf [x]) := by
    have := World.ownsRow_lit (base := w.heap.size + 1) (e := 24) (size := 2) (w.alloc (.cells #[.int .i64 x.k, .slice x.a x.l.length x.c] 24)) #[.int .i64 x.k, .slice x.a x.l.length x.c] 1 (by simp) (by unfold maxLen; omega) (by simp)
    simpa [cellsOf] using this
  by_cases h0 : T.l.length = 0
  · have hT0 : T.l = [] := List.eq_nil_of_length_eq_zero h0
    have HE : Hid ((Tr.mk 0 (some ⟨w.heap.size + 1, 0, none⟩) 1 [x]).In ((w.alloc (.cells #[.int .i64 x.k, .slice x.a x.l.length x.c] 24)).alloc (.cells #[.int .i64 x.k, .slice x.a x.l.length x.c] 24)) ∧ Below w.heap.size w ((w.alloc (.cells #[.int .i64 x.k, .slice x.a x.l.length x.c] 24)).alloc (.cells #[.int .i64 x.k, .slice x.a x.l.length x.c] 24))) :=
      ⟨tr_of_row hown rfl (fun t ht => by have : t = x := (by simpa using ht); subst this; exact hx.below hb0) 0, hb0⟩
    rw [h0]
    clear hown hb0 hx hT hl
    go_enter Tryz.func65, Tryz.ntmps65
    go_wp2_with (at_builtin; refine wpList_append_void rfl _ _ _ rfl 24 i0 Tryz.underlying22 hi0 (w.heap.size + 1) 1 1 rfl T.a T.c rfl (by omega) ?_)
    go_ret
    exact ⟨_, rfl, by rw [hT0], HE.out.1, fun y hy => by cases hy; show w.heap.size ≤ w.heap.size + 1; omega, HE.out.2⟩
  · obtain ⟨b, o, ea, _⟩ := hT.part 0 (by omega)
    have hT1 := hT.below hb0
    have hnews := fun j u h => cellsOf_news hT1 ea j u h
    have HIN : Hid (∀ t, t ∈ x :: T.l → t.In ((w.alloc (.cells #[.int .i64 x.k, .slice x.a x.l.length x.c] 24)).alloc (.cells #[.int .i64 x.k, .slice x.a x.l.length x.c] 24)) ∧ t.Bl (· < w.heap.size)) := by
      intro t ht
      rcases List.mem_cons.1 ht with rfl | ht
      · exact ⟨hx.below hb0, hx.bl⟩
      · obtain ⟨q, hq, rfl⟩ := List.getElem_of_mem ht
        obtain ⟨_, _, _, _, _, hi⟩ := hT.part q hq
        exact ⟨hi.below hb0, hi.bl⟩
    have hm : 0 < T.l.length := by omega
    have HB : Hid (Below w.heap.size w ((w.alloc (.cells #[.int .i64 x.k, .slice x.a x.l.length x.c] 24)).alloc (.cells #[.int .i64 x.k, .slice x.a x.l.length x.c] 24))) := hb0
    rw [ea]
    clear hx hT hT1 ea hb0
    go_enter Tryz.func65, Tryz.ntmps65
    go_wp2_with (at_builtin; refine wpList_append_lies _ rfl _ _ _ rfl (w.heap.size + 1) 24 i0 _ 2 32 Tryz.underlying22 hi0 hz0 hz1 hz2 rfl (by omega) (.slice (some ⟨w.heap.size + 1, 0, none⟩) 1 1) 1 (cellsOf [x]) rfl hown ⟨b, o, none⟩ T.l.length T.c (cellsOf T.l) rfl (cellsOf_length _) hnews (cellsOf_one _) hm (by unfold maxLen; omega) (by omega) (by simp) (w.heap.size + 1 + 1) (by simp) ?_; intro gg cap1 w3 hown1 hgrow hat hlt3)
    have hg : w.heap.size + 1 ≤ gg := by rcases hat with h | h
                                         · simp [Value.ownBlock] at h; omega
                                         · omega
    have hsz := hgrow.size
    have hlow : Below (w.heap.size + 1) ((w.alloc (.cells #[.int .i64 x.k, .slice x.a x.l.length x.c] 24)).alloc (.cells #[.int .i64 x.k, .slice x.a x.l.length x.c] 24)) w3 :=
      ⟨hgrow.os, hgrow.tape, hgrow.output, hgrow.size, fun q hq => hgrow.block q (by simp; omega) (by simp [Value.ownBlock]; omega)⟩
    have HE : Hid ((Tr.mk 0 (some ⟨gg, 0, none⟩) cap1 (x :: T.l)).In w3 ∧ Below w.heap.size w w3) := by
      refine ⟨tr_of_row (n := 1 + T.l.length) (l := x :: T.l) (by simpa [cellsOf] using hown1) (by simp; omega) (fun t ht => ?_) 0, HB.out.trans (hlow.mono (by omega))⟩
      obtain ⟨h1, h2⟩ := HIN.out t ht
      exact Tr.In.congr (P := fun q => q < w.heap.size) (fun q hq o => hlow.cell (p := ⟨q, o, none⟩) (by show q < _; omega)) h2 h1
    clear hown1 hgrow hat hlt3 hlow hown hnews HIN HB
    go_wp2_with fail
    go_ret
    exact ⟨⟨0, some ⟨gg, 0, none⟩, cap1, x :: T.l⟩, by simp [Nat.add_comm], rfl, HE.out.1, fun y hy => by cases hy; show w.heap.size ≤ gg; omega, HE.out.2⟩
end Go.Proofs.YtnddkmccagiclabGreatDoor
