/-
  What the calls of kind.To, kind.Ground, kind.Plain and kind.alikeAtTop answer, at whatever trees lie in memory.
-/
import Derived.Test.YtnddkmccagiclaaGreatDoorRows
import Derived.Test.YtnddkmccagiclaaGreatDoorLot5c98e2b2d2
import Derived.Deep.RegionHeld3
import Derived.Deep.AppendLies
import Derived.Deep.RegionLaw
import Derived.Test.YtnddkmccagiclaaGreatDoorLotab74385c22
namespace Go.Proofs.YtnddkmccagiclaaGreatDoor
open Go.RowKit
set_option maxHeartbeats 400000 in
/-- kind.alikeAtTop. -/
theorem alike_walk (k k' : Int) (a a' : Option Addr) (m m' c c' : Nat) (w : World) :
    Calls Tryz.prog 116 #[.agg #[.int .i64 k, .slice a m c], .agg #[.int .i64 k', .slice a' m' c']] w fun e w' => e = .returned (.bool (k == k' && (m : Int) == (m' : Int))) ∧ Below w.heap.size w w' := by
  by_cases h : (k == k') = true
  · go_enter Tryz.func116, Tryz.ntmps116
    go_wp2_with fail
    go_ret
    exact ⟨by simp [h], ((Below.refl _ _).alloc (Nat.le_refl _) _).alloc (by simp) _⟩
  · have h' : (k == k') = false := by simpa using h
    clear h
    go_enter Tryz.func116, Tryz.ntmps116
    go_wp2_with fail
    go_ret
    exact ⟨by simp [h'], ((Below.refl _ _).alloc (Nat.le_refl _) _).alloc (by simp) _⟩
theorem alike_any (k k' : Int) (a a' : Option Addr) (m m' c c' : Nat) (r : Bool) (hr : (k == k' && (m : Int) == (m' : Int)) = r) (w : World) :
    Calls Tryz.prog 116 #[.agg #[.int .i64 k, .slice a m c], .agg #[.int .i64 k', .slice a' m' c']] w fun e w' => e = .returned (.bool r) ∧ Below w.heap.size w w' := by
  rw [← hr]
  exact alike_walk k k' a a' m m' c c' w
set_option maxHeartbeats 400000 in
/-- kind.To. -/
theorem to_cells (k k' : Int) (a a' : Option Addr) (m m' c c' : Nat) (w : World) :
    Calls Tryz.prog 103 #[.agg #[.int .i64 k, .slice a m c], .agg #[.int .i64 k', .slice a' m' c']] w fun e w' => ∃ g, w.heap.size ≤ g ∧ e = .returned (.agg #[.int .i64 3, .slice (some ⟨g, 0, none⟩) 2 2]) ∧ w'.cell? ⟨g, 0, none⟩ = some (.int .i64 k) ∧ w'.cell? ⟨g, 1, none⟩ = some (.slice a m c) ∧ w'.cell? ⟨g, 2, none⟩ = some (.int .i64 k') ∧ w'.cell? ⟨g, 3, none⟩ = some (.slice a' m' c') ∧ Below w.heap.size w w' := by
  go_enter Tryz.func103, Tryz.ntmps103
  go_wp2_with fail
  refine bodyPost_ret (v := .agg #[.int .i64 3, .slice (some ⟨w.heap.size + 1 + 1 + 1, 0, none⟩) 2 2]) (by simp [results, Tryz.results103, go_sem]) rfl ⟨_, ?_, rfl, by simp [go_sem], by simp [go_sem], by simp [go_sem], by simp [go_sem], ?_⟩
  · omega
  exact ((((Below.refl _ _).alloc (Nat.le_refl _) _).alloc (by simp) _).alloc (by simp; omega) _).alloc (by simp; omega) _
theorem to_any (x y : Tr) (w : World) (hx : x.In w) (hy : y.In w) :
    Calls Tryz.prog 103 #[.agg #[.int .i64 x.k, .slice x.a x.l.length x.c], .agg #[.int .i64 y.k, .slice y.a y.l.length y.c]] w fun e w' => ∃ g, w.heap.size ≤ g ∧ e = .returned (.agg #[.int .i64 3, .slice (some ⟨g, 0, none⟩) 2 2]) ∧ (Tr.mk 3 (some ⟨g, 0, none⟩) 2 [x, y]).In w' ∧ Below w.heap.size w w' := by
  refine (to_cells x.k y.k x.a y.a x.l.length y.l.length x.c y.c w).mono ?_
  rintro e w' ⟨g, hg, rfl, c0, c1, c2, c3, hb⟩
  refine ⟨g, hg, rfl, ?_, hb⟩
  exact Tr.In_two c0 c1 c2 c3 (hx.below hb) (hy.below hb)
/-- A type without parts. -/
def leaf (k : Int) : Tr := .mk k none 0 []
theorem leaf_in (k : Int) (w : World) : (leaf k).In w := Tr.In_nil w k none 0
theorem leaf_bl (k : Int) (P : Nat → Prop) : (leaf k).Bl P := Tr.Bl_nil P k none 0
end Go.Proofs.YtnddkmccagiclaaGreatDoor

/-
  What the calls of (*later).put, (*later).empty and (*later).take do to a list of pairs that lies behind a pointer.
-/
namespace Go.Proofs.YtnddkmccagiclaaGreatDoor
open Go.RowKit
theorem Tryz.info168 : (Tryz.prog.info? 168).map (fun i => (i.zero, i.size, i.bytes)) = some (some (.agg #[.int .i64 0, .slice none 0 0, .int .i64 0, .slice none 0 0, .pointer none]), 5, 72) := by kernel_rfl
/-- But for block r and one row the memory is as it was. -/
structure Kept (r : Nat) (o : Option Nat) (w w' : World) : Prop where
  os : w'.os = w.os
  tape : w'.tape = w.tape
  output : w'.output = w.output
  size : w.heap.size ≤ w'.heap.size
  block : ∀ k, k < w.heap.size → k ≠ r → some k ≠ o → w'.heap[k]? = w.heap[k]?
theorem Kept.below {r : Nat} {o : Option Nat} {w w' : World} (h : Kept r o w w') (ho : ∀ g, o = some g → r ≤ g) (hr : r ≤ w.heap.size) : Below r w w' :=
  ⟨h.os, h.tape, h.output, h.size, fun k hk => h.block k (by omega) (by omega) (fun e => by have := ho k e.symm; omega)⟩
theorem put_end {r : Nat} {v : Value} {n : Nat} {ys : List Value} {w w1 : World} {X : Obj} {g cap : Nat} (hgrow : (((w.alloc X).alloc X).drew).grownBy w1 v.ownBlock) (hown : w1.ownsRow (r + 1) 168 5 (.slice (some ⟨g, 0, none⟩) (n + 1) cap) (n + 1) ys)
    (hat : v.ownBlock = some g ∨ g = w.heap.size + 2) (hcr : w1.cell? ⟨r, 0, none⟩ = some v) (hfr : w1.frozen? ⟨r, 0, none⟩ = false) :
    ∃ g' cap', (w1.setCell ⟨r, 0, none⟩ (.slice (some ⟨g, 0, none⟩) (n + 1) cap)).cell? ⟨r, 0, none⟩ = some (.slice (some ⟨g', 0, none⟩) (n + 1) cap') ∧ (w1.setCell ⟨r, 0, none⟩ (.slice (some ⟨g, 0, none⟩) (n + 1) cap)).frozen? ⟨r, 0, none⟩ = false ∧
      (w1.setCell ⟨r, 0, none⟩ (.slice (some ⟨g, 0, none⟩) (n + 1) cap)).ownsRow (r + 1) 168 5 (.slice (some ⟨g', 0, none⟩) (n + 1) cap') (n + 1) ys ∧ (v.ownBlock = some g' ∨ w.heap.size ≤ g') ∧ Kept r v.ownBlock w (w1.setCell ⟨r, 0, none⟩ (.slice (some ⟨g, 0, none⟩) (n + 1) cap)) := by
  have hb : Below w.heap.size w ((w.alloc X).alloc X).drew := (((Below.refl _ _).alloc (Nat.le_refl _) _).alloc (by simp) _).drew
  refine ⟨g, cap, World.cell?_setCell_same _ _ _ hcr, by simpa using hfr, ownsRow_setCell_below hown (by simp) _, ?_, ?_⟩
  · rcases hat with h | h
    · exact .inl h
    · exact .inr (by omega)
  · have hs := hgrow.size
    have hsz : ((w.alloc X).alloc X).drew.heap.size = w.heap.size + 1 + 1 := by simp
    refine ⟨hgrow.os.trans hb.os, hgrow.tape.trans hb.tape, hgrow.output.trans hb.output, ?_, fun k hk h1 h2 => ?_⟩
    · rw [show (w1.setCell ⟨r, 0, none⟩ (.slice (some ⟨g, 0, none⟩) (n + 1) cap)).heap.size = w1.heap.size from by simp [World.setCell]]
      omega
    · rw [Below.heap_setCell _ _ _ _ h1, hgrow.block k (by omega) h2, hb.block k hk]
set_option maxHeartbeats 400000 in
theorem empty_any (r : Nat) (a : Option Addr) (n c : Nat) (w : World) (hv : w.cell? ⟨r, 0, none⟩ = some (.slice a n c)) :
    Calls Tryz.prog 108 #[.pointer (some ⟨r, 0, none⟩)] w fun e w' => e = .returned (.bool ((n : Int) == 0)) ∧ w' = w := by
  go_enter Tryz.func108, Tryz.ntmps108
  go_wp2_with fail
  go_ret
  exact ⟨rfl, rfl⟩
set_option maxHeartbeats 400000 in
theorem take_any (r g : Nat) (n c : Nat) (k k' : Int) (a a' : Option Addr) (m m' d d' : Nat) (p : Option Addr) (w : World) (hv : w.cell? ⟨r, 0, none⟩ = some (.slice (some ⟨g, 0, none⟩) (n + 1) c)) (hf : w.frozen? ⟨r, 0, none⟩ = false) (hc : n + 1 ≤ c) (hn : n ≤ 140737488355328)
    (h0 : w.cell? ⟨g, n * 5, none⟩ = some (.int .i64 k)) (h1 : w.cell? ⟨g, n * 5 + 1, none⟩ = some (.slice a m d)) (h2 : w.cell? ⟨g, n * 5 + 2, none⟩ = some (.int .i64 k')) (h3 : w.cell? ⟨g, n * 5 + 3, none⟩ = some (.slice a' m' d')) (h4 : w.cell? ⟨g, n * 5 + 4, none⟩ = some (.pointer p)) :
    Calls Tryz.prog 110 #[.pointer (some ⟨r, 0, none⟩)] w fun e w' => e = .returned (.agg #[.int .i64 k, .slice a m d, .int .i64 k', .slice a' m' d', .pointer p]) ∧
      w' = ((w.setCell ⟨r, 0, none⟩ (.slice (some ⟨g, 0, none⟩) n c)).alloc (.cells #[.int .i64 k, .slice a m d, .int .i64 k', .slice a' m' d', .pointer p] 168)).alloc (.cells #[.int .i64 k, .slice a m d, .int .i64 k', .slice a' m' d', .pointer p] 168) := by
  have lr : r < w.heap.size := World.block_lt_of_cell? _ _ hv
  have lg : g < w.heap.size := World.block_lt_of_cell? _ _ h0
  go_enter Tryz.func110, Tryz.ntmps110
  go_wp2_with fail
  exact bodyPost_ret (v := .agg #[.int .i64 k, .slice a m d, .int .i64 k', .slice a' m' d', .pointer p]) (by simp [results, Tryz.results110, go_sem]) rfl ⟨rfl, rfl⟩
set_option maxHeartbeats 1000000 in
theorem put_any (r : Nat) (v : Value) (n : Nat) (xs : List Value) (k k' : Int) (a a' : Option Addr) (m m' d d' : Nat) (p : Option Addr) (w : World) (hv : w.cell? ⟨r, 0, none⟩ = some v) (hf : w.frozen? ⟨r, 0, none⟩ = false) (hown : w.ownsRow (r + 1) 168 5 v n xs) (hn : n + 1 ≤ 1000000000) :
    Calls Tryz.prog 107 #[.pointer (some ⟨r, 0, none⟩), .agg #[.int .i64 k, .slice a m d, .int .i64 k', .slice a' m' d', .pointer p]] w fun e w' => e = .returned (.tuple #[]) ∧
      ∃ g cap, w'.cell? ⟨r, 0, none⟩ = some (.slice (some ⟨g, 0, none⟩) (n + 1) cap) ∧ w'.frozen? ⟨r, 0, none⟩ = false ∧ w'.ownsRow (r + 1) 168 5 (.slice (some ⟨g, 0, none⟩) (n + 1) cap) (n + 1) (xs ++ [.int .i64 k, .slice a m d, .int .i64 k', .slice a' m' d', .pointer p]) ∧ (v.ownBlock = some g ∨ w.heap.size ≤ g) ∧ Kept r v.ownBlock w w' := by
  have lr : r < w.heap.size := World.block_lt_of_cell? _ _ hv
  obtain ⟨i0, hi0, hz0, hz1, hz2⟩ := info_parts Tryz.info168
  have hnr : v.ownBlock ≠ some r := by
    rcases hown.2 with ⟨rfl, _⟩ | ⟨g, cap, cur, rfl, hg, _⟩
    · simp [Value.ownBlock]
    · simp only [Value.ownBlock, ne_eq, Option.some.injEq]; omega
  have hnw : v.ownBlock ≠ some w.heap.size := by
    rcases hown.2 with ⟨rfl, _⟩ | ⟨g, cap, cur, rfl, hg, hb, _⟩
    · simp [Value.ownBlock]
    · have : g < w.heap.size := by
        rcases Nat.lt_or_ge g w.heap.size with hlt | hge
        · exact hlt
        · rw [Array.getElem?_eq_none hge] at hb; cases hb
      simp only [Value.ownBlock, ne_eq, Option.some.injEq]; omega
  have hfz2 : ((w.alloc (.cells #[.int .i64 k, .slice a m d, .int .i64 k', .slice a' m' d', .pointer p] 168)).alloc (.cells #[.int .i64 k, .slice a m d, .int .i64 k', .slice a' m' d', .pointer p] 168)).drew.frozen? ⟨r, 0, none⟩ = false := by
    have hb : Below w.heap.size w ((w.alloc (.cells #[.int .i64 k, .slice a m d, .int .i64 k', .slice a' m' d', .pointer p] 168)).alloc (.cells #[.int .i64 k, .slice a m d, .int .i64 k', .slice a' m' d', .pointer p] 168)).drew := (((Below.refl _ _).alloc (Nat.le_refl _) _).alloc (by simp) _).drew
    rw [hb.frozen (p := ⟨r, 0, none⟩) lr]; exact hf
  have hvz2 : ((w.alloc (.cells #[.int .i64 k, .slice a m d, .int .i64 k', .slice a' m' d', .pointer p] 168)).alloc (.cells #[.int .i64 k, .slice a m d, .int .i64 k', .slice a' m' d', .pointer p] 168)).drew.cell? ⟨r, 0, none⟩ = some v := by
    have hb : Below w.heap.size w ((w.alloc (.cells #[.int .i64 k, .slice a m d, .int .i64 k', .slice a' m' d', .pointer p] 168)).alloc (.cells #[.int .i64 k, .slice a m d, .int .i64 k', .slice a' m' d', .pointer p] 168)).drew := (((Below.refl _ _).alloc (Nat.le_refl _) _).alloc (by simp) _).drew
    exact cell_later hb hv
  have hblk : ((w.alloc (.cells #[.int .i64 k, .slice a m d, .int .i64 k', .slice a' m' d', .pointer p] 168)).alloc (.cells #[.int .i64 k, .slice a m d, .int .i64 k', .slice a' m' d', .pointer p] 168)).drew.heap[w.heap.size + 1]? = some (.cells #[.int .i64 k, .slice a m d, .int .i64 k', .slice a' m' d', .pointer p] 168) := by
    have h := heap_alloc_new (w.alloc (.cells #[.int .i64 k, .slice a m d, .int .i64 k', .slice a' m' d', .pointer p] 168)) (.cells #[.int .i64 k, .slice a m d, .int .i64 k', .slice a' m' d', .pointer p] 168)
    rw [World.size_alloc] at h
    exact h
  go_enter Tryz.func107, Tryz.ntmps107
  go_wp2_with fail
  go_region_law
    ((refine step_append_lies _ (by rfl) _ _ _ (by rfl) (r + 1) 168 i0 _ 5 72 Tryz.underlying162 hi0 hz0 hz1 hz2 rfl (by omega) v n xs (by rfl) (((hown.alloc _).alloc _).drew)
        ⟨w.heap.size + 1, 0, none⟩ 1 1 [.int .i64 k, .slice a m d, .int .i64 k', .slice a' m' d', .pointer p] (by rfl) (by rfl) (World.news_of_block (cs := #[.int .i64 k, .slice a m d, .int .i64 k', .slice a' m' d', .pointer p]) (t := 168) (fr := (0, 0)) hblk) (by simp [Value.oneCell'])
        (by omega) (by unfold maxLen; omega) (by omega) (by simp; omega) (w.heap.size + 2) (by simp) ?_; intro gg cap w1 hown1 hgrow hat hlt; have hfr : w1.frozen? ⟨r, 0, none⟩ = false := (by rw [hgrow.frozen_far _ (by simp; omega) (Ne.symm hnr)]; exact hfz2); have hcr : w1.cell? ⟨r, 0, none⟩ = some v := (by rw [hgrow.cell_far _ (by simp; omega) (Ne.symm hnr)]; exact hvz2)))
  all_goals
    go_end0
    exact ⟨rfl, put_end hgrow hown1 hat hcr hfr⟩
end Go.Proofs.YtnddkmccagiclaaGreatDoor

/-
  Trees that stand for Go values of the type 'Term', with the addresses at which their lists lie, and what it means that such a tree lies in a world; no program in it.
-/
namespace Go.Proofs.YtnddkmccagiclaaGreatDoor
open Go.RowKit
/-- A term: its kind, its number, its types, where its list lies, the list's capacity, its parts. -/
structure TT where
  k : Int
  n : Int
  t : Tr
  f : Tr
  a : Option Addr
  c : Nat
  l : List TT
theorem TT.ind {P : TT → Prop} (h : ∀ k n t f a c l, (∀ x, x ∈ l → P x) → P ⟨k, n, t, f, a, c, l⟩) : ∀ t, P t
  | ⟨k, n, t, f, a, c, l⟩ => h k n t f a c l fun x _ => TT.ind h x
def TT.tm : TT → Tm
  | ⟨k, n, t, f, _, _, l⟩ => ⟨k, n, t.ty, f.ty, l.map fun x => x.tm⟩
theorem TT.tm_mk (k n : Int) (t f : Tr) (a : Option Addr) (c : Nat) (l : List TT) : (TT.mk k n t f a c l).tm = ⟨k, n, t.ty, f.ty, l.map TT.tm⟩ := by
  rw [TT.tm]
theorem TT.tm_k (x : TT) : x.tm.k = x.k := by cases x; rw [TT.tm_mk]
theorem TT.tm_n (x : TT) : x.tm.n = x.n := by cases x; rw [TT.tm_mk]
theorem TT.tm_t (x : TT) : x.tm.t = x.t.ty := by cases x; rw [TT.tm_mk]
theorem TT.tm_f (x : TT) : x.tm.f = x.f.ty := by cases x; rw [TT.tm_mk]
theorem TT.tm_l (x : TT) : x.tm.l = x.l.map TT.tm := by cases x; rw [TT.tm_mk]
/-- Its seven cells lie there. -/
structure At7 (w : World) (b o : Nat) (x : TT) : Prop where
  c0 : w.cell? ⟨b, o, none⟩ = some (.int .i64 x.k)
  c1 : w.cell? ⟨b, o + 1, none⟩ = some (.int .i64 x.n)
  c2 : w.cell? ⟨b, o + 2, none⟩ = some (.int .i64 x.t.k)
  c3 : w.cell? ⟨b, o + 3, none⟩ = some (.slice x.t.a x.t.l.length x.t.c)
  c4 : w.cell? ⟨b, o + 4, none⟩ = some (.int .i64 x.f.k)
  c5 : w.cell? ⟨b, o + 5, none⟩ = some (.slice x.f.a x.f.l.length x.f.c)
  c6 : w.cell? ⟨b, o + 6, none⟩ = some (.slice x.a x.l.length x.c)
theorem At7.of {w w' : World} {b o : Nat} {x : TT} (h : At7 w b o x) (e : ∀ i, w'.cell? ⟨b, i, none⟩ = w.cell? ⟨b, i, none⟩) : At7 w' b o x :=
  ⟨(e _).trans h.c0, (e _).trans h.c1, (e _).trans h.c2, (e _).trans h.c3, (e _).trans h.c4, (e _).trans h.c5, (e _).trans h.c6⟩
theorem At7.lt {w : World} {b o : Nat} {x : TT} (h : At7 w b o x) : b < w.heap.size := World.block_lt_of_cell? _ _ h.c0
theorem At7.below {w w' : World} {b o : Nat} {x : TT} (hb : Below w.heap.size w w') (h : At7 w b o x) : At7 w' b o x :=
  h.of fun _ => hb.cell (p := ⟨b, _, none⟩) h.lt
/-- The term's types and its parts lie in the world. -/
def TT.In (w : World) : TT → Prop
  | ⟨_, _, t, f, a, _, l⟩ => t.In w ∧ f.In w ∧ (∀ j (h : j < l.length), ∃ b o, a = some ⟨b, o, none⟩ ∧ At7 w b (o + j * 7) l[j]) ∧ ∀ x, x ∈ l → x.In w
theorem TT.In_mk {w : World} {k n : Int} {t f : Tr} {a : Option Addr} {c : Nat} {l : List TT} : (TT.mk k n t f a c l).In w ↔ t.In w ∧ f.In w ∧ (∀ j (h : j < l.length), ∃ b o, a = some ⟨b, o, none⟩ ∧ At7 w b (o + j * 7) l[j]) ∧ ∀ x, x ∈ l → x.In w := by
  rw [TT.In]
theorem TT.In.t {w : World} {x : TT} (h : x.In w) : x.t.In w := by cases x; exact (TT.In_mk.1 h).1
theorem TT.In.f {w : World} {x : TT} (h : x.In w) : x.f.In w := by cases x; exact (TT.In_mk.1 h).2.1
/-- Part j: where it lies. -/
theorem TT.In.part {w : World} {x : TT} (h : x.In w) (j : Nat) (hj : j < x.l.length) : ∃ b o, x.a = some ⟨b, o, none⟩ ∧ At7 w b (o + j * 7) x.l[j] ∧ x.l[j].In w := by
  obtain ⟨k, n, t, f, a, c, l⟩ := x
  obtain ⟨_, _, hc, hi⟩ := TT.In_mk.1 h
  obtain ⟨b, o, e, c0⟩ := hc j hj
  exact ⟨b, o, e, c0, hi _ (List.getElem_mem hj)⟩
theorem TT.In.mem {w : World} {x y : TT} (h : x.In w) (hy : y ∈ x.l) : y.In w := by
  obtain ⟨k, n, t, f, a, c, l⟩ := x
  exact (TT.In_mk.1 h).2.2.2 y hy
theorem TT.In.below {w w' : World} (hb : Below w.heap.size w w') {x : TT} : x.In w → x.In w' := by
  induction x using TT.ind with
  | h k n t f a c l ih =>
    intro h
    obtain ⟨ht, hf, hc, hi⟩ := TT.In_mk.1 h
    refine TT.In_mk.2 ⟨ht.below hb, hf.below hb, fun j hj => ?_, fun x hx => ih x hx (hi x hx)⟩
    obtain ⟨b, o, e, c0⟩ := hc j hj
    exact ⟨b, o, e, c0.below hb⟩
/-- The blocks in which its types and parts lie are of this kind. -/
def TT.Bl (P : Nat → Prop) : TT → Prop
  | ⟨_, _, t, f, a, _, l⟩ => t.Bl P ∧ f.Bl P ∧ (l ≠ [] → ∀ x, a = some x → P x.block) ∧ ∀ x, x ∈ l → x.Bl P
theorem TT.Bl_mk {P : Nat → Prop} {k n : Int} {t f : Tr} {a : Option Addr} {c : Nat} {l : List TT} : (TT.mk k n t f a c l).Bl P ↔ t.Bl P ∧ f.Bl P ∧ (l ≠ [] → ∀ x, a = some x → P x.block) ∧ ∀ x, x ∈ l → x.Bl P := by
  rw [TT.Bl]
theorem TT.Bl.t {P : Nat → Prop} {x : TT} (h : x.Bl P) : x.t.Bl P := by cases x; exact (TT.Bl_mk.1 h).1
theorem TT.Bl.f {P : Nat → Prop} {x : TT} (h : x.Bl P) : x.f.Bl P := by cases x; exact (TT.Bl_mk.1 h).2.1
theorem TT.Bl.mem {P : Nat → Prop} {x y : TT} (h : x.Bl P) (hy : y ∈ x.l) : y.Bl P := by
  obtain ⟨k, n, t, f, a, c, l⟩ := x
  exact (TT.Bl_mk.1 h).2.2.2 y hy
theorem TT.Bl.own {P : Nat → Prop} {x : TT} (h : x.Bl P) (hl : x.l ≠ []) (y : Addr) (hy : x.a = some y) : P y.block := by
  obtain ⟨k, n, t, f, a, c, l⟩ := x
  exact (TT.Bl_mk.1 h).2.2.1 hl y hy
theorem TT.Bl.mono {P Q : Nat → Prop} (hPQ : ∀ b, P b → Q b) {x : TT} : x.Bl P → x.Bl Q := by
  induction x using TT.ind with
  | h k n t f a c l ih =>
    intro h
    obtain ⟨ht, hf, h1, h2⟩ := TT.Bl_mk.1 h
    exact TT.Bl_mk.2 ⟨ht.mono hPQ, hf.mono hPQ, fun hl x hx => hPQ _ (h1 hl x hx), fun x hx => ih x hx (h2 x hx)⟩
theorem TT.Bl.and {P Q : Nat → Prop} {x : TT} : x.Bl P → x.Bl Q → x.Bl (fun b => P b ∧ Q b) := by
  induction x using TT.ind with
  | h k n t f a c l ih =>
    intro h g
    obtain ⟨ht, hf, h1, h2⟩ := TT.Bl_mk.1 h
    obtain ⟨gt, gf, g1, g2⟩ := TT.Bl_mk.1 g
    exact TT.Bl_mk.2 ⟨ht.and gt, hf.and gf, fun hl x hx => ⟨h1 hl x hx, g1 hl x hx⟩, fun x hx => ih x hx (h2 x hx) (g2 x hx)⟩
theorem TT.In.bl {w : World} {x : TT} : x.In w → x.Bl (· < w.heap.size) := by
  induction x using TT.ind with
  | h k n t f a c l ih =>
    intro h
    obtain ⟨ht, hf, hc, hi⟩ := TT.In_mk.1 h
    refine TT.Bl_mk.2 ⟨ht.bl, hf.bl, fun hl x hx => ?_, fun x hx => ih x hx (hi x hx)⟩
    obtain ⟨b, o, e, c0⟩ := hc 0 (List.length_pos_iff.2 hl)
    rw [e] at hx
    have := Option.some.inj hx
    subst this
    exact c0.lt
/-- What lies in blocks that read as they did lies there still. -/
theorem TT.In.congr {w w' : World} {P : Nat → Prop} (hP : ∀ b, P b → ∀ o, w'.cell? ⟨b, o, none⟩ = w.cell? ⟨b, o, none⟩) {x : TT} : x.Bl P → x.In w → x.In w' := by
  induction x using TT.ind with
  | h k n t f a c l ih =>
    intro hb h
    obtain ⟨ht, hf, hc, hi⟩ := TT.In_mk.1 h
    obtain ⟨bt, bf, b1, b2⟩ := TT.Bl_mk.1 hb
    refine TT.In_mk.2 ⟨ht.congr hP bt, hf.congr hP bf, fun j hj => ?_, fun x hx => ih x hx (b2 x hx) (hi x hx)⟩
    obtain ⟨b, o, e, c0⟩ := hc j hj
    have hx : P b := b1 (fun e => by rw [e] at hj; simp at hj) _ e
    exact ⟨b, o, e, c0.of (hP b hx)⟩
theorem Tr.In.keptR {w w' : World} {R : Nat} {t : Tr} (h : t.In w) (hk : Kept R none w w') (hb : t.Bl (· ≠ R)) : t.In w' := by
  refine h.congr (P := fun b => b < w.heap.size ∧ b ≠ R) ?_ (h.bl.and hb)
  rintro b ⟨h1, h2⟩ o
  exact World.cell?_of_block (a := ⟨b, o, none⟩) (hk.block b h1 h2 (by simp))
theorem TT.In.keptR {w w' : World} {R : Nat} {x : TT} (h : x.In w) (hk : Kept R none w w') (hb : x.Bl (· ≠ R)) : x.In w' := by
  refine h.congr (P := fun b => b < w.heap.size ∧ b ≠ R) ?_ (h.bl.and hb)
  rintro b ⟨h1, h2⟩ o
  exact World.cell?_of_block (a := ⟨b, o, none⟩) (hk.block b h1 h2 (by simp))
theorem At7.keptR {w w' : World} {R b o : Nat} {x : TT} (h : At7 w b o x) (hk : Kept R none w w') (hb : b ≠ R) : At7 w' b o x :=
  h.of fun i => World.cell?_of_block (a := ⟨b, i, none⟩) (hk.block b h.lt hb (by simp))
/-- A term without parts and types. -/
def tleaf (k n : Int) : TT := ⟨k, n, ⟨0, none, 0, []⟩, ⟨0, none, 0, []⟩, none, 0, []⟩
theorem tleaf_in (k n : Int) (w : World) : (tleaf k n).In w := TT.In_mk.2 ⟨Tr.In_nil _ _ _ _, Tr.In_nil _ _ _ _, fun j h => absurd h (by simp), fun t h => absurd h (by simp)⟩
theorem tleaf_bl (k n : Int) (P : Nat → Prop) : (tleaf k n).Bl P := TT.Bl_mk.2 ⟨Tr.Bl_nil _ _ _ _, Tr.Bl_nil _ _ _ _, fun h => absurd rfl h, fun t h => absurd h (by simp)⟩
theorem tleaf_tm (k n : Int) : (tleaf k n).tm = ⟨k, n, anyY, anyY, []⟩ := by simp [tleaf, TT.tm_mk, Tr.ty_mk, anyY]
end Go.Proofs.YtnddkmccagiclaaGreatDoor

/-
  How casts, values, scopes, tasks and a machine lie in memory; no program in it but its types' numbers.
-/
namespace Go.Proofs.YtnddkmccagiclaaGreatDoor
open Go.RowKit
/-- What lies where: values, casts and scopes, by their blocks. -/
structure Gh where
  v : Nat → Option Val
  c : Nat → Option Ca
  s : Nat → Option (List Val)
def Gh.dom (G : Gh) (b : Nat) : Prop := G.v b ≠ none ∨ G.c b ≠ none ∨ G.s b ≠ none
def Gh.vp (G : Gh) (p : Option Addr) (v : Val) : Prop := ∃ b, p = some ⟨b, 0, none⟩ ∧ G.v b = some v
def Gh.cp (G : Gh) (p : Option Addr) (c : Option Ca) : Prop := (p = none ∧ c = none) ∨ ∃ b x, p = some ⟨b, 0, none⟩ ∧ c = some x ∧ G.c b = some x
def Gh.sp (G : Gh) (p : Option Addr) (e : List Val) : Prop := (p = none ∧ e = []) ∨ ∃ b, p = some ⟨b, 0, none⟩ ∧ G.s b = some e
structure Gh.le (G H : Gh) : Prop where
  v : ∀ b x, G.v b = some x → H.v b = some x
  c : ∀ b x, G.c b = some x → H.c b = some x
  s : ∀ b x, G.s b = some x → H.s b = some x
theorem Gh.le.refl (G : Gh) : G.le G := ⟨fun _ _ h => h, fun _ _ h => h, fun _ _ h => h⟩
theorem Gh.le.trans {G H K : Gh} (h : G.le H) (h' : H.le K) : G.le K := ⟨fun b x e => h'.v b x (h.v b x e), fun b x e => h'.c b x (h.c b x e), fun b x e => h'.s b x (h.s b x e)⟩
theorem Gh.vp.le {G H : Gh} {p : Option Addr} {v : Val} (h : G.vp p v) (hl : G.le H) : H.vp p v := by
  obtain ⟨b, e, hb⟩ := h; exact ⟨b, e, hl.v b v hb⟩
theorem Gh.cp.le {G H : Gh} {p : Option Addr} {c : Option Ca} (h : G.cp p c) (hl : G.le H) : H.cp p c := by
  rcases h with h | ⟨b, x, e, e', hb⟩
  · exact .inl h
  · exact .inr ⟨b, x, e, e', hl.c b x hb⟩
theorem Gh.sp.le {G H : Gh} {p : Option Addr} {e : List Val} (h : G.sp p e) (hl : G.le H) : H.sp p e := by
  rcases h with h | ⟨b, e', hb⟩
  · exact .inl h
  · exact .inr ⟨b, e', hl.s b e hb⟩
theorem Gh.cp_none (G : Gh) : G.cp none none := .inl ⟨rfl, rfl⟩
theorem Gh.sp_nil (G : Gh) : G.sp none [] := .inl ⟨rfl, rfl⟩
/-- Where a term lies, in the world in which the run begins. -/
def TmP (w0 : World) (p : Option Addr) (x : Tm) : Prop := ∃ (b o : Nat) (y : TT), p = some ⟨b, o, none⟩ ∧ At7 w0 b o y ∧ y.In w0 ∧ y.tm = x
/-- A value's cells. -/
def VAt (w0 w : World) (G : Gh) (b : Nat) (v : Val) : Prop := ∃ pb ps pi pg pa : Option Addr,
  w.cell? ⟨b, 0, none⟩ = some (.int .i64 v.k) ∧ w.cell? ⟨b, 1, none⟩ = some (.int .i64 v.n) ∧ w.cell? ⟨b, 2, none⟩ = some (.pointer pb) ∧ w.cell? ⟨b, 3, none⟩ = some (.pointer ps) ∧ w.cell? ⟨b, 4, none⟩ = some (.pointer pi) ∧ w.cell? ⟨b, 5, none⟩ = some (.pointer pg) ∧ w.cell? ⟨b, 6, none⟩ = some (.pointer pa) ∧ w.cell? ⟨b, 7, none⟩ = some (.int .i64 v.as) ∧
  (v.k = 3 → TmP w0 pb v.body ∧ G.sp ps v.env) ∧ (v.k = 4 ∨ v.k = 5 → ∃ u, v.inn = [u] ∧ G.vp pi u) ∧ G.cp pg v.given ∧ G.cp pa v.answer
/-- A cast's cells. -/
structure CAt (w : World) (b : Nat) (c : Ca) (pg pa : Option Addr) : Prop where
  c0 : w.cell? ⟨b, 0, none⟩ = some (.bool c.opens)
  c1 : w.cell? ⟨b, 1, none⟩ = some (.int .i64 c.wrong.k)
  c2 : w.cell? ⟨b, 2, none⟩ = some (.int .i64 c.wrong.n)
  c3 : w.cell? ⟨b, 3, none⟩ = some (.bool c.wrong.b)
  c4 : w.cell? ⟨b, 4, none⟩ = some (.int .i64 c.kind)
  c5 : w.cell? ⟨b, 5, none⟩ = some (.int .i64 c.ends.k)
  c6 : w.cell? ⟨b, 6, none⟩ = some (.int .i64 c.ends.n)
  c7 : w.cell? ⟨b, 7, none⟩ = some (.bool c.ends.b)
  c8 : w.cell? ⟨b, 8, none⟩ = some (.pointer pg)
  c9 : w.cell? ⟨b, 9, none⟩ = some (.pointer pa)
  c10 : w.cell? ⟨b, 10, none⟩ = some (.bool c.hides)
/-- A scope's cells. -/
def SAt (w : World) (G : Gh) (b : Nat) (e : List Val) : Prop := ∃ v r pv ps, e = v :: r ∧ w.cell? ⟨b, 0, none⟩ = some (.pointer pv) ∧ w.cell? ⟨b, 1, none⟩ = some (.pointer ps) ∧ G.vp pv v ∧ G.sp ps r
structure HG (w0 w : World) (G : Gh) : Prop where
  v : ∀ b x, G.v b = some x → VAt w0 w G b x
  c : ∀ b x, G.c b = some x → ∃ pg pa, CAt w b x pg pa ∧ G.cp pg x.given ∧ G.cp pa x.answer
  s : ∀ b x, G.s b = some x → SAt w G b x
theorem CAt.of {w w' : World} {b : Nat} {c : Ca} {pg pa : Option Addr} (h : CAt w b c pg pa) (e : ∀ i, w'.cell? ⟨b, i, none⟩ = w.cell? ⟨b, i, none⟩) : CAt w' b c pg pa :=
  ⟨(e _).trans h.c0, (e _).trans h.c1, (e _).trans h.c2, (e _).trans h.c3, (e _).trans h.c4, (e _).trans h.c5, (e _).trans h.c6, (e _).trans h.c7, (e _).trans h.c8, (e _).trans h.c9, (e _).trans h.c10⟩
theorem VAt.of {w0 w w' : World} {G H : Gh} {b : Nat} {v : Val} (h : VAt w0 w G b v) (hl : G.le H) (e : ∀ i, w'.cell? ⟨b, i, none⟩ = w.cell? ⟨b, i, none⟩) : VAt w0 w' H b v := by
  obtain ⟨pb, ps, pi, pg, pa, h0, h1, h2, h3, h4, h5, h6, h7, a1, a2, a3, a4⟩ := h
  refine ⟨pb, ps, pi, pg, pa, (e _).trans h0, (e _).trans h1, (e _).trans h2, (e _).trans h3, (e _).trans h4, (e _).trans h5, (e _).trans h6, (e _).trans h7, fun hk => ⟨(a1 hk).1, (a1 hk).2.le hl⟩, fun hk => ?_, a3.le hl, a4.le hl⟩
  obtain ⟨u, e1, e2⟩ := a2 hk
  exact ⟨u, e1, e2.le hl⟩
theorem SAt.of {w w' : World} {G H : Gh} {b : Nat} {x : List Val} (h : SAt w G b x) (hl : G.le H) (e : ∀ i, w'.cell? ⟨b, i, none⟩ = w.cell? ⟨b, i, none⟩) : SAt w' H b x := by
  obtain ⟨v, r, pv, ps, e0, h0, h1, h2, h3⟩ := h
  exact ⟨v, r, pv, ps, e0, (e _).trans h0, (e _).trans h1, h2.le hl, h3.le hl⟩
theorem HG.of {w0 w w' : World} {G : Gh} (h : HG w0 w G) (e : ∀ b, G.dom b → ∀ i, w'.cell? ⟨b, i, none⟩ = w.cell? ⟨b, i, none⟩) : HG w0 w' G := by
  refine ⟨fun b x hb => (h.v b x hb).of (Gh.le.refl G) (e b (.inl (by rw [hb]; simp))), fun b x hb => ?_, fun b x hb => (h.s b x hb).of (Gh.le.refl G) (e b (.inr (.inr (by rw [hb]; simp))))⟩
  obtain ⟨pg, pa, h1, h2, h3⟩ := h.c b x hb
  exact ⟨pg, pa, h1.of (e b (.inr (.inl (by rw [hb]; simp)))), h2, h3⟩
theorem HG.lt {w0 w : World} {G : Gh} (h : HG w0 w G) {b : Nat} (hb : G.dom b) : b < w.heap.size := by
  rcases hb with hb | hb | hb
  · obtain ⟨x, hx⟩ := Option.ne_none_iff_exists'.1 hb
    obtain ⟨pb, ps, pi, pg, pa, h0, _⟩ := h.v b x hx
    exact World.block_lt_of_cell? _ _ h0
  · obtain ⟨x, hx⟩ := Option.ne_none_iff_exists'.1 hb
    obtain ⟨pg, pa, h0, _⟩ := h.c b x hx
    exact World.block_lt_of_cell? _ _ h0.c0
  · obtain ⟨x, hx⟩ := Option.ne_none_iff_exists'.1 hb
    obtain ⟨v, r, pv, ps, _, h0, _⟩ := h.s b x hx
    exact World.block_lt_of_cell? _ _ h0
def Gh.addV (G : Gh) (b : Nat) (x : Val) : Gh := ⟨fun k => if k = b then some x else G.v k, G.c, G.s⟩
def Gh.addC (G : Gh) (b : Nat) (x : Ca) : Gh := ⟨G.v, fun k => if k = b then some x else G.c k, G.s⟩
def Gh.addS (G : Gh) (b : Nat) (x : List Val) : Gh := ⟨G.v, G.c, fun k => if k = b then some x else G.s k⟩
theorem Gh.le_addV {G : Gh} {b : Nat} {x : Val} (h : ¬ G.dom b) : G.le (G.addV b x) := by
  refine ⟨fun k y hy => ?_, fun _ _ h => h, fun _ _ h => h⟩
  have : k ≠ b := fun e => h (.inl (by rw [← e, hy]; simp))
  simp [Gh.addV, this, hy]
theorem Gh.le_addC {G : Gh} {b : Nat} {x : Ca} (h : ¬ G.dom b) : G.le (G.addC b x) := by
  refine ⟨fun _ _ h => h, fun k y hy => ?_, fun _ _ h => h⟩
  have : k ≠ b := fun e => h (.inr (.inl (by rw [← e, hy]; simp)))
  simp [Gh.addC, this, hy]
theorem Gh.le_addS {G : Gh} {b : Nat} {x : List Val} (h : ¬ G.dom b) : G.le (G.addS b x) := by
  refine ⟨fun _ _ h => h, fun _ _ h => h, fun k y hy => ?_⟩
  have : k ≠ b := fun e => h (.inr (.inr (by rw [← e, hy]; simp)))
  simp [Gh.addS, this, hy]
theorem Gh.dom_addV {G : Gh} {b k : Nat} {x : Val} (h : (G.addV b x).dom k) : k = b ∨ G.dom k := by
  by_cases e : k = b
  · exact .inl e
  · right
    rcases h with h | h | h
    · left; simpa [Gh.addV, e] using h
    · exact .inr (.inl h)
    · exact .inr (.inr h)
theorem Gh.dom_addC {G : Gh} {b k : Nat} {x : Ca} (h : (G.addC b x).dom k) : k = b ∨ G.dom k := by
  by_cases e : k = b
  · exact .inl e
  · right
    rcases h with h | h | h
    · exact .inl h
    · right; left; simpa [Gh.addC, e] using h
    · exact .inr (.inr h)
theorem Gh.dom_addS {G : Gh} {b k : Nat} {x : List Val} (h : (G.addS b x).dom k) : k = b ∨ G.dom k := by
  by_cases e : k = b
  · exact .inl e
  · right
    rcases h with h | h | h
    · exact .inl h
    · exact .inr (.inl h)
    · right; right; simpa [Gh.addS, e] using h
theorem Gh.vp_addV (G : Gh) (b : Nat) (x : Val) : (G.addV b x).vp (some ⟨b, 0, none⟩) x := ⟨b, rfl, by simp [Gh.addV]⟩
theorem Gh.cp_addC (G : Gh) (b : Nat) (x : Ca) : (G.addC b x).cp (some ⟨b, 0, none⟩) (some x) := .inr ⟨b, x, rfl, rfl, by simp [Gh.addC]⟩
theorem Gh.sp_addS (G : Gh) (b : Nat) (x : List Val) : (G.addS b x).sp (some ⟨b, 0, none⟩) x := .inr ⟨b, rfl, by simp [Gh.addS]⟩
theorem HG.addV {w0 w : World} {G : Gh} (h : HG w0 w G) {b : Nat} {x : Val} (hn : ¬ G.dom b) (hx : VAt w0 w G b x) : HG w0 w (G.addV b x) := by
  have hl := Gh.le_addV (x := x) hn
  refine ⟨fun k y hy => ?_, fun k y hy => ?_, fun k y hy => (h.s k y hy).of hl fun _ => rfl⟩
  · by_cases e : k = b
    · subst e
      have : y = x := by simpa [Gh.addV] using hy.symm
      rw [this]; exact hx.of hl fun _ => rfl
    · exact (h.v k y (by simpa [Gh.addV, e] using hy)).of hl fun _ => rfl
  · obtain ⟨pg, pa, h1, h2, h3⟩ := h.c k y hy
    exact ⟨pg, pa, h1, h2.le hl, h3.le hl⟩
theorem HG.addC {w0 w : World} {G : Gh} (h : HG w0 w G) {b : Nat} {x : Ca} (hn : ¬ G.dom b) {pg pa : Option Addr} (hx : CAt w b x pg pa) (hg : G.cp pg x.given) (ha : G.cp pa x.answer) : HG w0 w (G.addC b x) := by
  have hl := Gh.le_addC (x := x) hn
  refine ⟨fun k y hy => (h.v k y hy).of hl fun _ => rfl, fun k y hy => ?_, fun k y hy => (h.s k y hy).of hl fun _ => rfl⟩
  by_cases e : k = b
  · subst e
    have : y = x := by simpa [Gh.addC] using hy.symm
    rw [this]; exact ⟨pg, pa, hx, hg.le hl, ha.le hl⟩
  · obtain ⟨pg, pa, h1, h2, h3⟩ := h.c k y (by simpa [Gh.addC, e] using hy)
    exact ⟨pg, pa, h1, h2.le hl, h3.le hl⟩
theorem HG.addS {w0 w : World} {G : Gh} (h : HG w0 w G) {b : Nat} {x : List Val} (hn : ¬ G.dom b) (hx : SAt w G b x) : HG w0 w (G.addS b x) := by
  have hl := Gh.le_addS (x := x) hn
  refine ⟨fun k y hy => (h.v k y hy).of hl fun _ => rfl, fun k y hy => ?_, fun k y hy => ?_⟩
  · obtain ⟨pg, pa, h1, h2, h3⟩ := h.c k y hy
    exact ⟨pg, pa, h1, h2.le hl, h3.le hl⟩
  · by_cases e : k = b
    · subst e
      have : y = x := by simpa [Gh.addS] using hy.symm
      rw [this]; exact hx.of hl fun _ => rfl
    · exact (h.s k y (by simpa [Gh.addS, e] using hy)).of hl fun _ => rfl
/-- The number by which the program knows a task. -/
def dOf (d : Int) : Int := if d = 7 then 5 else d
def TkP (w0 : World) (G : Gh) (t : Task) (d : Int) (pt ps pc : Option Addr) : Prop := d = dOf t.d ∧ (t.d = 1 ∨ t.d = 4 → TmP w0 pt t.x ∧ G.sp ps t.s) ∧ G.cp pc t.c
/-- The tasks' cells, the next one last. -/
def TRep (w0 : World) (G : Gh) : List Task → List Value → Prop
  | [], xs => xs = []
  | t :: ts, xs => ∃ ys d pt ps pc, xs = ys ++ [.int .i64 d, .pointer pt, .pointer ps, .pointer pc] ∧ TRep w0 G ts ys ∧ TkP w0 G t d pt ps pc
/-- The values' cells, the last one last. -/
def VRep (G : Gh) : List Val → List Value → Prop
  | [], xs => xs = []
  | v :: vs, xs => ∃ ys p, xs = ys ++ [.pointer p] ∧ VRep G vs ys ∧ G.vp p v
theorem TkP.le {w0 : World} {G H : Gh} (hl : G.le H) {t : Task} {d : Int} {pt ps pc : Option Addr} (h : TkP w0 G t d pt ps pc) : TkP w0 H t d pt ps pc :=
  ⟨h.1, fun hd => ⟨(h.2.1 hd).1, (h.2.1 hd).2.le hl⟩, h.2.2.le hl⟩
theorem TRep.le {w0 : World} {G H : Gh} (hl : G.le H) : ∀ {ts : List Task} {xs : List Value}, TRep w0 G ts xs → TRep w0 H ts xs
  | [], _, h => h
  | _ :: _, _, ⟨ys, d, pt, ps, pc, e, h1, h2⟩ => ⟨ys, d, pt, ps, pc, e, h1.le hl, h2.le hl⟩
theorem VRep.le {G H : Gh} (hl : G.le H) : ∀ {vs : List Val} {xs : List Value}, VRep G vs xs → VRep H vs xs
  | [], _, h => h
  | _ :: _, _, ⟨ys, p, e, h1, h2⟩ => ⟨ys, p, e, h1.le hl, h2.le hl⟩
/-- A block that holds one of the machine's lists. -/
def rowB (w : World) (M k : Nat) : Prop := ∃ v : Value, v.ownBlock = some k ∧ (w.cell? ⟨M, 0, none⟩ = some v ∨ w.cell? ⟨M, 1, none⟩ = some v)
/-- But for the machine and its lists all is as it was. -/
structure Fr (M : Nat) (w w' : World) : Prop where
  os : w'.os = w.os
  tape : w'.tape = w.tape
  output : w'.output = w.output
  size : w.heap.size ≤ w'.heap.size
  block : ∀ k, k < w.heap.size → k ≠ M → ¬ rowB w M k → w'.heap[k]? = w.heap[k]? ∧ ¬ rowB w' M k
theorem Fr.refl (M : Nat) (w : World) : Fr M w w := ⟨rfl, rfl, rfl, Nat.le_refl _, fun _ _ _ h => ⟨rfl, h⟩⟩
theorem Fr.trans {M : Nat} {a b c : World} (h : Fr M a b) (h' : Fr M b c) : Fr M a c := by
  refine ⟨h'.os.trans h.os, h'.tape.trans h.tape, h'.output.trans h.output, Nat.le_trans h.size h'.size, fun k hk h1 h2 => ?_⟩
  obtain ⟨e1, e2⟩ := h.block k hk h1 h2
  obtain ⟨e3, e4⟩ := h'.block k (Nat.lt_of_lt_of_le hk h.size) h1 e2
  exact ⟨e3.trans e1, e4⟩
theorem Fr.cell {M : Nat} {w w' : World} (h : Fr M w w') {k : Nat} (hk : k < w.heap.size) (h1 : k ≠ M) (h2 : ¬ rowB w M k) (i : Nat) : w'.cell? ⟨k, i, none⟩ = w.cell? ⟨k, i, none⟩ :=
  World.cell?_of_block (a := ⟨k, i, none⟩) (h.block k hk h1 h2).1
theorem Fr.frozen {M : Nat} {w w' : World} (h : Fr M w w') {k : Nat} (hk : k < w.heap.size) (h1 : k ≠ M) (h2 : ¬ rowB w M k) (i : Nat) : w'.frozen? ⟨k, i, none⟩ = w.frozen? ⟨k, i, none⟩ :=
  World.frozen?_of_block (a := ⟨k, i, none⟩) (h.block k hk h1 h2).1
theorem rowB.congr {w w' : World} {M k : Nat} (h0 : w'.cell? ⟨M, 0, none⟩ = w.cell? ⟨M, 0, none⟩) (h1 : w'.cell? ⟨M, 1, none⟩ = w.cell? ⟨M, 1, none⟩) (h : rowB w' M k) : rowB w M k := by
  obtain ⟨v, e, h⟩ := h
  rw [h0, h1] at h
  exact ⟨v, e, h⟩
/-- What leaves all that was there is such a change. -/
theorem Fr.below {M : Nat} {w w' : World} (h : Below w.heap.size w w') (hM : M < w.heap.size) : Fr M w w' :=
  ⟨h.os, h.tape, h.output, h.size, fun k hk _ h2 => ⟨h.block k hk, fun hr => h2 (hr.congr (h.cell (p := ⟨M, 0, none⟩) hM) (h.cell (p := ⟨M, 1, none⟩) hM))⟩⟩
/-- The machine. -/
structure MS (w0 w : World) (M : Nat) (G : Gh) (s : St) : Prop where
  ex : ∃ tv mv txs mxs, w.cell? ⟨M, 0, none⟩ = some tv ∧ w.cell? ⟨M, 1, none⟩ = some mv ∧ w.ownsRow (M + 1) 155 4 tv s.ts.length txs ∧ w.ownsRow (M + 1) 157 1 mv s.vs.length mxs ∧ (∀ g, tv.ownBlock = some g → mv.ownBlock = some g → False) ∧ TRep w0 G s.ts txs ∧ VRep G s.vs mxs
  c2 : w.cell? ⟨M, 2, none⟩ = some (.int .i64 s.calls)
  c3 : w.cell? ⟨M, 3, none⟩ = some (.int .i64 s.fuel)
  c4 : w.cell? ⟨M, 4, none⟩ = some (.int .i64 s.ended.k)
  c5 : w.cell? ⟨M, 5, none⟩ = some (.int .i64 s.ended.n)
  c6 : w.cell? ⟨M, 6, none⟩ = some (.bool s.ended.b)
  fz : ∀ o, w.frozen? ⟨M, o, none⟩ = false
  hg : HG w0 w G
  far : ∀ b, G.dom b → b ≠ M ∧ ¬ rowB w M b
  bel : Below w0.heap.size w0 w
  lo : w0.heap.size ≤ M
theorem MS.lt {w0 w : World} {M : Nat} {G : Gh} {s : St} (h : MS w0 w M G s) : M < w.heap.size := World.block_lt_of_cell? _ _ h.c2
/-- What leaves all that was there leaves the machine. -/
theorem MS.below {w0 w w' : World} {M : Nat} {G : Gh} {s : St} (h : MS w0 w M G s) (hb : Below w.heap.size w w') : MS w0 w' M G s := by
  have hM := h.lt
  have hc : ∀ i, w'.cell? ⟨M, i, none⟩ = w.cell? ⟨M, i, none⟩ := fun i => hb.cell (p := ⟨M, i, none⟩) hM
  obtain ⟨tv, mv, txs, mxs, h0, h1, o0, o1, hn, ht, hv⟩ := h.ex
  have row : ∀ {e sz : Nat} {v : Value} {n : Nat} {xs : List Value}, w.ownsRow (M + 1) e sz v n xs → w'.ownsRow (M + 1) e sz v n xs := by
    intro e sz v n xs ho
    refine ⟨ho.1, ?_⟩
    rcases ho.2 with hn | ⟨g, cap, cur, rfl, hbb, hgg, rest⟩
    · exact .inl hn
    · exact .inr ⟨g, cap, cur, rfl, hbb, by rw [hb.block g (Array.getElem?_eq_some_iff.1 hgg).1]; exact hgg, rest⟩
  refine ⟨⟨tv, mv, txs, mxs, (hc 0).trans h0, (hc 1).trans h1, row o0, row o1, hn, ht, hv⟩, (hc 2).trans h.c2, (hc 3).trans h.c3, (hc 4).trans h.c4, (hc 5).trans h.c5, (hc 6).trans h.c6, fun o => (hb.frozen (p := ⟨M, o, none⟩) hM).trans (h.fz o), ?_, fun b hd => ⟨(h.far b hd).1, fun hr => (h.far b hd).2 (hr.congr (hc 0) (hc 1))⟩, h.bel.trans (hb.mono h.bel.size), h.lo⟩
  exact h.hg.of fun b hd i => hb.cell (p := ⟨b, i, none⟩) (h.hg.lt hd)
/-- More lies in memory. -/
theorem MS.grow {w0 w : World} {M : Nat} {G H : Gh} {s : St} (h : MS w0 w M G s) (hl : G.le H) (hh : HG w0 w H) (hf : ∀ b, H.dom b → b ≠ M ∧ ¬ rowB w M b) : MS w0 w M H s := by
  obtain ⟨tv, mv, txs, mxs, h0, h1, o0, o1, hn, ht, hv⟩ := h.ex
  exact ⟨⟨tv, mv, txs, mxs, h0, h1, o0, o1, hn, ht.le hl, hv.le hl⟩, h.c2, h.c3, h.c4, h.c5, h.c6, h.fz, hh, hf, h.bel, h.lo⟩
end Go.Proofs.YtnddkmccagiclaaGreatDoor
