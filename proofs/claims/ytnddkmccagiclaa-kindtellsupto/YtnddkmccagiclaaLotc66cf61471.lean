/-
  What the calls of kind.goodWithin and kind.Good answer, at whatever tree lies in memory.
-/
import Derived.Test.YtnddkmccagiclaaRows
import Derived.Test.YtnddkmccagiclaaLota407ef62cb
import Derived.Deep.RegionHeld3
import Derived.Deep.AppendLies
import Derived.Deep.RegionLaw
import Derived.Deep.LoopGhost
namespace Go.Proofs.Ytnddkmccagiclaa
open Go.RowKit

set_option maxHeartbeats 400000 in
theorem within_zero (k : Int) (a : Option Addr) (c : Nat) (l : List Tr) (w : World) :
    Calls Try.prog 28 #[.agg #[.int .i64 k, .slice a l.length c], .int .i64 0] w fun e w' => e = .returned (.bool false) ∧ Below w.heap.size w w' := by
  go_enter Try.func28, Try.ntmps28
  go_wp2_with fail
  go_ret
  exact ⟨rfl, (Below.refl _ _).alloc (Nat.le_refl _) _⟩

set_option maxHeartbeats 400000 in
theorem within_leaf (n : Nat) (hn : n ≤ 1000) (k : Int) (hk : k = 0 ∨ k = 1 ∨ k = 2) (a : Option Addr) (c : Nat) (m : Nat) (w : World) :
    Calls Try.prog 28 #[.agg #[.int .i64 k, .slice a m c], .int .i64 ((n : Int) + 1)] w fun e w' => e = .returned (.bool ((m : Int) == 0)) ∧ Below w.heap.size w w' := by
  have h1 : (((n : Int) + 1) == 0) = false := by simp; omega
  rcases hk with rfl | rfl | rfl <;>
  · go_enter Try.func28, Try.ntmps28
    go_wp2_with fail
    go_ret
    exact ⟨rfl, (Below.refl _ _).alloc (Nat.le_refl _) _⟩

set_option maxHeartbeats 400000 in
theorem within_other (n : Nat) (hn : n ≤ 1000) (k : Int) (h0 : (k == 0) = false) (h1 : (k == 1) = false) (h2 : (k == 2) = false) (h3 : (k == 3) = false) (a : Option Addr) (c : Nat) (m : Nat) (w : World) :
    Calls Try.prog 28 #[.agg #[.int .i64 k, .slice a m c], .int .i64 ((n : Int) + 1)] w fun e w' => e = .returned (.bool false) ∧ Below w.heap.size w w' := by
  have hz : (((n : Int) + 1) == 0) = false := by simp; omega
  go_enter Try.func28, Try.ntmps28
  go_wp2_with fail
  go_ret
  exact ⟨rfl, (Below.refl _ _).alloc (Nat.le_refl _) _⟩

set_option maxHeartbeats 400000 in
theorem within_fun_no (n : Nat) (hn : n ≤ 1000) (a : Option Addr) (c : Nat) (m : Nat) (hm : ((m : Int) == 2) = false) (w : World) :
    Calls Try.prog 28 #[.agg #[.int .i64 3, .slice a m c], .int .i64 ((n : Int) + 1)] w fun e w' => e = .returned (.bool false) ∧ Below w.heap.size w w' := by
  have hz : (((n : Int) + 1) == 0) = false := by simp; omega
  go_enter Try.func28, Try.ntmps28
  go_wp2_with fail
  go_ret
  exact ⟨rfl, (Below.refl _ _).alloc (Nat.le_refl _) _⟩

set_option maxHeartbeats 400000 in
theorem within_fun (n : Nat) (hn : n ≤ 1000) (b o c : Nat) (kx ky : Int) (ax ay : Option Addr) (mx my cx cy : Nat) (gx gy : Bool) (w : World)
    (x0 : w.cell? ⟨b, o, none⟩ = some (.int .i64 kx)) (x1 : w.cell? ⟨b, o + 1, none⟩ = some (.slice ax mx cx))
    (y0 : w.cell? ⟨b, o + 2, none⟩ = some (.int .i64 ky)) (y1 : w.cell? ⟨b, o + 3, none⟩ = some (.slice ay my cy))
    (hx : Hid (∀ w', Below w.heap.size w w' → Calls Try.prog 28 #[.agg #[.int .i64 kx, .slice ax mx cx], .int .i64 (n : Int)] w' fun e w'' => e = .returned (.bool gx) ∧ Below w'.heap.size w' w''))
    (hy : Hid (∀ w', Below w.heap.size w w' → Calls Try.prog 28 #[.agg #[.int .i64 ky, .slice ay my cy], .int .i64 (n : Int)] w' fun e w'' => e = .returned (.bool gy) ∧ Below w'.heap.size w' w'')) :
    Calls Try.prog 28 #[.agg #[.int .i64 3, .slice (some ⟨b, o, none⟩) 2 c], .int .i64 ((n : Int) + 1)] w fun e w' => e = .returned (.bool (gx && gy)) ∧ Below w.heap.size w w' := by
  have hz : (((n : Int) + 1) == 0) = false := by simp; omega
  have lb : b < w.heap.size := World.block_lt_of_cell? _ _ x0
  cases gx
  · go_enter Try.func28, Try.ntmps28
    go_wp2_with fail
    refine (hx.out _ ((Below.refl _ _).alloc (Nat.le_refl _) _)).mono ?_
    rintro e w1 ⟨rfl, hb1⟩
    go_wp2_with fail
    go_ret
    exact ⟨rfl, ((Below.refl _ _).alloc (Nat.le_refl _) _).trans (hb1.mono (by simp))⟩
  · go_enter Try.func28, Try.ntmps28
    go_wp2_with fail
    refine (hx.out _ ((Below.refl _ _).alloc (Nat.le_refl _) _)).mono ?_
    rintro e w1 ⟨rfl, hb1⟩
    have hbw : Below w.heap.size w w1 := ((Below.refl _ _).alloc (Nat.le_refl _) _).trans (hb1.mono (by simp))
    have b1 : w1.cell? ⟨w.heap.size, 1, none⟩ = some (.slice (some ⟨b, o, none⟩) 2 c) := cell_later hb1 (by simp [go_sem])
    have y0' := cell_later hbw y0
    have y1' := cell_later hbw y1
    go_wp2_with fail
    refine (hy.out _ hbw).mono ?_
    rintro e w2 ⟨rfl, hb2⟩
    go_wp2_with fail
    go_ret
    exact ⟨by simp, hbw.trans (hb2.mono hbw.size)⟩

theorem within_zero' (t : Tr) (w : World) : Calls Try.prog 28 #[.agg #[.int .i64 t.k, .slice t.a t.l.length t.c], .int .i64 0] w fun e w' => e = .returned (.bool (goodT 0 t)) ∧ Below w.heap.size w w' := by
  refine (within_zero t.k t.a t.c t.l w).mono ?_
  rintro e w' ⟨rfl, hb⟩
  exact ⟨by simp [goodT], hb⟩

theorem within_any (n : Nat) : n ≤ 1000 → ∀ (t : Tr) (w : World), t.In w →
    Calls Try.prog 28 #[.agg #[.int .i64 t.k, .slice t.a t.l.length t.c], .int .i64 (n : Int)] w fun e w' => e = .returned (.bool (goodT n t)) ∧ Below w.heap.size w w' := by
  induction n with
  | zero =>
    intro _ t w _
    have e : ((0 : Nat) : Int) = 0 := rfl
    rw [e]
    exact within_zero' t w
  | succ n ih =>
    intro hn ⟨k, a, c, l⟩ w hin
    have e : ((n + 1 : Nat) : Int) = (n : Int) + 1 := by omega
    rw [e]
    dsimp only
    by_cases hk : k = 0 ∨ k = 1 ∨ k = 2
    · refine (within_leaf n (by omega) k hk a c l.length w).mono ?_
      rintro e w' ⟨rfl, hb⟩
      refine ⟨?_, hb⟩
      have e3 : (k == 3) = false := by simp; omega
      have eo : (k == 0 || k == 1 || k == 2) = true := by simpa [or_assoc] using hk
      match l with
      | [] => simp [goodT, eo]
      | [x] => simp [goodT]
      | [x, y] => simp [goodT, e3]
      | x :: y :: z :: r => simp [goodT]; omega
    · have h0 : (k == 0) = false := by simp; omega
      have h1 : (k == 1) = false := by simp; omega
      have h2 : (k == 2) = false := by simp; omega
      by_cases h3 : k = 3
      · subst h3
        match l, hin with
        | [], hin => exact within_fun_no n (by omega) a c 0 (by decide) w
        | [x], hin => exact within_fun_no n (by omega) a c 1 (by decide) w
        | x :: y :: z :: r, hin =>
          refine (within_fun_no n (by omega) a c (x :: y :: z :: r).length (by simp; omega) w).mono ?_
          rintro e w' ⟨rfl, hb⟩
          exact ⟨by simp [goodT], hb⟩
        | [x, y], hin =>
          obtain ⟨b, o, e0, x0, x1, hx⟩ := hin.at 0 (by simp)
          obtain ⟨b', o', e1, y0, y1, hy⟩ := hin.at 1 (by simp)
          rw [e0] at e1
          obtain ⟨rfl, rfl⟩ : b = b' ∧ o = o' := by simpa using e1
          subst e0
          refine (within_fun n (by omega) b o c x.k y.k x.a y.a x.l.length y.l.length x.c y.c (goodT n x) (goodT n y) w (by simpa using x0) (by simpa using x1) (by simpa using y0) (by simpa using y1)
            (fun w' hb => ih (by omega) x w' (hx.below hb)) (fun w' hb => ih (by omega) y w' (hy.below hb))).mono ?_
          rintro e w' ⟨rfl, hb⟩
          exact ⟨by simp [goodT], hb⟩
      · refine (within_other n (by omega) k h0 h1 h2 (by simpa using h3) a c l.length w).mono ?_
        rintro e w' ⟨rfl, hb⟩
        refine ⟨?_, hb⟩
        have e3 : (k == 3) = false := by simpa using h3
        match l with
        | [] => simp [goodT, h0, h1, h2]
        | [x] => simp [goodT]
        | [x, y] => simp [goodT, e3]
        | x :: y :: z :: r => simp [goodT]

set_option maxHeartbeats 400000 in
/-- kind.Good. -/
theorem good_any (t : Tr) (w : World) (hin : t.In w) :
    Calls Try.prog 7 #[.agg #[.int .i64 t.k, .slice t.a t.l.length t.c]] w fun e w' => e = .returned (.bool (goodT 4 t)) ∧ Below w.heap.size w w' := by
  have hw := within_any 4 (by omega) t
  have HW : Hid (∀ (w : World), t.In w → Calls Try.prog 28 #[.agg #[.int .i64 t.k, .slice t.a t.l.length t.c], .int .i64 4] w fun e w' => e = .returned (.bool (goodT 4 t)) ∧ Below w.heap.size w w') := hw
  clear hw
  go_enter Try.func7, Try.ntmps7
  go_wp2_with fail
  refine (HW.out _ (hin.below ((Below.refl _ _).alloc (Nat.le_refl _) _))).mono ?_
  rintro e w1 ⟨rfl, hb1⟩
  go_wp2_with fail
  go_ret
  exact ⟨rfl, ((Below.refl _ _).alloc (Nat.le_refl _) _).trans (hb1.mono (by simp))⟩
end Go.Proofs.Ytnddkmccagiclaa

/-
  What the calls of (*later).put, (*later).empty and (*later).take do to a list of pairs that lies behind a pointer.
-/
namespace Go.Proofs.Ytnddkmccagiclaa
open Go.RowKit

theorem Try.info41 : (Try.prog.info? 41).map (fun i => (i.zero, i.size, i.bytes)) = some (some (.agg #[.int .i64 0, .slice none 0 0, .int .i64 0, .slice none 0 0, .pointer none]), 5, 72) := by kernel_rfl

/-- But for block r and one row the memory is as it was. -/
structure Kept (r : Nat) (o : Option Nat) (w w' : World) : Prop where
  os : w'.os = w.os
  tape : w'.tape = w.tape
  output : w'.output = w.output
  size : w.heap.size ≤ w'.heap.size
  block : ∀ k, k < w.heap.size → k ≠ r → some k ≠ o → w'.heap[k]? = w.heap[k]?

theorem Kept.below {r : Nat} {o : Option Nat} {w w' : World} (h : Kept r o w w') (ho : ∀ g, o = some g → r ≤ g) (hr : r ≤ w.heap.size) : Below r w w' :=
  ⟨h.os, h.tape, h.output, h.size, fun k hk => h.block k (by omega) (by omega) (fun e => by have := ho k e.symm; omega)⟩

theorem put_end {r : Nat} {v : Value} {n : Nat} {ys : List Value} {w w1 : World} {X : Obj} {g cap : Nat} (hgrow : (((w.alloc X).alloc X).drew).grownBy w1 v.ownBlock) (hown : w1.ownsRow (r + 1) 41 5 (.slice (some ⟨g, 0, none⟩) (n + 1) cap) (n + 1) ys)
    (hat : v.ownBlock = some g ∨ g = w.heap.size + 2) (hcr : w1.cell? ⟨r, 0, none⟩ = some v) (hfr : w1.frozen? ⟨r, 0, none⟩ = false) :
    ∃ g' cap', (w1.setCell ⟨r, 0, none⟩ (.slice (some ⟨g, 0, none⟩) (n + 1) cap)).cell? ⟨r, 0, none⟩ = some (.slice (some ⟨g', 0, none⟩) (n + 1) cap') ∧ (w1.setCell ⟨r, 0, none⟩ (.slice (some ⟨g, 0, none⟩) (n + 1) cap)).frozen? ⟨r, 0, none⟩ = false ∧
      (w1.setCell ⟨r, 0, none⟩ (.slice (some ⟨g, 0, none⟩) (n + 1) cap)).ownsRow (r + 1) 41 5 (.slice (some ⟨g', 0, none⟩) (n + 1) cap') (n + 1) ys ∧ (v.ownBlock = some g' ∨ w.heap.size ≤ g') ∧ Kept r v.ownBlock w (w1.setCell ⟨r, 0, none⟩ (.slice (some ⟨g, 0, none⟩) (n + 1) cap)) := by
  have hb : Below w.heap.size w ((w.alloc X).alloc X).drew := (((Below.refl _ _).alloc (Nat.le_refl _) _).alloc (by simp) _).drew
  refine ⟨g, cap, World.cell?_setCell_same _ _ _ hcr, by simpa using hfr, ownsRow_setCell_below hown (by simp) _, ?_, ?_⟩
  · rcases hat with h | h
    · exact .inl h
    · exact .inr (by omega)
  · have hs := hgrow.size
    have hsz : ((w.alloc X).alloc X).drew.heap.size = w.heap.size + 1 + 1 := by simp
    refine ⟨hgrow.os.trans hb.os, hgrow.tape.trans hb.tape, hgrow.output.trans hb.output, ?_, fun k hk h1 h2 => ?_⟩
    · rw [show (w1.setCell ⟨r, 0, none⟩ (.slice (some ⟨g, 0, none⟩) (n + 1) cap)).heap.size = w1.heap.size from by simp [World.setCell]]
      omega
    · rw [Below.heap_setCell _ _ _ _ h1, hgrow.block k (by omega) h2, hb.block k hk]

set_option maxHeartbeats 400000 in
theorem empty_any (r : Nat) (a : Option Addr) (n c : Nat) (w : World) (hv : w.cell? ⟨r, 0, none⟩ = some (.slice a n c)) :
    Calls Try.prog 35 #[.pointer (some ⟨r, 0, none⟩)] w fun e w' => e = .returned (.bool ((n : Int) == 0)) ∧ w' = w := by
  go_enter Try.func35, Try.ntmps35
  go_wp2_with fail
  go_ret
  exact ⟨rfl, rfl⟩

set_option maxHeartbeats 400000 in
theorem take_any (r g : Nat) (n c : Nat) (k k' : Int) (a a' : Option Addr) (m m' d d' : Nat) (p : Option Addr) (w : World) (hv : w.cell? ⟨r, 0, none⟩ = some (.slice (some ⟨g, 0, none⟩) (n + 1) c)) (hf : w.frozen? ⟨r, 0, none⟩ = false) (hc : n + 1 ≤ c) (hn : n ≤ 140737488355328)
    (h0 : w.cell? ⟨g, n * 5, none⟩ = some (.int .i64 k)) (h1 : w.cell? ⟨g, n * 5 + 1, none⟩ = some (.slice a m d)) (h2 : w.cell? ⟨g, n * 5 + 2, none⟩ = some (.int .i64 k')) (h3 : w.cell? ⟨g, n * 5 + 3, none⟩ = some (.slice a' m' d')) (h4 : w.cell? ⟨g, n * 5 + 4, none⟩ = some (.pointer p)) :
    Calls Try.prog 37 #[.pointer (some ⟨r, 0, none⟩)] w fun e w' => e = .returned (.agg #[.int .i64 k, .slice a m d, .int .i64 k', .slice a' m' d', .pointer p]) ∧
      w' = ((w.setCell ⟨r, 0, none⟩ (.slice (some ⟨g, 0, none⟩) n c)).alloc (.cells #[.int .i64 k, .slice a m d, .int .i64 k', .slice a' m' d', .pointer p] 41)).alloc (.cells #[.int .i64 k, .slice a m d, .int .i64 k', .slice a' m' d', .pointer p] 41) := by
  have lr : r < w.heap.size := World.block_lt_of_cell? _ _ hv
  have lg : g < w.heap.size := World.block_lt_of_cell? _ _ h0
  go_enter Try.func37, Try.ntmps37
  go_wp2_with fail
  exact bodyPost_ret (v := .agg #[.int .i64 k, .slice a m d, .int .i64 k', .slice a' m' d', .pointer p]) (by simp [results, Try.results37, go_sem]) rfl ⟨rfl, rfl⟩

set_option maxHeartbeats 1000000 in
theorem put_any (r : Nat) (v : Value) (n : Nat) (xs : List Value) (k k' : Int) (a a' : Option Addr) (m m' d d' : Nat) (p : Option Addr) (w : World) (hv : w.cell? ⟨r, 0, none⟩ = some v) (hf : w.frozen? ⟨r, 0, none⟩ = false) (hown : w.ownsRow (r + 1) 41 5 v n xs) (hn : n + 1 ≤ 1000000000) :
    Calls Try.prog 34 #[.pointer (some ⟨r, 0, none⟩), .agg #[.int .i64 k, .slice a m d, .int .i64 k', .slice a' m' d', .pointer p]] w fun e w' => e = .returned (.tuple #[]) ∧
      ∃ g cap, w'.cell? ⟨r, 0, none⟩ = some (.slice (some ⟨g, 0, none⟩) (n + 1) cap) ∧ w'.frozen? ⟨r, 0, none⟩ = false ∧ w'.ownsRow (r + 1) 41 5 (.slice (some ⟨g, 0, none⟩) (n + 1) cap) (n + 1) (xs ++ [.int .i64 k, .slice a m d, .int .i64 k', .slice a' m' d', .pointer p]) ∧ (v.ownBlock = some g ∨ w.heap.size ≤ g) ∧ Kept r v.ownBlock w w' := by
  have lr : r < w.heap.size := World.block_lt_of_cell? _ _ hv
  obtain ⟨i0, hi0, hz0, hz1, hz2⟩ := info_parts Try.info41
  have hnr : v.ownBlock ≠ some r := by
    rcases hown.2 with ⟨rfl, _⟩ | ⟨g, cap, cur, rfl, hg, _⟩
    · simp [Value.ownBlock]
    · simp only [Value.ownBlock, ne_eq, Option.some.injEq]; omega
  have hnw : v.ownBlock ≠ some w.heap.size := by
    rcases hown.2 with ⟨rfl, _⟩ | ⟨g, cap, cur, rfl, hg, hb, _⟩
    · simp [Value.ownBlock]
    · have : g < w.heap.size := by
        rcases Nat.lt_or_ge g w.heap.size with hlt | hge
        · exact hlt
        · rw [Array.getElem?_eq_none hge] at hb; cases hb
      simp only [Value.ownBlock, ne_eq, Option.some.injEq]; omega
  have hfz2 : ((w.alloc (.cells #[.int .i64 k, .slice a m d, .int .i64 k', .slice a' m' d', .pointer p] 41)).alloc (.cells #[.int .i64 k, .slice a m d, .int .i64 k', .slice a' m' d', .pointer p] 41)).drew.frozen? ⟨r, 0, none⟩ = false := by
    have hb : Below w.heap.size w ((w.alloc (.cells #[.int .i64 k, .slice a m d, .int .i64 k', .slice a' m' d', .pointer p] 41)).alloc (.cells #[.int .i64 k, .slice a m d, .int .i64 k', .slice a' m' d', .pointer p] 41)).drew := (((Below.refl _ _).alloc (Nat.le_refl _) _).alloc (by simp) _).drew
    rw [hb.frozen (p := ⟨r, 0, none⟩) lr]; exact hf
  have hvz2 : ((w.alloc (.cells #[.int .i64 k, .slice a m d, .int .i64 k', .slice a' m' d', .pointer p] 41)).alloc (.cells #[.int .i64 k, .slice a m d, .int .i64 k', .slice a' m' d', .pointer p] 41)).drew.cell? ⟨r, 0, none⟩ = some v := by
    have hb : Below w.heap.size w ((w.alloc (.cells #[.int .i64 k, .slice a m d, .int .i64 k', .slice a' m' d', .pointer p] 41)).alloc (.cells #[.int .i64 k, .slice a m d, .int .i64 k', .slice a' m' d', .pointer p] 41)).drew := (((Below.refl _ _).alloc (Nat.le_refl _) _).alloc (by simp) _).drew
    exact cell_later hb hv
  have hblk : ((w.alloc (.cells #[.int .i64 k, .slice a m d, .int .i64 k', .slice a' m' d', .pointer p] 41)).alloc (.cells #[.int .i64 k, .slice a m d, .int .i64 k', .slice a' m' d', .pointer p] 41)).drew.heap[w.heap.size + 1]? = some (.cells #[.int .i64 k, .slice a m d, .int .i64 k', .slice a' m' d', .pointer p] 41) := by
    have h := heap_alloc_new (w.alloc (.cells #[.int .i64 k, .slice a m d, .int .i64 k', .slice a' m' d', .pointer p] 41)) (.cells #[.int .i64 k, .slice a m d, .int .i64 k', .slice a' m' d', .pointer p] 41)
    rw [World.size_alloc] at h
    exact h
  go_enter Try.func34, Try.ntmps34
  go_wp2_with fail
  go_region_law
    ((refine step_append_lies _ (by rfl) _ _ _ (by rfl) (r + 1) 41 i0 _ 5 72 Try.underlying35 hi0 hz0 hz1 hz2 rfl (by omega) v n xs (by rfl) (((hown.alloc _).alloc _).drew)
        ⟨w.heap.size + 1, 0, none⟩ 1 1 [.int .i64 k, .slice a m d, .int .i64 k', .slice a' m' d', .pointer p] (by rfl) (by rfl) (World.news_of_block (cs := #[.int .i64 k, .slice a m d, .int .i64 k', .slice a' m' d', .pointer p]) (t := 41) (fr := (0, 0)) hblk) (by simp [Value.oneCell'])
        (by omega) (by unfold maxLen; omega) (by omega) (by simp; omega) (w.heap.size + 2) (by simp) ?_; intro gg cap w1 hown1 hgrow hat hlt; have hfr : w1.frozen? ⟨r, 0, none⟩ = false := (by rw [hgrow.frozen_far _ (by simp; omega) (Ne.symm hnr)]; exact hfz2); have hcr : w1.cell? ⟨r, 0, none⟩ = some v := (by rw [hgrow.cell_far _ (by simp; omega) (Ne.symm hnr)]; exact hvz2)))
  all_goals
    go_end0
    exact ⟨rfl, put_end hgrow hown1 hat hcr hfr⟩
end Go.Proofs.Ytnddkmccagiclaa

/-
  What the call of kind.same answers at two trees that lie in memory, where there is room for all levels of the first.
-/
namespace Go.Proofs.Ytnddkmccagiclaa
open Go.RowKit

theorem wrap_small (n : Nat) (hn : n ≤ 1000) : IntKind.i64.wrap (n : Int) = (n : Int) := by
  rw [IntKind.wrap_i64]; omega

set_option maxHeartbeats 1000000 in
theorem same_step (n : Nat) (hn : n ≤ 1000) (x y : Tr) (rp : Option Addr) (w : World) (hx : x.In w) (hy : y.In w) (hh : x.hgt ≤ n + 1) (hs : x.sm)
    (ih : Hid (∀ (x y : Tr) (w : World), x.In w → y.In w → x.hgt ≤ n → x.sm → Calls Try.prog 31 #[.agg #[.int .i64 x.k, .slice x.a x.l.length x.c], .agg #[.int .i64 y.k, .slice y.a y.l.length y.c], .int .i64 (n : Int), .pointer rp] w fun e w' => e = .returned (.bool (relY escSame x.ty y.ty)) ∧ Below w.heap.size w w')) :
    Calls Try.prog 31 #[.agg #[.int .i64 x.k, .slice x.a x.l.length x.c], .agg #[.int .i64 y.k, .slice y.a y.l.length y.c], .int .i64 ((n : Int) + 1), .pointer rp] w fun e w' => e = .returned (.bool (relY escSame x.ty y.ty)) ∧ Below w.heap.size w w' := by
  have hz : (((n : Int) + 1) == 0) = false := by simp; omega
  have hlen := hs.len
  by_cases ht0 : (x.k == y.k && (x.l.length : Int) == (y.l.length : Int)) = false
  · have ht : Hid ((x.k == y.k && (x.l.length : Int) == (y.l.length : Int)) = false) := ht0
    clear ht0
    go_enter Try.func31, Try.ntmps31
    go_wp2_with fail
    refine (alike_any _ _ _ _ _ _ _ _ false ht.out _).mono ?_
    rintro e w1 ⟨rfl, hb1⟩
    go_wp2_with fail
    go_ret
    refine ⟨?_, (((Below.refl _ _).alloc (Nat.le_refl _) _).alloc (by simp) _).trans (hb1.mono (by simp; omega))⟩
    rw [relY_top escSame x y rfl ht.out]
    rfl
  · have ht' : Hid ((x.k == y.k && (x.l.length : Int) == (y.l.length : Int)) = true) := by simpa [Hid] using ht0
    clear ht0
    have hk : Hid (x.k = y.k) := by have h := ht'.out; simp at h; exact h.1
    have hl : Hid (x.l.length = y.l.length) := by have h := ht'.out; simp at h; exact Int.ofNat.inj h.2
    go_enter Try.func31, Try.ntmps31
    go_wp2_with fail
    refine (alike_any _ _ _ _ _ _ _ _ true ht'.out _).mono ?_
    rintro e w1 ⟨rfl, hb1⟩
    have hbw : Below w.heap.size w w1 := (((Below.refl _ _).alloc (Nat.le_refl _) _).alloc (by simp) _).trans (hb1.mono (by simp; omega))
    have p1 : w1.cell? ⟨w.heap.size, 1, none⟩ = some (.slice x.a x.l.length x.c) := cell_later hb1 (by simp [go_sem])
    have p3 : w1.cell? ⟨w.heap.size + 1, 1, none⟩ = some (.slice y.a y.l.length y.c) := cell_later hb1 (by simp [go_sem])
    clear hb1
    go_wp2_with fail
    go_loopw [24] (fun i wr => ∃ j : Nat, j ≤ x.l.length ∧ i = .int .i64 (j : Int) ∧ Below w1.heap.size w1 wr ∧ ∀ q (h : q < x.l.length) (h' : q < y.l.length), q < j → relY escSame x.l[q].ty y.l[q].ty = true) (fun i _ => x.l.length - (intOf i).toNat)
    case atStart => exact ⟨0, Nat.zero_le _, rfl, Below.refl _ _, fun q _ _ h => absurd h (by omega)⟩
    case round =>
      obtain ⟨j, hj, rfl, hbr, hall⟩ := hrel
      have HA : Hid (∀ q (h : q < x.l.length) (h' : q < y.l.length), q < j → relY escSame x.l[q].ty y.l[q].ty = true) := hall
      clear hall
      have hbwr : Below w.heap.size w wr := hbw.trans (hbr.mono hbw.size)
      by_cases hlt : j < x.l.length
      · have hlt' : j < y.l.length := hl.out ▸ hlt
        obtain ⟨b, o, ea, x0, x1, hxj⟩ := hx.part j hlt
        obtain ⟨b', o', eb, y0, y1, hyj⟩ := hy.part j hlt'
        have q1 : wr.cell? ⟨w.heap.size, 1, none⟩ = some (.slice (some ⟨b, o, none⟩) x.l.length x.c) := by rw [← ea]; exact cell_later hbr p1
        have q3 : wr.cell? ⟨w.heap.size + 1, 1, none⟩ = some (.slice (some ⟨b', o', none⟩) y.l.length y.c) := by rw [← eb]; exact cell_later hbr p3
        replace x0 := cell_later hbwr x0
        replace x1 := cell_later hbwr x1
        replace y0 := cell_later hbwr y0
        replace y1 := cell_later hbwr y1
        have i1 : (j : Int) < (x.l.length : Int) := by omega
        have i2 : (j : Int) < (y.l.length : Int) := by omega
        have i0 : (0 : Int) ≤ (j : Int) := by omega
        clear p1 p3 ea eb hx hy ht'
        have hwr : IntKind.i64.wrap (n : Int) = (n : Int) := wrap_small n hn
        obtain ⟨r, hr⟩ : ∃ r, relY escSame x.l[j].ty y.l[j].ty = r := ⟨_, rfl⟩
        have HC : Hid (∀ (w : World), x.l[j].In w → y.l[j].In w → Calls Try.prog 31 #[.agg #[.int .i64 x.l[j].k, .slice x.l[j].a x.l[j].l.length x.l[j].c], .agg #[.int .i64 y.l[j].k, .slice y.l[j].a y.l[j].l.length y.l[j].c], .int .i64 (n : Int), .pointer rp] w fun e w' => e = .returned (.bool r) ∧ Below w.heap.size w w') := by
          intro w h1 h2
          have := ih.out x.l[j] y.l[j] w h1 h2 (Tr.hgt_part hh j hlt) (hs.part j hlt)
          rw [hr] at this
          exact this
        have HR : Hid (relY escSame x.l[j].ty y.l[j].ty = r) := hr
        clear hr
        cases r
        · go_wp2_with fail
          go_region_held3 (fun w' => w'.cell? ⟨w.heap.size, 1, none⟩ = some (.slice (some ⟨b, o, none⟩) x.l.length x.c) ∧ w'.cell? ⟨w.heap.size + 1, 1, none⟩ = some (.slice (some ⟨b', o', none⟩) y.l.length y.c) ∧ w'.cell? ⟨b, o + j * 2, none⟩ = some (.int .i64 x.l[j].k) ∧ w'.cell? ⟨b, o + j * 2 + 1, none⟩ = some (.slice x.l[j].a x.l[j].l.length x.l[j].c) ∧ w'.cell? ⟨b', o' + j * 2, none⟩ = some (.int .i64 y.l[j].k) ∧ w'.cell? ⟨b', o' + j * 2 + 1, none⟩ = some (.slice y.l[j].a y.l[j].l.length y.l[j].c)) (first | exact ⟨cell_later hb2 q1, cell_later hb2 q3, cell_later hb2 x0, cell_later hb2 x1, cell_later hb2 y0, cell_later hb2 y1⟩ | go_keep) (first | (go_at_call 31; refine (HC.out _ (hxj.below hbwr.drew) (hyj.below hbwr.drew)).mono ?_; rintro e w2 ⟨rfl, hb2⟩))
          have hbr2 : Below w1.heap.size w1 w2 := hbr.drew.trans (hb2.mono hbr.size)
          go_wp2_with fail
          go_ret
          refine ⟨?_, hbw.trans (hbr2.mono hbw.size)⟩
          rw [relY_part_not escSame x y rfl j hlt hlt' HR.out]
          rfl
        · go_wp2_with fail
          go_region_held3 (fun w' => w'.cell? ⟨w.heap.size, 1, none⟩ = some (.slice (some ⟨b, o, none⟩) x.l.length x.c) ∧ w'.cell? ⟨w.heap.size + 1, 1, none⟩ = some (.slice (some ⟨b', o', none⟩) y.l.length y.c) ∧ w'.cell? ⟨b, o + j * 2, none⟩ = some (.int .i64 x.l[j].k) ∧ w'.cell? ⟨b, o + j * 2 + 1, none⟩ = some (.slice x.l[j].a x.l[j].l.length x.l[j].c) ∧ w'.cell? ⟨b', o' + j * 2, none⟩ = some (.int .i64 y.l[j].k) ∧ w'.cell? ⟨b', o' + j * 2 + 1, none⟩ = some (.slice y.l[j].a y.l[j].l.length y.l[j].c)) (first | exact ⟨cell_later hb2 q1, cell_later hb2 q3, cell_later hb2 x0, cell_later hb2 x1, cell_later hb2 y0, cell_later hb2 y1⟩ | go_keep) (first | (go_at_call 31; refine (HC.out _ (hxj.below hbwr.drew) (hyj.below hbwr.drew)).mono ?_; rintro e w2 ⟨rfl, hb2⟩))
          have hbr2 : Below w1.heap.size w1 w2 := hbr.drew.trans (hb2.mono hbr.size)
          go_wp2_with fail
          go_roundw
          case rel =>
            refine ⟨j + 1, by omega, by go_num, hbr2, fun q h h' hq => ?_⟩
            by_cases e : q = j
            · subst e; exact HR.out
            · exact HA.out q h h' (by omega)
          case measure => simp [intOf]; omega
      · go_wp2_with fail
        go_ret
        refine ⟨?_, hbwr⟩
        rw [relY_parts escSame x y hk.out hl.out fun q h h' => HA.out q h h' (by omega)]
        rfl

theorem same_any (n : Nat) : n ≤ 1000 → ∀ (x y : Tr) (rp : Option Addr) (w : World), x.In w → y.In w → x.hgt ≤ n → x.sm → Calls Try.prog 31 #[.agg #[.int .i64 x.k, .slice x.a x.l.length x.c], .agg #[.int .i64 y.k, .slice y.a y.l.length y.c], .int .i64 (n : Int), .pointer rp] w fun e w' => e = .returned (.bool (relY escSame x.ty y.ty)) ∧ Below w.heap.size w w' := by
  induction n with
  | zero =>
    intro _ x y rp w _ _ h
    have := x.hgt_pos
    omega
  | succ n ih =>
    intro hn x y rp w hx hy h hs
    have e : ((n + 1 : Nat) : Int) = (n : Int) + 1 := by omega
    rw [e]
    exact same_step n (by omega) x y rp w hx hy h hs (fun x y w hx hy h hs => ih (by omega) x y rp w hx hy h hs)
end Go.Proofs.Ytnddkmccagiclaa

/-
  What the calls of kind.holds (of kind.same) and kind.Same answer at two trees of which the first has at most a thousand levels.
-/
namespace Go.Proofs.Ytnddkmccagiclaa
open Go.RowKit

/-- The list that is put off: the one pair, or none. -/
def Off (R : Nat) (x y : Tr) (r : Bool) (k : Nat) (wr : World) : Prop :=
  wr.frozen? ⟨R, 0, none⟩ = false ∧
  ((k = 1 ∧ ∃ g cap, wr.cell? ⟨R, 0, none⟩ = some (.slice (some ⟨g, 0, none⟩) 1 cap) ∧ wr.ownsRow (R + 1) 41 5 (.slice (some ⟨g, 0, none⟩) 1 cap) 1 [.int .i64 x.k, .slice x.a x.l.length x.c, .int .i64 y.k, .slice y.a y.l.length y.c, .pointer none])
    ∨ (k = 0 ∧ r = true ∧ ∃ a cap, wr.cell? ⟨R, 0, none⟩ = some (.slice a 0 cap)))

set_option maxHeartbeats 1000000 in
theorem holds_31 (x y : Tr) (r : Bool) (w : World) (hx : x.In w) (hy : y.In w)
    (HC : Hid (∀ (rp : Option Addr) (w : World), x.In w → y.In w → Calls Try.prog 31 #[.agg #[.int .i64 x.k, .slice x.a x.l.length x.c], .agg #[.int .i64 y.k, .slice y.a y.l.length y.c], .int .i64 1000, .pointer rp] w fun e w' => e = .returned (.bool r) ∧ Below w.heap.size w w')) :
    Calls Try.prog 30 #[.func (.func 31) #[] #[], .agg #[.int .i64 x.k, .slice x.a x.l.length x.c], .agg #[.int .i64 y.k, .slice y.a y.l.length y.c]] w fun e w' => e = .returned (.bool r) ∧ Below w.heap.size w w' := by
  go_enter Try.func30, Try.ntmps30
  go_wp2_with fail
  refine (put_any (w.heap.size + 1 + 1) (.slice none 0 0) 0 [] x.k y.k x.a y.a x.l.length y.l.length x.c y.c none _ (by simp [go_sem]) (by simp [go_sem]) (World.ownsRow_nil _ _ _ _) (by omega)).mono ?_
  rintro e w1 ⟨rfl, g, cap, hc1, hf1, ho1, _, hk1⟩
  have hbw : Below w.heap.size w w1 := ((((Below.refl _ _).alloc (Nat.le_refl _) _).alloc (by simp) _).alloc (by simp; omega) _).trans ((hk1.below (by simp [Value.ownBlock]) (by simp)).mono (by omega))
  have hsz : w.heap.size + 1 + 1 < w1.heap.size := World.block_lt_of_cell? _ _ hc1
  have HO : Hid (Off (w.heap.size + 1 + 1) x y r 1 w1) := ⟨hf1, .inl ⟨rfl, g, cap, by simpa using hc1, by simpa using ho1⟩⟩
  clear hc1 hf1 ho1 hk1
  go_wp2_with fail
  go_loopg [] 1 (fun k wr => Hid (Off (w.heap.size + 1 + 1) x y r k wr) ∧ Below w.heap.size w wr)
  case atStart => exact ⟨HO, hbw⟩
  case round =>
    obtain ⟨HR, hbr⟩ := hrel
    obtain ⟨hfr, ⟨rfl, g, cap, hc, ho⟩ | ⟨rfl, rfl, a, cap, hc⟩⟩ := HR.out
    · have c0 := ho.cellAt 0 (by omega)
      have c1 := ho.cellAt 1 (by omega)
      have c2 := ho.cellAt 2 (by omega)
      have c3 := ho.cellAt 3 (by omega)
      have c4 := ho.cellAt 4 (by omega)
      simp only [List.getElem?_cons_zero, List.getElem?_cons_succ] at c0 c1 c2 c3 c4
      have hcap : 1 ≤ cap := by
        rcases ho.2 with ⟨h, _⟩ | ⟨g', cap', cur, h, _, _, h1, _⟩
        · cases h
        · cases h; exact h1
      have hgr : w.heap.size + 1 + 1 < g := by
        rcases ho.2 with ⟨h, _⟩ | ⟨g', cap', cur, h, h1, _⟩
        · cases h
        · cases h; exact h1
      have hlr : w.heap.size + 1 + 1 < wr.heap.size := World.block_lt_of_cell? _ _ hc
      clear ho HR HO
      go_wp2_with fail
      refine (empty_any (w.heap.size + 1 + 1) (some ⟨g, 0, none⟩) 1 cap _ hc).mono ?_
      rintro e w' ⟨rfl, rfl⟩
      go_wp2_with fail
      refine (take_any (w.heap.size + 1 + 1) g 0 cap x.k y.k x.a y.a x.l.length y.l.length x.c y.c none _ (by simpa using hc) hfr (by omega) (by omega) (by simpa using c0) (by simpa using c1) (by simpa using c2) (by simpa using c3) (by simpa using c4)).mono ?_
      rintro e w' ⟨rfl, rfl⟩
      go_wp2_with fail
      have hb3 : Below w.heap.size w (((w'.setCell ⟨w.heap.size + 1 + 1, 0, none⟩ (.slice (some ⟨g, 0, none⟩) 0 cap)).alloc (.cells #[.int .i64 x.k, .slice x.a x.l.length x.c, .int .i64 y.k, .slice y.a y.l.length y.c, .pointer none] 41)).alloc (.cells #[.int .i64 x.k, .slice x.a x.l.length x.c, .int .i64 y.k, .slice y.a y.l.length y.c, .pointer none] 41)) :=
        ((hbr.setCell (by simp; omega) _).alloc (by simp [World.setCell]; omega) _).alloc (by simp [World.setCell]; omega) _
      have hb4 := hb3.alloc (by simp [World.setCell]; omega) (.cells #[.int .i64 x.k, .slice x.a x.l.length x.c, .int .i64 y.k, .slice y.a y.l.length y.c, .pointer none] 41)
      refine (HC.out _ _ (hx.below hb4) (hy.below hb4)).mono ?_
      rintro e w5 ⟨rfl, hb5⟩
      have hb6 : Below w.heap.size w w5 := hb4.trans (hb5.mono (by simp [World.setCell]; omega))
      have hcR : w5.cell? ⟨w.heap.size + 1 + 1, 0, none⟩ = some (.slice (some ⟨g, 0, none⟩) 0 cap) := by
        refine cell_later hb5 (cell_later ((((Below.refl _ (w'.setCell ⟨w.heap.size + 1 + 1, 0, none⟩ (.slice (some ⟨g, 0, none⟩) 0 cap))).alloc (Nat.le_refl _) _).alloc (by simp) _).alloc (by simp; omega) _) ?_)
        exact World.cell?_setCell_same _ _ _ hc
      have hfR : w5.frozen? ⟨w.heap.size + 1 + 1, 0, none⟩ = false := by
        rw [hb5.frozen (p := ⟨w.heap.size + 1 + 1, 0, none⟩) (by simp [World.setCell]; omega)]
        simp [frozen?_alloc_cells, hfr]
      clear hb5 hb4 hb3 hc hfr c0 c1 c2 c3 c4
      cases r
      · go_wp2_with fail
        go_ret
        exact ⟨rfl, hb6⟩
      · go_wp2_with fail
        go_roundg 0
        case measure => omega
        case rel => exact ⟨⟨hfR, .inr ⟨rfl, rfl, _, _, hcR⟩⟩, hb6⟩
    · go_wp2_with fail
      refine (empty_any (w.heap.size + 1 + 1) a 0 cap _ hc).mono ?_
      rintro e w' ⟨rfl, rfl⟩
      go_wp2_with fail
      go_ret
      exact ⟨rfl, hbr⟩
set_option maxHeartbeats 400000 in
/-- kind.Same. -/
theorem same_whole (x y : Tr) (w : World) (hx : x.In w) (hy : y.In w) (hh : x.hgt ≤ 1000) (hs : x.sm) :
    Calls Try.prog 10 #[.agg #[.int .i64 x.k, .slice x.a x.l.length x.c], .agg #[.int .i64 y.k, .slice y.a y.l.length y.c]] w fun e w' => e = .returned (.bool (relY escSame x.ty y.ty)) ∧ Below w.heap.size w w' := by
  obtain ⟨r, hr⟩ : ∃ r, relY escSame x.ty y.ty = r := ⟨_, rfl⟩
  have HC : Hid (∀ (rp : Option Addr) (w : World), x.In w → y.In w → Calls Try.prog 31 #[.agg #[.int .i64 x.k, .slice x.a x.l.length x.c], .agg #[.int .i64 y.k, .slice y.a y.l.length y.c], .int .i64 1000, .pointer rp] w fun e w' => e = .returned (.bool r) ∧ Below w.heap.size w w') := by
    intro rp w h1 h2
    have h := same_any 1000 (Nat.le_refl _) x y rp w h1 h2 hh hs
    rw [hr] at h
    exact h
  rw [hr]
  clear hr
  have HH : Hid (∀ (w : World), x.In w → y.In w → Calls Try.prog 30 #[.func (.func 31) #[] #[], .agg #[.int .i64 x.k, .slice x.a x.l.length x.c], .agg #[.int .i64 y.k, .slice y.a y.l.length y.c]] w fun e w' => e = .returned (.bool r) ∧ Below w.heap.size w w') := fun w h1 h2 => holds_31 x y r w h1 h2 HC
  clear HC
  go_enter Try.func10, Try.ntmps10
  go_wp2_with fail
  have hb0 : Below w.heap.size w ((w.alloc (Obj.cells #[.int .i64 x.k, .slice x.a x.l.length x.c] 24)).alloc (Obj.cells #[.int .i64 y.k, .slice y.a y.l.length y.c] 24)) := ((Below.refl _ _).alloc (Nat.le_refl _) _).alloc (by simp) _
  refine (HH.out _ (hx.below hb0) (hy.below hb0)).mono ?_
  rintro e w1 ⟨rfl, hb1⟩
  have hb2 := hb0.trans (hb1.mono (by simp; omega))
  clear hb0 hb1
  go_wp2_with fail
  go_ret
  exact ⟨rfl, hb2⟩

end Go.Proofs.Ytnddkmccagiclaa

/-
  What the call of kind.fits answers at two trees that lie in memory, where there is room for all levels of the first.
-/
namespace Go.Proofs.Ytnddkmccagiclaa
open Go.RowKit

set_option maxHeartbeats 400000 in
theorem fits_left (n : Nat) (hn : n ≤ 1000) (k' : Int) (a a' : Option Addr) (m m' c c' : Nat) (rp : Option Addr) (w : World) :
    Calls Try.prog 32 #[.agg #[.int .i64 0, .slice a m c], .agg #[.int .i64 k', .slice a' m' c'], .int .i64 ((n : Int) + 1), .pointer rp] w fun e w' => e = .returned (.bool true) ∧ Below w.heap.size w w' := by
  have hz : (((n : Int) + 1) == 0) = false := by simp; omega
  go_enter Try.func32, Try.ntmps32
  go_wp2_with fail
  go_ret
  exact ⟨rfl, ((Below.refl _ _).alloc (Nat.le_refl _) _).alloc (by simp) _⟩

set_option maxHeartbeats 400000 in
theorem fits_right (n : Nat) (hn : n ≤ 1000) (k : Int) (hk : (k == 0) = false) (a a' : Option Addr) (m m' c c' : Nat) (rp : Option Addr) (w : World) :
    Calls Try.prog 32 #[.agg #[.int .i64 k, .slice a m c], .agg #[.int .i64 0, .slice a' m' c'], .int .i64 ((n : Int) + 1), .pointer rp] w fun e w' => e = .returned (.bool true) ∧ Below w.heap.size w w' := by
  have hz : (((n : Int) + 1) == 0) = false := by simp; omega
  go_enter Try.func32, Try.ntmps32
  go_wp2_with fail
  go_ret
  exact ⟨rfl, ((Below.refl _ _).alloc (Nat.le_refl _) _).alloc (by simp) _⟩

set_option maxHeartbeats 1000000 in
theorem fits_step (n : Nat) (hn : n ≤ 1000) (x y : Tr) (rp : Option Addr) (w : World) (hx : x.In w) (hy : y.In w) (hh : x.hgt ≤ n + 1) (hs : x.sm) (e1 : (x.k == 0) = false) (e2 : (y.k == 0) = false)
    (ih : Hid (∀ (x y : Tr) (w : World), x.In w → y.In w → x.hgt ≤ n → x.sm → Calls Try.prog 32 #[.agg #[.int .i64 x.k, .slice x.a x.l.length x.c], .agg #[.int .i64 y.k, .slice y.a y.l.length y.c], .int .i64 (n : Int), .pointer rp] w fun e w' => e = .returned (.bool (relY escFits x.ty y.ty)) ∧ Below w.heap.size w w')) :
    Calls Try.prog 32 #[.agg #[.int .i64 x.k, .slice x.a x.l.length x.c], .agg #[.int .i64 y.k, .slice y.a y.l.length y.c], .int .i64 ((n : Int) + 1), .pointer rp] w fun e w' => e = .returned (.bool (relY escFits x.ty y.ty)) ∧ Below w.heap.size w w' := by
  have hz : (((n : Int) + 1) == 0) = false := by simp; omega
  have hlen := hs.len
  by_cases ht0 : (x.k == y.k && (x.l.length : Int) == (y.l.length : Int)) = false
  · have ht : Hid ((x.k == y.k && (x.l.length : Int) == (y.l.length : Int)) = false) := ht0
    clear ht0
    go_enter Try.func32, Try.ntmps32
    go_wp2_with fail
    refine (alike_any _ _ _ _ _ _ _ _ false ht.out _).mono ?_
    rintro e w1 ⟨rfl, hb1⟩
    go_wp2_with fail
    go_ret
    refine ⟨?_, (((Below.refl _ _).alloc (Nat.le_refl _) _).alloc (by simp) _).trans (hb1.mono (by simp; omega))⟩
    rw [relY_top escFits x y (by simp [escFits, e1, e2]) ht.out]
    rfl
  · have ht' : Hid ((x.k == y.k && (x.l.length : Int) == (y.l.length : Int)) = true) := by simpa [Hid] using ht0
    clear ht0
    have hk : Hid (x.k = y.k) := by have h := ht'.out; simp at h; exact h.1
    have hl : Hid (x.l.length = y.l.length) := by have h := ht'.out; simp at h; exact Int.ofNat.inj h.2
    go_enter Try.func32, Try.ntmps32
    go_wp2_with fail
    refine (alike_any _ _ _ _ _ _ _ _ true ht'.out _).mono ?_
    rintro e w1 ⟨rfl, hb1⟩
    have hbw : Below w.heap.size w w1 := (((Below.refl _ _).alloc (Nat.le_refl _) _).alloc (by simp) _).trans (hb1.mono (by simp; omega))
    have p1 : w1.cell? ⟨w.heap.size, 1, none⟩ = some (.slice x.a x.l.length x.c) := cell_later hb1 (by simp [go_sem])
    have p3 : w1.cell? ⟨w.heap.size + 1, 1, none⟩ = some (.slice y.a y.l.length y.c) := cell_later hb1 (by simp [go_sem])
    clear hb1
    go_wp2_with fail
    go_loopw [32] (fun i wr => ∃ j : Nat, j ≤ x.l.length ∧ i = .int .i64 (j : Int) ∧ Below w1.heap.size w1 wr ∧ ∀ q (h : q < x.l.length) (h' : q < y.l.length), q < j → relY escFits x.l[q].ty y.l[q].ty = true) (fun i _ => x.l.length - (intOf i).toNat)
    case atStart => exact ⟨0, Nat.zero_le _, rfl, Below.refl _ _, fun q _ _ h => absurd h (by omega)⟩
    case round =>
      obtain ⟨j, hj, rfl, hbr, hall⟩ := hrel
      have HA : Hid (∀ q (h : q < x.l.length) (h' : q < y.l.length), q < j → relY escFits x.l[q].ty y.l[q].ty = true) := hall
      clear hall
      have hbwr : Below w.heap.size w wr := hbw.trans (hbr.mono hbw.size)
      by_cases hlt : j < x.l.length
      · have hlt' : j < y.l.length := hl.out ▸ hlt
        obtain ⟨b, o, ea, x0, x1, hxj⟩ := hx.part j hlt
        obtain ⟨b', o', eb, y0, y1, hyj⟩ := hy.part j hlt'
        have q1 : wr.cell? ⟨w.heap.size, 1, none⟩ = some (.slice (some ⟨b, o, none⟩) x.l.length x.c) := by rw [← ea]; exact cell_later hbr p1
        have q3 : wr.cell? ⟨w.heap.size + 1, 1, none⟩ = some (.slice (some ⟨b', o', none⟩) y.l.length y.c) := by rw [← eb]; exact cell_later hbr p3
        replace x0 := cell_later hbwr x0
        replace x1 := cell_later hbwr x1
        replace y0 := cell_later hbwr y0
        replace y1 := cell_later hbwr y1
        have i1 : (j : Int) < (x.l.length : Int) := by omega
        have i2 : (j : Int) < (y.l.length : Int) := by omega
        have i0 : (0 : Int) ≤ (j : Int) := by omega
        clear p1 p3 ea eb hx hy ht'
        have hwr : IntKind.i64.wrap (n : Int) = (n : Int) := wrap_small n hn
        obtain ⟨r, hr⟩ : ∃ r, relY escFits x.l[j].ty y.l[j].ty = r := ⟨_, rfl⟩
        have HC : Hid (∀ (w : World), x.l[j].In w → y.l[j].In w → Calls Try.prog 32 #[.agg #[.int .i64 x.l[j].k, .slice x.l[j].a x.l[j].l.length x.l[j].c], .agg #[.int .i64 y.l[j].k, .slice y.l[j].a y.l[j].l.length y.l[j].c], .int .i64 (n : Int), .pointer rp] w fun e w' => e = .returned (.bool r) ∧ Below w.heap.size w w') := by
          intro w h1 h2
          have := ih.out x.l[j] y.l[j] w h1 h2 (Tr.hgt_part hh j hlt) (hs.part j hlt)
          rw [hr] at this
          exact this
        have HR : Hid (relY escFits x.l[j].ty y.l[j].ty = r) := hr
        clear hr
        cases r
        · go_wp2_with fail
          go_region_held3 (fun w' => w'.cell? ⟨w.heap.size, 1, none⟩ = some (.slice (some ⟨b, o, none⟩) x.l.length x.c) ∧ w'.cell? ⟨w.heap.size + 1, 1, none⟩ = some (.slice (some ⟨b', o', none⟩) y.l.length y.c) ∧ w'.cell? ⟨b, o + j * 2, none⟩ = some (.int .i64 x.l[j].k) ∧ w'.cell? ⟨b, o + j * 2 + 1, none⟩ = some (.slice x.l[j].a x.l[j].l.length x.l[j].c) ∧ w'.cell? ⟨b', o' + j * 2, none⟩ = some (.int .i64 y.l[j].k) ∧ w'.cell? ⟨b', o' + j * 2 + 1, none⟩ = some (.slice y.l[j].a y.l[j].l.length y.l[j].c)) (first | exact ⟨cell_later hb2 q1, cell_later hb2 q3, cell_later hb2 x0, cell_later hb2 x1, cell_later hb2 y0, cell_later hb2 y1⟩ | go_keep) (first | (go_at_call 32; refine (HC.out _ (hxj.below hbwr.drew) (hyj.below hbwr.drew)).mono ?_; rintro e w2 ⟨rfl, hb2⟩))
          have hbr2 : Below w1.heap.size w1 w2 := hbr.drew.trans (hb2.mono hbr.size)
          go_wp2_with fail
          go_ret
          refine ⟨?_, hbw.trans (hbr2.mono hbw.size)⟩
          rw [relY_part_not escFits x y (by simp [escFits, e1, e2]) j hlt hlt' HR.out]
          rfl
        · go_wp2_with fail
          go_region_held3 (fun w' => w'.cell? ⟨w.heap.size, 1, none⟩ = some (.slice (some ⟨b, o, none⟩) x.l.length x.c) ∧ w'.cell? ⟨w.heap.size + 1, 1, none⟩ = some (.slice (some ⟨b', o', none⟩) y.l.length y.c) ∧ w'.cell? ⟨b, o + j * 2, none⟩ = some (.int .i64 x.l[j].k) ∧ w'.cell? ⟨b, o + j * 2 + 1, none⟩ = some (.slice x.l[j].a x.l[j].l.length x.l[j].c) ∧ w'.cell? ⟨b', o' + j * 2, none⟩ = some (.int .i64 y.l[j].k) ∧ w'.cell? ⟨b', o' + j * 2 + 1, none⟩ = some (.slice y.l[j].a y.l[j].l.length y.l[j].c)) (first | exact ⟨cell_later hb2 q1, cell_later hb2 q3, cell_later hb2 x0, cell_later hb2 x1, cell_later hb2 y0, cell_later hb2 y1⟩ | go_keep) (first | (go_at_call 32; refine (HC.out _ (hxj.below hbwr.drew) (hyj.below hbwr.drew)).mono ?_; rintro e w2 ⟨rfl, hb2⟩))
          have hbr2 : Below w1.heap.size w1 w2 := hbr.drew.trans (hb2.mono hbr.size)
          go_wp2_with fail
          go_roundw
          case rel =>
            refine ⟨j + 1, by omega, by go_num, hbr2, fun q h h' hq => ?_⟩
            by_cases e : q = j
            · subst e; exact HR.out
            · exact HA.out q h h' (by omega)
          case measure => simp [intOf]; omega
      · go_wp2_with fail
        go_ret
        refine ⟨?_, hbwr⟩
        rw [relY_parts escFits x y hk.out hl.out fun q h h' => HA.out q h h' (by omega)]
        rfl

theorem fits_any (n : Nat) : n ≤ 1000 → ∀ (x y : Tr) (rp : Option Addr) (w : World), x.In w → y.In w → x.hgt ≤ n → x.sm → Calls Try.prog 32 #[.agg #[.int .i64 x.k, .slice x.a x.l.length x.c], .agg #[.int .i64 y.k, .slice y.a y.l.length y.c], .int .i64 (n : Int), .pointer rp] w fun e w' => e = .returned (.bool (relY escFits x.ty y.ty)) ∧ Below w.heap.size w w' := by
  induction n with
  | zero =>
    intro _ x y rp w _ _ h
    have := x.hgt_pos
    omega
  | succ n ih =>
    intro hn x y rp w hx hy h hs
    have e : ((n + 1 : Nat) : Int) = (n : Int) + 1 := by omega
    rw [e]
    by_cases k1 : x.k = 0
    · rw [k1, relY_esc escFits x y (by simp [escFits, k1])]
      exact fits_left n (by omega) y.k x.a y.a _ _ _ _ rp w
    by_cases k2 : y.k = 0
    · rw [k2, relY_esc escFits x y (by simp [escFits, k2])]
      exact fits_right n (by omega) x.k (by simpa using k1) x.a y.a _ _ _ _ rp w
    exact fits_step n (by omega) x y rp w hx hy h hs (by simpa using k1) (by simpa using k2) (fun x y w hx hy h hs => ih (by omega) x y rp w hx hy h hs)
end Go.Proofs.Ytnddkmccagiclaa

/-
  What the calls of kind.holds (of kind.fits) and kind.Fits answer at two trees of which the first has at most a thousand levels.
-/
namespace Go.Proofs.Ytnddkmccagiclaa
open Go.RowKit

set_option maxHeartbeats 1000000 in
theorem holds_32 (x y : Tr) (r : Bool) (w : World) (hx : x.In w) (hy : y.In w)
    (HC : Hid (∀ (rp : Option Addr) (w : World), x.In w → y.In w → Calls Try.prog 32 #[.agg #[.int .i64 x.k, .slice x.a x.l.length x.c], .agg #[.int .i64 y.k, .slice y.a y.l.length y.c], .int .i64 1000, .pointer rp] w fun e w' => e = .returned (.bool r) ∧ Below w.heap.size w w')) :
    Calls Try.prog 30 #[.func (.func 32) #[] #[], .agg #[.int .i64 x.k, .slice x.a x.l.length x.c], .agg #[.int .i64 y.k, .slice y.a y.l.length y.c]] w fun e w' => e = .returned (.bool r) ∧ Below w.heap.size w w' := by
  go_enter Try.func30, Try.ntmps30
  go_wp2_with fail
  refine (put_any (w.heap.size + 1 + 1) (.slice none 0 0) 0 [] x.k y.k x.a y.a x.l.length y.l.length x.c y.c none _ (by simp [go_sem]) (by simp [go_sem]) (World.ownsRow_nil _ _ _ _) (by omega)).mono ?_
  rintro e w1 ⟨rfl, g, cap, hc1, hf1, ho1, _, hk1⟩
  have hbw : Below w.heap.size w w1 := ((((Below.refl _ _).alloc (Nat.le_refl _) _).alloc (by simp) _).alloc (by simp; omega) _).trans ((hk1.below (by simp [Value.ownBlock]) (by simp)).mono (by omega))
  have hsz : w.heap.size + 1 + 1 < w1.heap.size := World.block_lt_of_cell? _ _ hc1
  have HO : Hid (Off (w.heap.size + 1 + 1) x y r 1 w1) := ⟨hf1, .inl ⟨rfl, g, cap, by simpa using hc1, by simpa using ho1⟩⟩
  clear hc1 hf1 ho1 hk1
  go_wp2_with fail
  go_loopg [] 1 (fun k wr => Hid (Off (w.heap.size + 1 + 1) x y r k wr) ∧ Below w.heap.size w wr)
  case atStart => exact ⟨HO, hbw⟩
  case round =>
    obtain ⟨HR, hbr⟩ := hrel
    obtain ⟨hfr, ⟨rfl, g, cap, hc, ho⟩ | ⟨rfl, rfl, a, cap, hc⟩⟩ := HR.out
    · have c0 := ho.cellAt 0 (by omega)
      have c1 := ho.cellAt 1 (by omega)
      have c2 := ho.cellAt 2 (by omega)
      have c3 := ho.cellAt 3 (by omega)
      have c4 := ho.cellAt 4 (by omega)
      simp only [List.getElem?_cons_zero, List.getElem?_cons_succ] at c0 c1 c2 c3 c4
      have hcap : 1 ≤ cap := by
        rcases ho.2 with ⟨h, _⟩ | ⟨g', cap', cur, h, _, _, h1, _⟩
        · cases h
        · cases h; exact h1
      have hgr : w.heap.size + 1 + 1 < g := by
        rcases ho.2 with ⟨h, _⟩ | ⟨g', cap', cur, h, h1, _⟩
        · cases h
        · cases h; exact h1
      have hlr : w.heap.size + 1 + 1 < wr.heap.size := World.block_lt_of_cell? _ _ hc
      clear ho HR HO
      go_wp2_with fail
      refine (empty_any (w.heap.size + 1 + 1) (some ⟨g, 0, none⟩) 1 cap _ hc).mono ?_
      rintro e w' ⟨rfl, rfl⟩
      go_wp2_with fail
      refine (take_any (w.heap.size + 1 + 1) g 0 cap x.k y.k x.a y.a x.l.length y.l.length x.c y.c none _ (by simpa using hc) hfr (by omega) (by omega) (by simpa using c0) (by simpa using c1) (by simpa using c2) (by simpa using c3) (by simpa using c4)).mono ?_
      rintro e w' ⟨rfl, rfl⟩
      go_wp2_with fail
      have hb3 : Below w.heap.size w (((w'.setCell ⟨w.heap.size + 1 + 1, 0, none⟩ (.slice (some ⟨g, 0, none⟩) 0 cap)).alloc (.cells #[.int .i64 x.k, .slice x.a x.l.length x.c, .int .i64 y.k, .slice y.a y.l.length y.c, .pointer none] 41)).alloc (.cells #[.int .i64 x.k, .slice x.a x.l.length x.c, .int .i64 y.k, .slice y.a y.l.length y.c, .pointer none] 41)) :=
        ((hbr.setCell (by simp; omega) _).alloc (by simp [World.setCell]; omega) _).alloc (by simp [World.setCell]; omega) _
      have hb4 := hb3.alloc (by simp [World.setCell]; omega) (.cells #[.int .i64 x.k, .slice x.a x.l.length x.c, .int .i64 y.k, .slice y.a y.l.length y.c, .pointer none] 41)
      refine (HC.out _ _ (hx.below hb4) (hy.below hb4)).mono ?_
      rintro e w5 ⟨rfl, hb5⟩
      have hb6 : Below w.heap.size w w5 := hb4.trans (hb5.mono (by simp [World.setCell]; omega))
      have hcR : w5.cell? ⟨w.heap.size + 1 + 1, 0, none⟩ = some (.slice (some ⟨g, 0, none⟩) 0 cap) := by
        refine cell_later hb5 (cell_later ((((Below.refl _ (w'.setCell ⟨w.heap.size + 1 + 1, 0, none⟩ (.slice (some ⟨g, 0, none⟩) 0 cap))).alloc (Nat.le_refl _) _).alloc (by simp) _).alloc (by simp; omega) _) ?_)
        exact World.cell?_setCell_same _ _ _ hc
      have hfR : w5.frozen? ⟨w.heap.size + 1 + 1, 0, none⟩ = false := by
        rw [hb5.frozen (p := ⟨w.heap.size + 1 + 1, 0, none⟩) (by simp [World.setCell]; omega)]
        simp [frozen?_alloc_cells, hfr]
      clear hb5 hb4 hb3 hc hfr c0 c1 c2 c3 c4
      cases r
      · go_wp2_with fail
        go_ret
        exact ⟨rfl, hb6⟩
      · go_wp2_with fail
        go_roundg 0
        case measure => omega
        case rel => exact ⟨⟨hfR, .inr ⟨rfl, rfl, _, _, hcR⟩⟩, hb6⟩
    · go_wp2_with fail
      refine (empty_any (w.heap.size + 1 + 1) a 0 cap _ hc).mono ?_
      rintro e w' ⟨rfl, rfl⟩
      go_wp2_with fail
      go_ret
      exact ⟨rfl, hbr⟩
set_option maxHeartbeats 400000 in
/-- kind.Fits. -/
theorem fits_whole (x y : Tr) (w : World) (hx : x.In w) (hy : y.In w) (hh : x.hgt ≤ 1000) (hs : x.sm) :
    Calls Try.prog 17 #[.agg #[.int .i64 x.k, .slice x.a x.l.length x.c], .agg #[.int .i64 y.k, .slice y.a y.l.length y.c]] w fun e w' => e = .returned (.bool (relY escFits x.ty y.ty)) ∧ Below w.heap.size w w' := by
  obtain ⟨r, hr⟩ : ∃ r, relY escFits x.ty y.ty = r := ⟨_, rfl⟩
  have HC : Hid (∀ (rp : Option Addr) (w : World), x.In w → y.In w → Calls Try.prog 32 #[.agg #[.int .i64 x.k, .slice x.a x.l.length x.c], .agg #[.int .i64 y.k, .slice y.a y.l.length y.c], .int .i64 1000, .pointer rp] w fun e w' => e = .returned (.bool r) ∧ Below w.heap.size w w') := by
    intro rp w h1 h2
    have h := fits_any 1000 (Nat.le_refl _) x y rp w h1 h2 hh hs
    rw [hr] at h
    exact h
  rw [hr]
  clear hr
  have HH : Hid (∀ (w : World), x.In w → y.In w → Calls Try.prog 30 #[.func (.func 32) #[] #[], .agg #[.int .i64 x.k, .slice x.a x.l.length x.c], .agg #[.int .i64 y.k, .slice y.a y.l.length y.c]] w fun e w' => e = .returned (.bool r) ∧ Below w.heap.size w w') := fun w h1 h2 => holds_32 x y r w h1 h2 HC
  clear HC
  go_enter Try.func17, Try.ntmps17
  go_wp2_with fail
  have hb0 : Below w.heap.size w ((w.alloc (Obj.cells #[.int .i64 x.k, .slice x.a x.l.length x.c] 24)).alloc (Obj.cells #[.int .i64 y.k, .slice y.a y.l.length y.c] 24)) := ((Below.refl _ _).alloc (Nat.le_refl _) _).alloc (by simp) _
  refine (HH.out _ (hx.below hb0) (hy.below hb0)).mono ?_
  rintro e w1 ⟨rfl, hb1⟩
  have hb2 := hb0.trans (hb1.mono (by simp; omega))
  clear hb0 hb1
  go_wp2_with fail
  go_ret
  exact ⟨rfl, hb2⟩

end Go.Proofs.Ytnddkmccagiclaa

/-
  What the call of kind.finer answers at two trees that lie in memory, where there is room for all levels of the first.
-/
namespace Go.Proofs.Ytnddkmccagiclaa
open Go.RowKit

set_option maxHeartbeats 400000 in
theorem finer_right (n : Nat) (hn : n ≤ 1000) (k : Int) (a a' : Option Addr) (m m' c c' : Nat) (rp : Option Addr) (w : World) :
    Calls Try.prog 33 #[.agg #[.int .i64 k, .slice a m c], .agg #[.int .i64 0, .slice a' m' c'], .int .i64 ((n : Int) + 1), .pointer rp] w fun e w' => e = .returned (.bool true) ∧ Below w.heap.size w w' := by
  have hz : (((n : Int) + 1) == 0) = false := by simp; omega
  go_enter Try.func33, Try.ntmps33
  go_wp2_with fail
  go_ret
  exact ⟨rfl, ((Below.refl _ _).alloc (Nat.le_refl _) _).alloc (by simp) _⟩

set_option maxHeartbeats 1000000 in
theorem finer_step (n : Nat) (hn : n ≤ 1000) (x y : Tr) (rp : Option Addr) (w : World) (hx : x.In w) (hy : y.In w) (hh : x.hgt ≤ n + 1) (hs : x.sm) (e2 : (y.k == 0) = false)
    (ih : Hid (∀ (x y : Tr) (w : World), x.In w → y.In w → x.hgt ≤ n → x.sm → Calls Try.prog 33 #[.agg #[.int .i64 x.k, .slice x.a x.l.length x.c], .agg #[.int .i64 y.k, .slice y.a y.l.length y.c], .int .i64 (n : Int), .pointer rp] w fun e w' => e = .returned (.bool (relY escFiner x.ty y.ty)) ∧ Below w.heap.size w w')) :
    Calls Try.prog 33 #[.agg #[.int .i64 x.k, .slice x.a x.l.length x.c], .agg #[.int .i64 y.k, .slice y.a y.l.length y.c], .int .i64 ((n : Int) + 1), .pointer rp] w fun e w' => e = .returned (.bool (relY escFiner x.ty y.ty)) ∧ Below w.heap.size w w' := by
  have hz : (((n : Int) + 1) == 0) = false := by simp; omega
  have hlen := hs.len
  by_cases ht0 : (x.k == y.k && (x.l.length : Int) == (y.l.length : Int)) = false
  · have ht : Hid ((x.k == y.k && (x.l.length : Int) == (y.l.length : Int)) = false) := ht0
    clear ht0
    go_enter Try.func33, Try.ntmps33
    go_wp2_with fail
    refine (alike_any _ _ _ _ _ _ _ _ false ht.out _).mono ?_
    rintro e w1 ⟨rfl, hb1⟩
    go_wp2_with fail
    go_ret
    refine ⟨?_, (((Below.refl _ _).alloc (Nat.le_refl _) _).alloc (by simp) _).trans (hb1.mono (by simp; omega))⟩
    rw [relY_top escFiner x y (by simp [escFiner, e2]) ht.out]
    rfl
  · have ht' : Hid ((x.k == y.k && (x.l.length : Int) == (y.l.length : Int)) = true) := by simpa [Hid] using ht0
    clear ht0
    have hk : Hid (x.k = y.k) := by have h := ht'.out; simp at h; exact h.1
    have hl : Hid (x.l.length = y.l.length) := by have h := ht'.out; simp at h; exact Int.ofNat.inj h.2
    go_enter Try.func33, Try.ntmps33
    go_wp2_with fail
    refine (alike_any _ _ _ _ _ _ _ _ true ht'.out _).mono ?_
    rintro e w1 ⟨rfl, hb1⟩
    have hbw : Below w.heap.size w w1 := (((Below.refl _ _).alloc (Nat.le_refl _) _).alloc (by simp) _).trans (hb1.mono (by simp; omega))
    have p1 : w1.cell? ⟨w.heap.size, 1, none⟩ = some (.slice x.a x.l.length x.c) := cell_later hb1 (by simp [go_sem])
    have p3 : w1.cell? ⟨w.heap.size + 1, 1, none⟩ = some (.slice y.a y.l.length y.c) := cell_later hb1 (by simp [go_sem])
    clear hb1
    go_wp2_with fail
    go_loopw [27] (fun i wr => ∃ j : Nat, j ≤ x.l.length ∧ i = .int .i64 (j : Int) ∧ Below w1.heap.size w1 wr ∧ ∀ q (h : q < x.l.length) (h' : q < y.l.length), q < j → relY escFiner x.l[q].ty y.l[q].ty = true) (fun i _ => x.l.length - (intOf i).toNat)
    case atStart => exact ⟨0, Nat.zero_le _, rfl, Below.refl _ _, fun q _ _ h => absurd h (by omega)⟩
    case round =>
      obtain ⟨j, hj, rfl, hbr, hall⟩ := hrel
      have HA : Hid (∀ q (h : q < x.l.length) (h' : q < y.l.length), q < j → relY escFiner x.l[q].ty y.l[q].ty = true) := hall
      clear hall
      have hbwr : Below w.heap.size w wr := hbw.trans (hbr.mono hbw.size)
      by_cases hlt : j < x.l.length
      · have hlt' : j < y.l.length := hl.out ▸ hlt
        obtain ⟨b, o, ea, x0, x1, hxj⟩ := hx.part j hlt
        obtain ⟨b', o', eb, y0, y1, hyj⟩ := hy.part j hlt'
        have q1 : wr.cell? ⟨w.heap.size, 1, none⟩ = some (.slice (some ⟨b, o, none⟩) x.l.length x.c) := by rw [← ea]; exact cell_later hbr p1
        have q3 : wr.cell? ⟨w.heap.size + 1, 1, none⟩ = some (.slice (some ⟨b', o', none⟩) y.l.length y.c) := by rw [← eb]; exact cell_later hbr p3
        replace x0 := cell_later hbwr x0
        replace x1 := cell_later hbwr x1
        replace y0 := cell_later hbwr y0
        replace y1 := cell_later hbwr y1
        have i1 : (j : Int) < (x.l.length : Int) := by omega
        have i2 : (j : Int) < (y.l.length : Int) := by omega
        have i0 : (0 : Int) ≤ (j : Int) := by omega
        clear p1 p3 ea eb hx hy ht'
        have hwr : IntKind.i64.wrap (n : Int) = (n : Int) := wrap_small n hn
        obtain ⟨r, hr⟩ : ∃ r, relY escFiner x.l[j].ty y.l[j].ty = r := ⟨_, rfl⟩
        have HC : Hid (∀ (w : World), x.l[j].In w → y.l[j].In w → Calls Try.prog 33 #[.agg #[.int .i64 x.l[j].k, .slice x.l[j].a x.l[j].l.length x.l[j].c], .agg #[.int .i64 y.l[j].k, .slice y.l[j].a y.l[j].l.length y.l[j].c], .int .i64 (n : Int), .pointer rp] w fun e w' => e = .returned (.bool r) ∧ Below w.heap.size w w') := by
          intro w h1 h2
          have := ih.out x.l[j] y.l[j] w h1 h2 (Tr.hgt_part hh j hlt) (hs.part j hlt)
          rw [hr] at this
          exact this
        have HR : Hid (relY escFiner x.l[j].ty y.l[j].ty = r) := hr
        clear hr
        cases r
        · go_wp2_with fail
          go_region_held3 (fun w' => w'.cell? ⟨w.heap.size, 1, none⟩ = some (.slice (some ⟨b, o, none⟩) x.l.length x.c) ∧ w'.cell? ⟨w.heap.size + 1, 1, none⟩ = some (.slice (some ⟨b', o', none⟩) y.l.length y.c) ∧ w'.cell? ⟨b, o + j * 2, none⟩ = some (.int .i64 x.l[j].k) ∧ w'.cell? ⟨b, o + j * 2 + 1, none⟩ = some (.slice x.l[j].a x.l[j].l.length x.l[j].c) ∧ w'.cell? ⟨b', o' + j * 2, none⟩ = some (.int .i64 y.l[j].k) ∧ w'.cell? ⟨b', o' + j * 2 + 1, none⟩ = some (.slice y.l[j].a y.l[j].l.length y.l[j].c)) (first | exact ⟨cell_later hb2 q1, cell_later hb2 q3, cell_later hb2 x0, cell_later hb2 x1, cell_later hb2 y0, cell_later hb2 y1⟩ | go_keep) (first | (go_at_call 33; refine (HC.out _ (hxj.below hbwr.drew) (hyj.below hbwr.drew)).mono ?_; rintro e w2 ⟨rfl, hb2⟩))
          have hbr2 : Below w1.heap.size w1 w2 := hbr.drew.trans (hb2.mono hbr.size)
          go_wp2_with fail
          go_ret
          refine ⟨?_, hbw.trans (hbr2.mono hbw.size)⟩
          rw [relY_part_not escFiner x y (by simp [escFiner, e2]) j hlt hlt' HR.out]
          rfl
        · go_wp2_with fail
          go_region_held3 (fun w' => w'.cell? ⟨w.heap.size, 1, none⟩ = some (.slice (some ⟨b, o, none⟩) x.l.length x.c) ∧ w'.cell? ⟨w.heap.size + 1, 1, none⟩ = some (.slice (some ⟨b', o', none⟩) y.l.length y.c) ∧ w'.cell? ⟨b, o + j * 2, none⟩ = some (.int .i64 x.l[j].k) ∧ w'.cell? ⟨b, o + j * 2 + 1, none⟩ = some (.slice x.l[j].a x.l[j].l.length x.l[j].c) ∧ w'.cell? ⟨b', o' + j * 2, none⟩ = some (.int .i64 y.l[j].k) ∧ w'.cell? ⟨b', o' + j * 2 + 1, none⟩ = some (.slice y.l[j].a y.l[j].l.length y.l[j].c)) (first | exact ⟨cell_later hb2 q1, cell_later hb2 q3, cell_later hb2 x0, cell_later hb2 x1, cell_later hb2 y0, cell_later hb2 y1⟩ | go_keep) (first | (go_at_call 33; refine (HC.out _ (hxj.below hbwr.drew) (hyj.below hbwr.drew)).mono ?_; rintro e w2 ⟨rfl, hb2⟩))
          have hbr2 : Below w1.heap.size w1 w2 := hbr.drew.trans (hb2.mono hbr.size)
          go_wp2_with fail
          go_roundw
          case rel =>
            refine ⟨j + 1, by omega, by go_num, hbr2, fun q h h' hq => ?_⟩
            by_cases e : q = j
            · subst e; exact HR.out
            · exact HA.out q h h' (by omega)
          case measure => simp [intOf]; omega
      · go_wp2_with fail
        go_ret
        refine ⟨?_, hbwr⟩
        rw [relY_parts escFiner x y hk.out hl.out fun q h h' => HA.out q h h' (by omega)]
        rfl

theorem finer_any (n : Nat) : n ≤ 1000 → ∀ (x y : Tr) (rp : Option Addr) (w : World), x.In w → y.In w → x.hgt ≤ n → x.sm → Calls Try.prog 33 #[.agg #[.int .i64 x.k, .slice x.a x.l.length x.c], .agg #[.int .i64 y.k, .slice y.a y.l.length y.c], .int .i64 (n : Int), .pointer rp] w fun e w' => e = .returned (.bool (relY escFiner x.ty y.ty)) ∧ Below w.heap.size w w' := by
  induction n with
  | zero =>
    intro _ x y rp w _ _ h
    have := x.hgt_pos
    omega
  | succ n ih =>
    intro hn x y rp w hx hy h hs
    have e : ((n + 1 : Nat) : Int) = (n : Int) + 1 := by omega
    rw [e]
    by_cases k2 : y.k = 0
    · rw [k2, relY_esc escFiner x y (by simp [escFiner, k2])]
      exact finer_right n (by omega) x.k x.a y.a _ _ _ _ rp w
    exact finer_step n (by omega) x y rp w hx hy h hs (by simpa using k2) (fun x y w hx hy h hs => ih (by omega) x y rp w hx hy h hs)
end Go.Proofs.Ytnddkmccagiclaa
