/-
  What the calls of the machine's plan, keep, take, end and stick do.
-/
import Derived.Test.YtnddkmccagiclabGreatDoorLotbabaccc85f
import Derived.Test.YtnddkmccagiclabGreatDoorRows
import Derived.Deep.RegionHeld3
import Derived.Deep.AppendLies
import Derived.Deep.RegionLaw
import Derived.WalkSmall
import Derived.Test.YtnddkmccagiclabGreatDoorLot198e6357ab
import Derived.Deep.LoopGhost
import Derived.BigQuiet
import Derived.Outline
namespace Go.Proofs.YtnddkmccagiclabGreatDoor
open Go.RowKit
theorem Tryz.info130 : (Tryz.prog.info? 130).map (fun i => (i.zero, i.size, i.bytes)) = some (some (.agg #[.int .i64 0, .pointer none, .pointer none, .pointer none]), 4, 32) := by kernel_rfl
theorem Tryz.info132 : (Tryz.prog.info? 132).map (fun i => (i.zero, i.size, i.bytes)) = some (some (.pointer none), 1, 8) := by kernel_rfl
/-- One of the machine's lists has become longer by one. -/
def StkPost (M j e sz : Nat) (v : Value) (n : Nat) (ys : List Value) (w w' : World) : Prop :=
  ∃ g cap, w'.cell? ⟨M, j, none⟩ = some (.slice (some ⟨g, 0, none⟩) (n + 1) cap) ∧ (∀ i, i ≠ j → w'.cell? ⟨M, i, none⟩ = w.cell? ⟨M, i, none⟩) ∧ (∀ o, w'.frozen? ⟨M, o, none⟩ = false) ∧ w'.ownsRow (M + 1) e sz (.slice (some ⟨g, 0, none⟩) (n + 1) cap) (n + 1) ys ∧ (v.ownBlock = some g ∨ w.heap.size ≤ g) ∧ Kept M v.ownBlock w w'
theorem stk_end {M j e sz : Nat} {v : Value} {n : Nat} {ys : List Value} {w W w1 : World} {g cap : Nat} (hb : Below w.heap.size w W) (hgrow : W.grownBy w1 v.ownBlock) (hown : w1.ownsRow (M + 1) e sz (.slice (some ⟨g, 0, none⟩) (n + 1) cap) (n + 1) ys) (hat : v.ownBlock = some g ∨ w.heap.size ≤ g) (hnr : v.ownBlock ≠ some M) (hv : w.cell? ⟨M, j, none⟩ = some v) (hfz : ∀ o, w.frozen? ⟨M, o, none⟩ = false) :
    StkPost M j e sz v n ys w (w1.setCell ⟨M, j, none⟩ (.slice (some ⟨g, 0, none⟩) (n + 1) cap)) := by
  have hM : M < w.heap.size := World.block_lt_of_cell? _ _ hv
  have hMW : M < W.heap.size := Nat.lt_of_lt_of_le hM hb.size
  have hblk : w1.heap[M]? = w.heap[M]? := (hgrow.block M hMW (fun e => hnr e.symm)).trans (hb.block M hM)
  have hcell : ∀ i, w1.cell? ⟨M, i, none⟩ = w.cell? ⟨M, i, none⟩ := fun i => World.cell?_of_block (a := ⟨M, i, none⟩) hblk
  have hfro : ∀ i, w1.frozen? ⟨M, i, none⟩ = w.frozen? ⟨M, i, none⟩ := fun i => World.frozen?_of_block (a := ⟨M, i, none⟩) hblk
  refine ⟨g, cap, World.cell?_setCell_same _ _ _ ((hcell j).trans hv), fun i hi => ?_, fun o => ?_, ownsRow_setCell_below hown (by simp) _, hat, ?_⟩
  · rw [World.cell?_setCell_other _ _ _ _ (by intro e; cases e; exact hi rfl)]; exact hcell i
  · have := (hfro o).trans (hfz o)
    simpa using this
  · refine ⟨hgrow.os.trans hb.os, hgrow.tape.trans hb.tape, hgrow.output.trans hb.output, ?_, fun k hk h1 h2 => ?_⟩
    · rw [show (w1.setCell ⟨M, j, none⟩ (.slice (some ⟨g, 0, none⟩) (n + 1) cap)).heap.size = w1.heap.size from by simp [World.setCell]]
      exact Nat.le_trans hb.size hgrow.size
    · rw [Below.heap_setCell _ _ _ _ h1, hgrow.block k (Nat.lt_of_lt_of_le hk hb.size) h2, hb.block k hk]
set_option maxRecDepth 20000 in
set_option maxHeartbeats 1000000 in
theorem keep_raw (M : Nat) (v : Value) (n : Nat) (xs : List Value) (p : Option Addr) (w : World) (hv : w.cell? ⟨M, 1, none⟩ = some v) (hfz : ∀ o, w.frozen? ⟨M, o, none⟩ = false) (hown : w.ownsRow (M + 1) 132 1 v n xs) (hnr : v.ownBlock ≠ some M) (hn : n + 1 ≤ 1000000000) :
    Calls Tryz.prog 150 #[.pointer (some ⟨M, 0, none⟩), .pointer p] w fun e w' => e = .returned (.tuple #[]) ∧ StkPost M 1 132 1 v n (xs ++ [.pointer p]) w w' := by
  have lr : M < w.heap.size := World.block_lt_of_cell? _ _ hv
  obtain ⟨i0, hi0, hz0, hz1, hz2⟩ := info_parts Tryz.info132
  have hb : Below w.heap.size w (w.alloc (.cells #[.pointer p] 132)) := (Below.refl _ _).alloc (Nat.le_refl _) _
  have hnew : (w.alloc (.cells #[.pointer p] 132)).heap[w.heap.size]? = some (.cells #[.pointer p] 132) := heap_alloc_new _ _
  have hvf := hfz 1
  go_enter Tryz.func150, Tryz.ntmps150
  go_wp2_with (at_builtin; refine wpList_append_lies _ rfl _ _ _ rfl (M + 1) 132 i0 _ 1 8 Tryz.underlying72 hi0 hz0 hz1 hz2 rfl (by omega) v n xs rfl (hown.alloc _) ⟨w.heap.size, 0, none⟩ 1 1 [.pointer p] rfl rfl (World.news_of_block (cs := #[.pointer p]) (t := 132) (fr := (0, 0)) hnew) (by simp [Value.oneCell']) (by omega) (by unfold maxLen; omega) (by omega) (by simp; omega) (w.heap.size + 1) (by simp) ?_; intro gg cap1 w3 hown1 hgrow hat hlt3; have hfr : w3.frozen? ⟨M, 1, none⟩ = false := (by rw [hgrow.frozen_far _ (by simp; omega) (Ne.symm hnr), hb.frozen (p := ⟨M, 1, none⟩) lr]; exact hvf); have hcr : w3.cell? ⟨M, 1, none⟩ = some v := (by rw [hgrow.cell_far _ (by simp; omega) (Ne.symm hnr), hb.cell (p := ⟨M, 1, none⟩) lr]; exact hv))
  go_end0
  refine ⟨rfl, stk_end hb hgrow hown1 ?_ hnr hv hfz⟩
  rcases hat with h | h
  · exact .inl h
  · exact .inr (by omega)
set_option maxRecDepth 20000 in
set_option maxHeartbeats 1000000 in
theorem plan_raw (M : Nat) (v : Value) (n : Nat) (xs : List Value) (d : Int) (pt ps pc : Option Addr) (w : World) (hv : w.cell? ⟨M, 0, none⟩ = some v) (hfz : ∀ o, w.frozen? ⟨M, o, none⟩ = false) (hown : w.ownsRow (M + 1) 130 4 v n xs) (hnr : v.ownBlock ≠ some M) (hn : n + 1 ≤ 1000000000) :
    Calls Tryz.prog 72 #[.pointer (some ⟨M, 0, none⟩), .agg #[.int .i64 d, .pointer pt, .pointer ps, .pointer pc]] w fun e w' => e = .returned (.tuple #[]) ∧ StkPost M 0 130 4 v n (xs ++ [.int .i64 d, .pointer pt, .pointer ps, .pointer pc]) w w' := by
  have lr : M < w.heap.size := World.block_lt_of_cell? _ _ hv
  obtain ⟨i0, hi0, hz0, hz1, hz2⟩ := info_parts Tryz.info130
  obtain ⟨X, hX⟩ : ∃ X, X = Obj.cells #[.int .i64 d, .pointer pt, .pointer ps, .pointer pc] 130 := ⟨_, rfl⟩
  have hb : Below w.heap.size w ((w.alloc X).alloc X).drew := (((Below.refl _ _).alloc (Nat.le_refl _) _).alloc (by simp) _).drew
  have hnew : ((w.alloc X).alloc X).drew.heap[w.heap.size + 1]? = some X := by
    have h := heap_alloc_new (w.alloc X) X
    rw [World.size_alloc] at h
    exact h
  have hvf := hfz 0
  subst hX
  go_enter Tryz.func72, Tryz.ntmps72
  go_wp2_with fail
  go_region_law
    ((refine step_append_lies _ (by rfl) _ _ _ (by rfl) (M + 1) 130 i0 _ 4 32 Tryz.underlying71 hi0 hz0 hz1 hz2 rfl (by omega) v n xs (by rfl) (((hown.alloc _).alloc _).drew)
        ⟨w.heap.size + 1, 0, none⟩ 1 1 [.int .i64 d, .pointer pt, .pointer ps, .pointer pc] (by rfl) (by rfl) (World.news_of_block (cs := #[.int .i64 d, .pointer pt, .pointer ps, .pointer pc]) (t := 130) (fr := (0, 0)) hnew) (by simp [Value.oneCell'])
        (by omega) (by unfold maxLen; omega) (by omega) (by simp; omega) (w.heap.size + 2) (by simp) ?_; intro gg cap w1 hown1 hgrow hat hlt; have hfr : w1.frozen? ⟨M, 0, none⟩ = false := (by rw [hgrow.frozen_far _ (by simp; omega) (Ne.symm hnr), hb.frozen (p := ⟨M, 0, none⟩) lr]; exact hvf); have hcr : w1.cell? ⟨M, 0, none⟩ = some v := (by rw [hgrow.cell_far _ (by simp; omega) (Ne.symm hnr), hb.cell (p := ⟨M, 0, none⟩) lr]; exact hv)))
  all_goals
    go_end0
    refine ⟨rfl, stk_end hb hgrow hown1 ?_ hnr hv hfz⟩
    rcases hat with h | h
    · exact .inl h
    · exact .inr (by omega)
set_option maxRecDepth 20000 in
set_option maxHeartbeats 1000000 in
theorem take_raw (M g : Nat) (n c : Nat) (p : Option Addr) (w : World) (hv : w.cell? ⟨M, 1, none⟩ = some (.slice (some ⟨g, 0, none⟩) (n + 1) c)) (hfz : w.frozen? ⟨M, 1, none⟩ = false) (hc : n + 1 ≤ c) (hn : n ≤ 1000000000) (h0 : w.cell? ⟨g, n, none⟩ = some (.pointer p)) :
    Calls Tryz.prog 75 #[.pointer (some ⟨M, 0, none⟩)] w fun e w' => e = .returned (.pointer p) ∧ w' = w.setCell ⟨M, 1, none⟩ (.slice (some ⟨g, 0, none⟩) n c) := by
  have lr : M < w.heap.size := World.block_lt_of_cell? _ _ hv
  have lg : g < w.heap.size := World.block_lt_of_cell? _ _ h0
  go_enter Tryz.func75, Tryz.ntmps75
  go_wp2_with fail
  go_ret
  exact ⟨rfl, rfl⟩
set_option maxRecDepth 20000 in
set_option maxHeartbeats 1000000 in
theorem end_raw (M : Nat) (k n k' n' : Int) (b b' : Bool) (w : World) (h4 : w.cell? ⟨M, 4, none⟩ = some (.int .i64 k)) (h5 : w.cell? ⟨M, 5, none⟩ = some (.int .i64 n)) (h6 : w.cell? ⟨M, 6, none⟩ = some (.bool b)) (f4 : w.frozen? ⟨M, 4, none⟩ = false) (f5 : w.frozen? ⟨M, 5, none⟩ = false) (f6 : w.frozen? ⟨M, 6, none⟩ = false) :
    Calls Tryz.prog 157 #[.pointer (some ⟨M, 0, none⟩), .agg #[.int .i64 k', .int .i64 n', .bool b']] w fun e w' => e = .returned (.tuple #[]) ∧ ∃ X, w' = (((w.setCell ⟨M, 4, none⟩ (.int .i64 k')).setCell ⟨M, 5, none⟩ (.int .i64 n')).setCell ⟨M, 6, none⟩ (.bool b')).alloc X := by
  have lr : M < w.heap.size := World.block_lt_of_cell? _ _ h4
  go_enter Tryz.func157, Tryz.ntmps157
  go_wp2_with fail
  go_end0
  exact ⟨rfl, _, rfl⟩
theorem StkPost.fr {M j e sz : Nat} {v : Value} {n : Nat} {ys : List Value} {w w' : World} (h : StkPost M j e sz v n ys w w') (hj : j = 0 ∨ j = 1) (hv : w.cell? ⟨M, j, none⟩ = some v) : Fr M w w' := by
  obtain ⟨g, cap, h1, h2, h3, h4, h5, hk⟩ := h
  have rj : ∀ k, v.ownBlock = some k → rowB w M k := fun k hk => ⟨v, hk, hj.elim (fun e => .inl (e ▸ hv)) (fun e => .inr (e ▸ hv))⟩
  refine ⟨hk.os, hk.tape, hk.output, hk.size, fun k hlt hM hr => ⟨hk.block k hlt hM fun e => hr (rj k e.symm), ?_⟩⟩
  rintro ⟨u, hu, hc⟩
  have key : ∀ i, (i = 0 ∨ i = 1) → w'.cell? ⟨M, i, none⟩ = some u → False := fun i hi hc => by
    by_cases hij : i = j
    · subst hij
      rw [h1] at hc
      cases hc
      have hg : g = k := by simpa [Value.ownBlock] using hu
      subst hg
      rcases h5 with h5 | h5
      · exact hr (rj _ h5)
      · omega
    · rw [h2 i hij] at hc
      exact hr ⟨u, hu, hi.elim (fun e => .inl (e ▸ hc)) (fun e => .inr (e ▸ hc))⟩
  rcases hc with hc | hc
  · exact key 0 (.inl rfl) hc
  · exact key 1 (.inr rfl) hc
theorem row_kept {M : Nat} {o : Option Nat} {w w' : World} (hk : Kept M o w w') {base e sz : Nat} {v : Value} {n : Nat} {xs : List Value} (h : w.ownsRow base e sz v n xs) (hM : M < base) (ho : ∀ g, v.ownBlock = some g → o = some g → False) : w'.ownsRow base e sz v n xs := by
  refine ⟨h.1, ?_⟩
  rcases h.2 with hn | ⟨g, cap, cur, rfl, hb, hgg, rest⟩
  · exact .inl hn
  · refine .inr ⟨g, cap, cur, rfl, hb, ?_, rest⟩
    rw [hk.block g (Array.getElem?_eq_some_iff.1 hgg).1 (by omega) (fun e => ho g rfl e.symm)]
    exact hgg
theorem row_not {w : World} {M e sz : Nat} {v : Value} {n : Nat} {xs : List Value} (h : w.ownsRow (M + 1) e sz v n xs) : v.ownBlock ≠ some M := fun e => by
  have := (h.lt M e).1; omega
/-- What is kept where a machine's list became longer. -/
theorem MS.rest {w0 w w' : World} {M : Nat} {G : Gh} {s : St} (h : MS w0 w M G s) {j e sz : Nat} {v : Value} {n : Nat} {ys : List Value} (hp : StkPost M j e sz v n ys w w') (hj : j = 0 ∨ j = 1) (hv : w.cell? ⟨M, j, none⟩ = some v) (hlo : ∀ g, v.ownBlock = some g → M ≤ g) :
    HG w0 w' G ∧ (∀ b, G.dom b → b ≠ M ∧ ¬ rowB w' M b) ∧ Below w0.heap.size w0 w' := by
  have hf := hp.fr hj hv
  refine ⟨h.hg.of fun b hb i => hf.cell (h.hg.lt hb) (h.far b hb).1 (h.far b hb).2 i, fun b hb => ⟨(h.far b hb).1, (hf.block b (h.hg.lt hb) (h.far b hb).1 (h.far b hb).2).2⟩, ?_⟩
  obtain ⟨g, cap, h1, h2, h3, h4, h5, hk⟩ := hp
  exact h.bel.trans ((hk.below hlo (Nat.le_of_lt h.lt)).mono h.lo)
theorem keep_any {w0 w : World} {M : Nat} {G : Gh} {s : St} (h : MS w0 w M G s) {p : Option Addr} {v : Val} (hv : G.vp p v) (hn : s.vs.length + 1 ≤ 1000000000) :
    Calls Tryz.prog 150 #[.pointer (some ⟨M, 0, none⟩), .pointer p] w fun e w' => e = .returned (.tuple #[]) ∧ MS w0 w' M G (s.push v) ∧ Fr M w w' := by
  obtain ⟨tv, mv, txs, mxs, h0, h1, o0, o1, hne, ht, hvr⟩ := h.ex
  refine (keep_raw M mv s.vs.length mxs p w h1 h.fz o1 (row_not o1) hn).mono ?_
  rintro e w' ⟨rfl, hp⟩
  refine ⟨rfl, ?_, hp.fr (.inr rfl) h1⟩
  obtain ⟨a1, a2, a3⟩ := h.rest hp (.inr rfl) h1 fun g hg => by have := (o1.lt g hg).1; omega
  obtain ⟨g, cap, p1, p2, p3, p4, p5, hk⟩ := hp
  refine ⟨⟨tv, _, txs, _, (p2 0 (by omega)).trans h0, p1, row_kept hk o0 (by omega) fun g hg hm => hne g hg hm, p4, fun k hk1 hk2 => ?_, ht, mxs, p, rfl, hvr, hv⟩, (p2 2 (by omega)).trans h.c2, (p2 3 (by omega)).trans h.c3, (p2 4 (by omega)).trans h.c4, (p2 5 (by omega)).trans h.c5, (p2 6 (by omega)).trans h.c6, p3, a1, a2, a3, h.lo⟩
  have : g = k := by simpa [Value.ownBlock] using hk2
  subst this
  rcases p5 with p5 | p5
  · exact hne g hk1 p5
  · have := (o0.lt g hk1).2; omega
theorem plan_any {w0 w : World} {M : Nat} {G : Gh} {s : St} (h : MS w0 w M G s) {t : Task} {d : Int} {pt ps pc : Option Addr} (hv : TkP w0 G t d pt ps pc) (hn : s.ts.length + 1 ≤ 1000000000) :
    Calls Tryz.prog 72 #[.pointer (some ⟨M, 0, none⟩), .agg #[.int .i64 d, .pointer pt, .pointer ps, .pointer pc]] w fun e w' => e = .returned (.tuple #[]) ∧ MS w0 w' M G (s.plan t) ∧ Fr M w w' := by
  obtain ⟨tv, mv, txs, mxs, h0, h1, o0, o1, hne, ht, hvr⟩ := h.ex
  refine (plan_raw M tv s.ts.length txs d pt ps pc w h0 h.fz o0 (row_not o0) hn).mono ?_
  rintro e w' ⟨rfl, hp⟩
  refine ⟨rfl, ?_, hp.fr (.inl rfl) h0⟩
  obtain ⟨a1, a2, a3⟩ := h.rest hp (.inl rfl) h0 fun g hg => by have := (o0.lt g hg).1; omega
  obtain ⟨g, cap, p1, p2, p3, p4, p5, hk⟩ := hp
  refine ⟨⟨_, mv, _, mxs, p1, (p2 1 (by omega)).trans h1, p4, row_kept hk o1 (by omega) fun g hg hm => hne g hm hg, fun k hk1 hk2 => ?_, ⟨txs, d, pt, ps, pc, rfl, ht, hv⟩, hvr⟩, (p2 2 (by omega)).trans h.c2, (p2 3 (by omega)).trans h.c3, (p2 4 (by omega)).trans h.c4, (p2 5 (by omega)).trans h.c5, (p2 6 (by omega)).trans h.c6, p3, a1, a2, a3, h.lo⟩
  have : g = k := by simpa [Value.ownBlock] using hk1
  subst this
  rcases p5 with p5 | p5
  · exact hne g p5 hk2
  · have := (o1.lt g hk2).2; omega
/-- A cell of the machine's is set. -/
theorem Fr.set {M j : Nat} {w : World} {v : Value} (hj : j ≠ 0 ∧ j ≠ 1) : Fr M w (w.setCell ⟨M, j, none⟩ v) := by
  refine ⟨rfl, rfl, rfl, by simp [World.setCell], fun k _ h1 h2 => ⟨Below.heap_setCell _ _ _ _ h1, fun hr => h2 (hr.congr ?_ ?_)⟩⟩
  · exact World.cell?_setCell_other _ _ _ _ (by intro e; cases e; omega)
  · exact World.cell?_setCell_other _ _ _ _ (by intro e; cases e; omega)
theorem take_any' {w0 w : World} {M : Nat} {G : Gh} {s : St} (h : MS w0 w M G s) {v : Val} {r : List Val} (hs : s.vs = v :: r) (hn : r.length ≤ 1000000000) :
    Calls Tryz.prog 75 #[.pointer (some ⟨M, 0, none⟩)] w fun e w' => ∃ p, e = .returned (.pointer p) ∧ G.vp p v ∧ MS w0 w' M G ⟨s.ts, r, s.calls, s.fuel, s.ended⟩ ∧ Fr M w w' := by
  obtain ⟨tv, mv, txs, mxs, h0, h1, o0, o1, hne, ht, hvr⟩ := h.ex
  rw [hs] at hvr o1
  obtain ⟨ys, p, rfl, hvr, hvp⟩ := hvr
  obtain ⟨g, cap, rfl, hb, hlt⟩ := o1.form (by simp)
  have hys : ys.length = r.length * 1 := by
    have := o1.1
    simp at this
    omega
  have hc0 : w.cell? ⟨g, r.length, none⟩ = some (.pointer p) := by
    have hl : r.length = ys.length := by omega
    have := o1.cellAt r.length (by simp)
    rw [hl, List.getElem?_append_right (Nat.le_refl _)] at this
    rw [hl]
    simpa using this
  have hcap : r.length + 1 ≤ cap := by
    rcases o1.2 with ⟨h, _⟩ | ⟨g', cap', cur, h, _, _, h1, _⟩
    · cases h
    · cases h; simpa using h1
  refine (take_raw M g r.length cap p w (by simpa using h1) (h.fz 1) hcap hn hc0).mono ?_
  rintro e w' ⟨rfl, rfl⟩
  have hgM : g ≠ M := by omega
  have oc : ∀ i, i ≠ 1 → (w.setCell ⟨M, 1, none⟩ (.slice (some ⟨g, 0, none⟩) r.length cap)).cell? ⟨M, i, none⟩ = w.cell? ⟨M, i, none⟩ := fun i hi => World.cell?_setCell_other _ _ _ _ (by intro e; cases e; exact hi rfl)
  have o1c : (w.setCell ⟨M, 1, none⟩ (.slice (some ⟨g, 0, none⟩) r.length cap)).cell? ⟨M, 1, none⟩ = some (.slice (some ⟨g, 0, none⟩) r.length cap) := World.cell?_setCell_same _ _ _ h1
  have rowBack : ∀ k, rowB (w.setCell ⟨M, 1, none⟩ (.slice (some ⟨g, 0, none⟩) r.length cap)) M k → rowB w M k := by
    rintro k ⟨u, hu, hc | hc⟩
    · rw [oc 0 (by omega)] at hc; exact ⟨u, hu, .inl hc⟩
    · rw [o1c] at hc
      cases hc
      exact ⟨_, (by simpa [Value.ownBlock] using hu), .inr h1⟩
  have hf : Fr M w (w.setCell ⟨M, 1, none⟩ (.slice (some ⟨g, 0, none⟩) r.length cap)) := ⟨rfl, rfl, rfl, by simp [World.setCell], fun k _ h1 h2 => ⟨Below.heap_setCell _ _ _ _ h1, fun hr => h2 (rowBack k hr)⟩⟩
  refine ⟨p, rfl, hvp, ⟨⟨tv, _, txs, ys, (oc 0 (by omega)).trans h0, o1c, ownsRow_setCell_below o0 (by simp) _, ownsRow_setCell_below (ownsRow_pop hys (by simpa using o1)) (by simp) _, fun k hk1 hk2 => hne k hk1 (by simpa [Value.ownBlock] using hk2), ht, hvr⟩, (oc 2 (by omega)).trans h.c2, (oc 3 (by omega)).trans h.c3, (oc 4 (by omega)).trans h.c4, (oc 5 (by omega)).trans h.c5, (oc 6 (by omega)).trans h.c6, fun o => by simpa using h.fz o, ?_, fun b hb => ⟨(h.far b hb).1, fun hr => (h.far b hb).2 (rowBack b hr)⟩, h.bel.trans ((Below.refl _ _).setCell h.lo _), h.lo⟩, hf⟩
  exact h.hg.of fun b hb i => hf.cell (h.hg.lt hb) (h.far b hb).1 (h.far b hb).2 i
theorem MS.set {w0 w : World} {M : Nat} {G : Gh} {s s' : St} (h : MS w0 w M G s) (w' : World) (h0 : w'.cell? ⟨M, 0, none⟩ = w.cell? ⟨M, 0, none⟩) (h1 : w'.cell? ⟨M, 1, none⟩ = w.cell? ⟨M, 1, none⟩) (hts : s'.ts = s.ts) (hvs : s'.vs = s.vs) (hk : Kept M none w w') (c2 : w'.cell? ⟨M, 2, none⟩ = some (.int .i64 s'.calls)) (c3 : w'.cell? ⟨M, 3, none⟩ = some (.int .i64 s'.fuel)) (c4 : w'.cell? ⟨M, 4, none⟩ = some (.int .i64 s'.ended.k)) (c5 : w'.cell? ⟨M, 5, none⟩ = some (.int .i64 s'.ended.n)) (c6 : w'.cell? ⟨M, 6, none⟩ = some (.bool s'.ended.b)) (hfz : ∀ o, w'.frozen? ⟨M, o, none⟩ = false) :
    MS w0 w' M G s' ∧ Fr M w w' := by
  have hf : Fr M w w' := ⟨hk.os, hk.tape, hk.output, hk.size, fun k hlt h2 h3 => ⟨hk.block k hlt h2 (by simp), fun hr => h3 (hr.congr h0 h1)⟩⟩
  obtain ⟨tv, mv, txs, mxs, e0, e1, o0, o1, hne, ht, hvr⟩ := h.ex
  refine ⟨⟨⟨tv, mv, txs, mxs, h0.trans e0, h1.trans e1, by rw [hts]; exact row_kept hk o0 (by omega) (by simp), by rw [hvs]; exact row_kept hk o1 (by omega) (by simp), hne, by rw [hts]; exact ht, by rw [hvs]; exact hvr⟩, c2, c3, c4, c5, c6, hfz, ?_, fun b hb => ⟨(h.far b hb).1, (hf.block b (h.hg.lt hb) (h.far b hb).1 (h.far b hb).2).2⟩, h.bel.trans ((hk.below (by simp) (Nat.le_of_lt h.lt)).mono h.lo), h.lo⟩, hf⟩
  exact h.hg.of fun b hb i => hf.cell (h.hg.lt hb) (h.far b hb).1 (h.far b hb).2 i
theorem end_any {w0 w : World} {M : Nat} {G : Gh} {s : St} (h : MS w0 w M G s) (o : Out) :
    Calls Tryz.prog 157 #[.pointer (some ⟨M, 0, none⟩), .agg #[.int .i64 o.k, .int .i64 o.n, .bool o.b]] w fun e w' => e = .returned (.tuple #[]) ∧ MS w0 w' M G (s.stop o) ∧ Fr M w w' := by
  refine (end_raw M _ _ o.k o.n _ o.b w h.c4 h.c5 h.c6 (h.fz 4) (h.fz 5) (h.fz 6)).mono ?_
  rintro e w' ⟨rfl, X, rfl⟩
  have hM := h.lt
  have hb : Below (((w.setCell ⟨M, 4, none⟩ (.int .i64 o.k)).setCell ⟨M, 5, none⟩ (.int .i64 o.n)).setCell ⟨M, 6, none⟩ (.bool o.b)).heap.size (((w.setCell ⟨M, 4, none⟩ (.int .i64 o.k)).setCell ⟨M, 5, none⟩ (.int .i64 o.n)).setCell ⟨M, 6, none⟩ (.bool o.b)) ((((w.setCell ⟨M, 4, none⟩ (.int .i64 o.k)).setCell ⟨M, 5, none⟩ (.int .i64 o.n)).setCell ⟨M, 6, none⟩ (.bool o.b)).alloc X) := (Below.refl _ _).alloc (Nat.le_refl _) _
  have hsz : (((w.setCell ⟨M, 4, none⟩ (.int .i64 o.k)).setCell ⟨M, 5, none⟩ (.int .i64 o.n)).setCell ⟨M, 6, none⟩ (.bool o.b)).heap.size = w.heap.size := by simp [World.setCell]
  have hc : ∀ i, ((((w.setCell ⟨M, 4, none⟩ (.int .i64 o.k)).setCell ⟨M, 5, none⟩ (.int .i64 o.n)).setCell ⟨M, 6, none⟩ (.bool o.b)).alloc X).cell? ⟨M, i, none⟩ = (((w.setCell ⟨M, 4, none⟩ (.int .i64 o.k)).setCell ⟨M, 5, none⟩ (.int .i64 o.n)).setCell ⟨M, 6, none⟩ (.bool o.b)).cell? ⟨M, i, none⟩ := fun i => hb.cell (p := ⟨M, i, none⟩) (by rw [hsz]; exact hM)
  have hne : ∀ {u : World} {i j : Nat} {v : Value}, i ≠ j → (u.setCell ⟨M, j, none⟩ v).cell? ⟨M, i, none⟩ = u.cell? ⟨M, i, none⟩ := fun hij => World.cell?_setCell_other _ _ _ _ (by intro e; cases e; exact hij rfl)
  refine ⟨rfl, h.set (s' := s.stop o) _ ?_ ?_ rfl rfl ?_ ?_ ?_ ?_ ?_ ?_ ?_⟩
  · rw [hc, hne (by omega), hne (by omega), hne (by omega)]
  · rw [hc, hne (by omega), hne (by omega), hne (by omega)]
  · refine ⟨rfl, rfl, rfl, by simp [World.setCell], fun k hk h1 _ => ?_⟩
    rw [hb.block k (by rw [hsz]; exact hk), Below.heap_setCell _ _ _ _ h1, Below.heap_setCell _ _ _ _ h1, Below.heap_setCell _ _ _ _ h1]
  · rw [hc, hne (by omega), hne (by omega), hne (by omega)]; exact h.c2
  · rw [hc, hne (by omega), hne (by omega), hne (by omega)]; exact h.c3
  · rw [hc, hne (by omega), hne (by omega)]; exact World.cell?_setCell_same _ _ _ h.c4
  · rw [hc, hne (by omega)]; exact World.cell?_setCell_same _ _ _ ((hne (by omega)).trans h.c5)
  · rw [hc]; exact World.cell?_setCell_same _ _ _ ((hne (by omega)).trans ((hne (by omega)).trans h.c6))
  · intro i
    rw [hb.frozen (p := ⟨M, i, none⟩) (by rw [hsz]; exact hM)]
    simpa using h.fz i
set_option maxRecDepth 20000 in
set_option maxHeartbeats 1000000 in
theorem stick_any {w0 w : World} {M : Nat} {G : Gh} {s : St} (h : MS w0 w M G s) :
    Calls Tryz.prog 154 #[.pointer (some ⟨M, 0, none⟩)] w fun e w' => e = .returned (.tuple #[]) ∧ MS w0 w' M G (s.stop stuckO) ∧ Fr M w w' := by
  have lr := h.lt
  have H : Hid (MS w0 w M G s) := h
  clear h
  go_enter Tryz.func154, Tryz.ntmps154
  go_wp2_with fail
  refine (end_any H.out stuckO).mono ?_
  rintro e w' ⟨rfl, h1, h2⟩
  go_wp2_with fail
  go_end0
  exact ⟨rfl, h1, h2⟩
end Go.Proofs.YtnddkmccagiclabGreatDoor

/-
  What the calls of run's find, told, turned, notNil and of kind's Ground answer.
-/
namespace Go.Proofs.YtnddkmccagiclabGreatDoor
open Go.RowKit
/-- More lies in memory, in new blocks. -/
structure HPost (w0 w : World) (G : Gh) (w' : World) (H : Gh) : Prop where
  le : G.le H
  hg : HG w0 w' H
  bel : Below w.heap.size w w'
  new : ∀ b, H.dom b → G.dom b ∨ w.heap.size ≤ b
theorem HPost.refl {w0 w : World} {G : Gh} (h : HG w0 w G) : HPost w0 w G w G := ⟨Gh.le.refl G, h, Below.refl _ _, fun _ h => .inl h⟩
theorem HPost.trans {w0 w w1 w2 : World} {G H K : Gh} (h : HPost w0 w G w1 H) (h' : HPost w0 w1 H w2 K) : HPost w0 w G w2 K := by
  refine ⟨h.le.trans h'.le, h'.hg, h.bel.trans (h'.bel.mono h.bel.size), fun b hb => ?_⟩
  rcases h'.new b hb with hb | hb
  · exact h.new b hb
  · exact .inr (Nat.le_trans h.bel.size hb)
theorem HG.below {w0 w w' : World} {G : Gh} (h : HG w0 w G) (hb : Below w.heap.size w w') : HG w0 w' G := h.of fun b hd i => hb.cell (p := ⟨b, i, none⟩) (h.lt hd)
theorem HPost.below {w0 w w' : World} {G : Gh} (h : HG w0 w G) (hb : Below w.heap.size w w') : HPost w0 w G w' G := ⟨Gh.le.refl G, h.below hb, hb, fun _ h => .inl h⟩
theorem MS.post {w0 w w' : World} {M : Nat} {G H : Gh} {s : St} (h : MS w0 w M G s) (hp : HPost w0 w G w' H) : MS w0 w' M H s ∧ Fr M w w' := by
  have h1 := h.below hp.bel
  refine ⟨h1.grow hp.le hp.hg fun b hb => ?_, Fr.below hp.bel h.lt⟩
  rcases hp.new b hb with hb | hb
  · exact h1.far b hb
  · have hM := h.lt
    refine ⟨by omega, fun hr => ?_⟩
    obtain ⟨u, hu, hc⟩ := hr.congr (hp.bel.cell (p := ⟨M, 0, none⟩) hM) (hp.bel.cell (p := ⟨M, 1, none⟩) hM)
    obtain ⟨tv, mv, txs, mxs, e0, e1, o0, o1, _⟩ := h.ex
    rcases hc with hc | hc
    · rw [e0] at hc; cases hc
      have := (o0.lt b hu).2; omega
    · rw [e1] at hc; cases hc
      have := (o1.lt b hu).2; omega
set_option maxRecDepth 20000 in
set_option maxHeartbeats 1000000 in
theorem turned_any (k n : Int) (b : Bool) (w : World) :
    Calls Tryz.prog 183 #[.agg #[.int .i64 k, .int .i64 n, .bool b]] w fun e w' => e = .returned (.agg #[.int .i64 k, .int .i64 n, .bool (!b)]) ∧ Below w.heap.size w w' := by
  go_enter Tryz.func183, Tryz.ntmps183
  go_wp2_with fail
  refine bodyPost_ret (v := .agg #[.int .i64 k, .int .i64 n, .bool (!b)]) (by simp [results, Tryz.results183, go_sem]) rfl ⟨rfl, ?_⟩
  exact ((Below.refl _ _).alloc (Nat.le_refl _) _).alloc (by simp) _
set_option maxRecDepth 20000 in
set_option maxHeartbeats 1000000 in
theorem notNil_some (b : Nat) (k : Int) (w : World) :
    Calls Tryz.prog 184 #[.pointer (some ⟨b, 0, none⟩), .int .i64 k] w fun e w' => e = .returned (.pointer (some ⟨b, 0, none⟩)) ∧ w' = w := by
  go_enter Tryz.func184, Tryz.ntmps184
  go_wp2_with fail
  go_ret
  exact ⟨rfl, rfl⟩
def cast0 (k : Int) : Obj := .cells #[.bool false, .int .i64 0, .int .i64 0, .bool false, .int .i64 k, .int .i64 0, .int .i64 0, .bool false, .pointer none, .pointer none, .bool false] 203
set_option maxRecDepth 20000 in
set_option maxHeartbeats 1000000 in
theorem notNil_none (k : Int) (w : World) :
    Calls Tryz.prog 184 #[.pointer none, .int .i64 k] w fun e w' => e = .returned (.pointer (some ⟨w.heap.size, 0, none⟩)) ∧ w' = w.alloc (cast0 k) := by
  go_enter Tryz.func184, Tryz.ntmps184
  go_wp2_with fail
  go_ret
  exact ⟨rfl, rfl⟩
set_option maxRecDepth 20000 in
set_option maxHeartbeats 1000000 in
theorem ground_leaf (k : Int) (h3 : (k == 3) = false) (a : Option Addr) (m c : Nat) (w : World) :
    Calls Tryz.prog 185 #[.agg #[.int .i64 k, .slice a m c]] w fun e w' => e = .returned (.agg #[.int .i64 k, .slice none 0 0]) ∧ Below w.heap.size w w' := by
  go_enter Tryz.func185, Tryz.ntmps185
  go_wp2_with fail
  refine bodyPost_ret (v := .agg #[.int .i64 k, .slice none 0 0]) (by simp [results, Tryz.results185, go_sem]) rfl ⟨rfl, ?_⟩
  exact ((Below.refl _ _).alloc (Nat.le_refl _) _).alloc (by simp) _
set_option maxRecDepth 20000 in
set_option maxHeartbeats 1000000 in
theorem told_num (b : Nat) (k n : Int) (hk : k = 1 ∨ k = 2) (w : World) (h0 : w.cell? ⟨b, 0, none⟩ = some (.int .i64 k)) (h1 : w.cell? ⟨b, 1, none⟩ = some (.int .i64 n)) :
    Calls Tryz.prog 74 #[.pointer (some ⟨b, 0, none⟩)] w fun e w' => e = .returned (.agg #[.int .i64 k, .int .i64 n, .bool false]) ∧ Below w.heap.size w w' := by
  have lb : b < w.heap.size := World.block_lt_of_cell? _ _ h0
  rcases hk with rfl | rfl
  all_goals
    go_enter Tryz.func74, Tryz.ntmps74
    go_wp2_with fail
    refine bodyPost_ret (v := .agg #[.int .i64 _, .int .i64 n, .bool false]) (by simp [results, Tryz.results74, go_sem]) rfl ⟨rfl, ?_⟩
    exact (Below.refl _ _).alloc (Nat.le_refl _) _
set_option maxRecDepth 20000 in
set_option maxHeartbeats 1000000 in
theorem told_fun (b : Nat) (k : Int) (h5 : (k == 5) = false) (h1 : (k == 1) = false) (h2 : (k == 2) = false) (w : World) (h0 : w.cell? ⟨b, 0, none⟩ = some (.int .i64 k)) :
    Calls Tryz.prog 74 #[.pointer (some ⟨b, 0, none⟩)] w fun e w' => e = .returned (.agg #[.int .i64 3, .int .i64 0, .bool false]) ∧ Below w.heap.size w w' := by
  have lb : b < w.heap.size := World.block_lt_of_cell? _ _ h0
  go_enter Tryz.func74, Tryz.ntmps74
  go_wp2_with fail
  refine bodyPost_ret (v := .agg #[.int .i64 3, .int .i64 0, .bool false]) (by simp [results, Tryz.results74, go_sem]) rfl ⟨rfl, ?_⟩
  exact (Below.refl _ _).alloc (Nat.le_refl _) _
set_option maxRecDepth 20000 in
set_option maxHeartbeats 1000000 in
theorem told_num5 (b c : Nat) (k n : Int) (hk : k = 1 ∨ k = 2) (w : World) (b0 : w.cell? ⟨b, 0, none⟩ = some (.int .i64 5)) (b4 : w.cell? ⟨b, 4, none⟩ = some (.pointer (some ⟨c, 0, none⟩))) (h0 : w.cell? ⟨c, 0, none⟩ = some (.int .i64 k)) (h1 : w.cell? ⟨c, 1, none⟩ = some (.int .i64 n)) :
    Calls Tryz.prog 74 #[.pointer (some ⟨b, 0, none⟩)] w fun e w' => e = .returned (.agg #[.int .i64 k, .int .i64 n, .bool false]) ∧ Below w.heap.size w w' := by
  have lb : b < w.heap.size := World.block_lt_of_cell? _ _ b0
  have lc : c < w.heap.size := World.block_lt_of_cell? _ _ h0
  rcases hk with rfl | rfl
  all_goals
    go_enter Tryz.func74, Tryz.ntmps74
    go_wp2_with fail
    refine bodyPost_ret (v := .agg #[.int .i64 _, .int .i64 n, .bool false]) (by simp [results, Tryz.results74, go_sem]) rfl ⟨rfl, ?_⟩
    exact (Below.refl _ _).alloc (Nat.le_refl _) _
set_option maxRecDepth 20000 in
set_option maxHeartbeats 1000000 in
theorem told_fun5 (b c : Nat) (k : Int) (h1 : (k == 1) = false) (h2 : (k == 2) = false) (w : World) (b0 : w.cell? ⟨b, 0, none⟩ = some (.int .i64 5)) (b4 : w.cell? ⟨b, 4, none⟩ = some (.pointer (some ⟨c, 0, none⟩))) (h0 : w.cell? ⟨c, 0, none⟩ = some (.int .i64 k)) :
    Calls Tryz.prog 74 #[.pointer (some ⟨b, 0, none⟩)] w fun e w' => e = .returned (.agg #[.int .i64 3, .int .i64 0, .bool false]) ∧ Below w.heap.size w w' := by
  have lb : b < w.heap.size := World.block_lt_of_cell? _ _ b0
  have lc : c < w.heap.size := World.block_lt_of_cell? _ _ h0
  go_enter Tryz.func74, Tryz.ntmps74
  go_wp2_with fail
  refine bodyPost_ret (v := .agg #[.int .i64 3, .int .i64 0, .bool false]) (by simp [results, Tryz.results74, go_sem]) rfl ⟨rfl, ?_⟩
  exact (Below.refl _ _).alloc (Nat.le_refl _) _
theorem told_any {w0 w : World} {G : Gh} (h : HG w0 w G) {p : Option Addr} {v : Val} (hp : G.vp p v) :
    Calls Tryz.prog 74 #[.pointer p] w fun e w' => e = .returned (.agg #[.int .i64 (toldV v).k, .int .i64 (toldV v).n, .bool (toldV v).b]) ∧ Below w.heap.size w w' := by
  obtain ⟨b, rfl, hb⟩ := hp
  obtain ⟨pb, ps, pi, pg, pa, h0, h1, h2, h3, h4, h5, h6, h7, a1, a2, a3, a4⟩ := h.v b v hb
  have one : ∀ (u : Val), (u.k = 1 ∨ u.k = 2) → (if u.k = 1 then (⟨1, u.n, false⟩ : Out) else if u.k = 2 then ⟨2, u.n, false⟩ else ⟨3, 0, false⟩) = ⟨u.k, u.n, false⟩ := fun u hu => by
    rcases hu with hu | hu <;> simp [hu]
  have two : ∀ (u : Val), ¬ (u.k = 1 ∨ u.k = 2) → (if u.k = 1 then (⟨1, u.n, false⟩ : Out) else if u.k = 2 then ⟨2, u.n, false⟩ else ⟨3, 0, false⟩) = ⟨3, 0, false⟩ := fun u hu => by
    rw [if_neg (fun h => hu (.inl h)), if_neg (fun h => hu (.inr h))]
  by_cases hk5 : v.k = 5
  · obtain ⟨u, hi, c, rfl, hc⟩ := a2 (.inr hk5)
    obtain ⟨_, _, _, _, _, u0, u1, _⟩ := h.v c u hc
    have hcore : v.core = u := by unfold Val.core; rw [hi]; rfl
    rw [hk5] at h0
    have e : toldV v = if u.k = 1 then (⟨1, u.n, false⟩ : Out) else if u.k = 2 then ⟨2, u.n, false⟩ else ⟨3, 0, false⟩ := by
      unfold toldV; simp only [hk5, hcore, if_true]
    rw [e]
    by_cases hu : u.k = 1 ∨ u.k = 2
    · rw [one u hu]
      exact told_num5 b c u.k u.n hu w h0 h4 u0 u1
    · rw [two u hu]
      exact told_fun5 b c u.k (by simpa using fun h => hu (.inl h)) (by simpa using fun h => hu (.inr h)) w h0 h4 u0
  · have e : toldV v = if v.k = 1 then (⟨1, v.n, false⟩ : Out) else if v.k = 2 then ⟨2, v.n, false⟩ else ⟨3, 0, false⟩ := by
      unfold toldV; simp only [hk5, if_false]
    rw [e]
    by_cases hu : v.k = 1 ∨ v.k = 2
    · rw [one v hu]
      exact told_num b v.k v.n hu w h0 h1
    · rw [two v hu]
      exact told_fun b v.k (by simpa using hk5) (by simpa using fun h => hu (.inl h)) (by simpa using fun h => hu (.inr h)) w h0
set_option maxRecDepth 20000 in
set_option maxHeartbeats 1000000 in
/-- find: what the n-th function from within was given. -/
theorem find_any {w0 w : World} {G : Gh} (h : HG w0 w G) (p : Option Addr) (e : List Val) (hp : G.sp p e) (n : Nat) (hn : n ≤ 1000000) :
    Calls Tryz.prog 149 #[.pointer p, .int .i64 n] w fun r w' => w' = w ∧ ∃ q, r = .returned (.pointer q) ∧ ((q = none ∧ e[n]? = none) ∨ ∃ v, e[n]? = some v ∧ G.vp q v) := by
  have H : Hid (HG w0 w G ∧ G.sp p e) := ⟨h, hp⟩
  clear h hp
  go_enter Tryz.func149, Tryz.ntmps149
  go_wp2_with fail
  go_loopg [0, 1] n (fun k p0 n0 wr => ∃ p', p0 = .pointer p' ∧ n0 = .int .i64 (k : Int) ∧ wr = w ∧ Hid (∃ e', G.sp p' e' ∧ e[n]? = e'[k]? ∧ k ≤ 1000000))
  case atStart => exact ⟨p, rfl, rfl, rfl, e, H.out.2, rfl, hn⟩
  case round =>
    obtain ⟨p', rfl, rfl, rfl, HI⟩ := hrel
    obtain ⟨e', hs, he, hk⟩ := HI.out
    rcases hs with ⟨rfl, rfl⟩ | ⟨b, rfl, hb⟩
    · have HE : Hid (e[n]? = none) := by rw [he]; rfl
      clear he HI
      go_wp2_with fail
      go_ret
      exact ⟨rfl, none, rfl, .inl ⟨rfl, HE.out⟩⟩
    · obtain ⟨v, r, pv, ps, rfl, c0, c1, hv, hps⟩ := H.out.1.s b e' hb
      have lb : b < wr.heap.size := World.block_lt_of_cell? _ _ c0
      match gk, he with
      | 0, he =>
        have HE : Hid (e[n]? = some v ∧ G.vp pv v) := ⟨by rw [he]; rfl, hv⟩
        clear he HI hps hv
        go_wp2_with fail
        go_ret
        exact ⟨rfl, pv, rfl, .inr ⟨v, HE.out⟩⟩
      | k + 1, he =>
        have HE : Hid (∃ e', G.sp ps e' ∧ e[n]? = e'[k]? ∧ k ≤ 1000000) := ⟨r, hps, by rw [he]; rfl, by omega⟩
        have hpos : (decide ((0 : Int) < ((k + 1 : Nat) : Int))) = true := by simp
        clear he HI hps hv
        go_wp2_with fail
        go_roundg k
        case measure => omega
        case rel => exact ⟨ps, rfl, by simp, rfl, HE⟩
end Go.Proofs.YtnddkmccagiclabGreatDoor

/-
  What the call of a cast's then answers: one cast that does what both do.
-/
namespace Go.Proofs.YtnddkmccagiclabGreatDoor
open Go.RowKit
def ThenPost (w0 w : World) (G : Gh) (c d : Option Ca) (e : Ending) (w' : World) : Prop := ∃ p H, e = .returned (.pointer p) ∧ H.cp p (thenC c d) ∧ HPost w0 w G w' H
set_option maxRecDepth 20000 in
set_option maxHeartbeats 1000000 in
theorem then_nil (pd : Option Addr) (w : World) : Calls Tryz.prog 201 #[.pointer none, .pointer pd] w fun e w' => e = .returned (.pointer pd) ∧ w' = w := by
  go_enter Tryz.func201, Tryz.ntmps201
  go_wp2_with fail
  go_ret
  exact ⟨rfl, rfl⟩
set_option maxRecDepth 20000 in
set_option maxHeartbeats 1000000 in
theorem then_one (b : Nat) (w : World) : Calls Tryz.prog 201 #[.pointer (some ⟨b, 0, none⟩), .pointer none] w fun e w' => e = .returned (.pointer (some ⟨b, 0, none⟩)) ∧ w' = w := by
  go_enter Tryz.func201, Tryz.ntmps201
  go_wp2_with fail
  go_ret
  exact ⟨rfl, rfl⟩
set_option maxRecDepth 20000 in
set_option maxHeartbeats 1000000 in
theorem then_ends (b c : Nat) (k : Int) (hk : (k != 0) = true) (w : World) (h5 : w.cell? ⟨b, 5, none⟩ = some (.int .i64 k)) : Calls Tryz.prog 201 #[.pointer (some ⟨b, 0, none⟩), .pointer (some ⟨c, 0, none⟩)] w fun e w' => e = .returned (.pointer (some ⟨b, 0, none⟩)) ∧ w' = w := by
  have lb : b < w.heap.size := World.block_lt_of_cell? _ _ h5
  go_enter Tryz.func201, Tryz.ntmps201
  go_wp2_with fail
  go_ret
  exact ⟨rfl, rfl⟩
/-- A cast's cells, laid anew. -/
def castO (c : Ca) (pg pa : Option Addr) : Obj := .cells #[.bool c.opens, .int .i64 c.wrong.k, .int .i64 c.wrong.n, .bool c.wrong.b, .int .i64 c.kind, .int .i64 c.ends.k, .int .i64 c.ends.n, .bool c.ends.b, .pointer pg, .pointer pa, .bool c.hides] 203
theorem castO_at (w : World) (c : Ca) (pg pa : Option Addr) : CAt (w.alloc (castO c pg pa)) w.heap.size c pg pa := by
  constructor <;> simp [castO, go_sem]
theorem below_rN {B : Nat} {a w : World} (h : Below B a w) (n : Nat) : Below B a (w.drewN n) := h.trans ⟨rfl, rfl, rfl, Nat.le_refl _, fun _ _ => rfl⟩
theorem set_same {u : World} {b j : Nat} {v x : Value} (h : u.cell? ⟨b, j, none⟩ = some x) : (u.setCell ⟨b, j, none⟩ v).cell? ⟨b, j, none⟩ = some v := World.cell?_setCell_same _ _ _ h
theorem set_other {u : World} {b i j : Nat} {v : Value} (h : i ≠ j) : (u.setCell ⟨b, j, none⟩ v).cell? ⟨b, i, none⟩ = u.cell? ⟨b, i, none⟩ := World.cell?_setCell_other _ _ _ _ (by intro e; cases e; exact h rfl)
/-- A cast's end is set. -/
theorem CAt.setEnds {W : World} {b : Nat} {c : Ca} {pg pa : Option Addr} (h : CAt W b c pg pa) (o : Out) : CAt (((W.setCell ⟨b, 5, none⟩ (.int .i64 o.k)).setCell ⟨b, 6, none⟩ (.int .i64 o.n)).setCell ⟨b, 7, none⟩ (.bool o.b)) b ⟨c.opens, c.wrong, c.kind, o, c.given, c.answer, c.hides⟩ pg pa := by
  obtain ⟨h0, h1, h2, h3, h4, h5, h6, h7, h8, h9, h10⟩ := h
  have far : ∀ i, i ≠ 5 → i ≠ 6 → i ≠ 7 → (((W.setCell ⟨b, 5, none⟩ (.int .i64 o.k)).setCell ⟨b, 6, none⟩ (.int .i64 o.n)).setCell ⟨b, 7, none⟩ (.bool o.b)).cell? ⟨b, i, none⟩ = W.cell? ⟨b, i, none⟩ := fun i a1 a2 a3 => by rw [set_other a3, set_other a2, set_other a1]
  refine ⟨(far 0 (by omega) (by omega) (by omega)).trans h0, (far 1 (by omega) (by omega) (by omega)).trans h1, (far 2 (by omega) (by omega) (by omega)).trans h2, (far 3 (by omega) (by omega) (by omega)).trans h3, (far 4 (by omega) (by omega) (by omega)).trans h4, ?_, ?_, ?_, (far 8 (by omega) (by omega) (by omega)).trans h8, (far 9 (by omega) (by omega) (by omega)).trans h9, (far 10 (by omega) (by omega) (by omega)).trans h10⟩
  · rw [set_other (by omega), set_other (by omega)]; exact set_same h5
  · rw [set_other (by omega)]; exact set_same ((set_other (by omega)).trans h6)
  · exact set_same ((set_other (by omega)).trans ((set_other (by omega)).trans h7))
theorem CAt.setHides {W : World} {b : Nat} {c : Ca} {pg pa : Option Addr} (h : CAt W b c pg pa) (o : Bool) : CAt (W.setCell ⟨b, 10, none⟩ (.bool o)) b ⟨c.opens, c.wrong, c.kind, c.ends, c.given, c.answer, o⟩ pg pa := by
  obtain ⟨h0, h1, h2, h3, h4, h5, h6, h7, h8, h9, h10⟩ := h
  exact ⟨(set_other (by omega)).trans h0, (set_other (by omega)).trans h1, (set_other (by omega)).trans h2, (set_other (by omega)).trans h3, (set_other (by omega)).trans h4, (set_other (by omega)).trans h5, (set_other (by omega)).trans h6, (set_other (by omega)).trans h7, (set_other (by omega)).trans h8, (set_other (by omega)).trans h9, set_same h10⟩
theorem CAt.setGiven {W : World} {b : Nat} {c : Ca} {pg pa : Option Addr} (h : CAt W b c pg pa) (p : Option Addr) (g : Option Ca) : CAt (W.setCell ⟨b, 8, none⟩ (.pointer p)) b ⟨c.opens, c.wrong, c.kind, c.ends, g, c.answer, c.hides⟩ p pa := by
  obtain ⟨h0, h1, h2, h3, h4, h5, h6, h7, h8, h9, h10⟩ := h
  exact ⟨(set_other (by omega)).trans h0, (set_other (by omega)).trans h1, (set_other (by omega)).trans h2, (set_other (by omega)).trans h3, (set_other (by omega)).trans h4, (set_other (by omega)).trans h5, (set_other (by omega)).trans h6, (set_other (by omega)).trans h7, set_same h8, (set_other (by omega)).trans h9, (set_other (by omega)).trans h10⟩
theorem CAt.setAnswer {W : World} {b : Nat} {c : Ca} {pg pa : Option Addr} (h : CAt W b c pg pa) (p : Option Addr) (g : Option Ca) : CAt (W.setCell ⟨b, 9, none⟩ (.pointer p)) b ⟨c.opens, c.wrong, c.kind, c.ends, c.given, g, c.hides⟩ pg p := by
  obtain ⟨h0, h1, h2, h3, h4, h5, h6, h7, h8, h9, h10⟩ := h
  exact ⟨(set_other (by omega)).trans h0, (set_other (by omega)).trans h1, (set_other (by omega)).trans h2, (set_other (by omega)).trans h3, (set_other (by omega)).trans h4, (set_other (by omega)).trans h5, (set_other (by omega)).trans h6, (set_other (by omega)).trans h7, (set_other (by omega)).trans h8, set_same h9, (set_other (by omega)).trans h10⟩
set_option maxRecDepth 20000 in
set_option maxHeartbeats 1000000 in
theorem then_mis (b q : Nat) (c d : Ca) (pg pa pg' pa' : Option Addr) (h0 : (c.ends.k != 0) = false) (hk : (d.kind != c.kind) = true) (w : World) (hc : CAt w b c pg pa) (hd : CAt w q d pg' pa') :
    Calls Tryz.prog 201 #[.pointer (some ⟨b, 0, none⟩), .pointer (some ⟨q, 0, none⟩)] w fun e w' => e = .returned (.pointer (some ⟨w.heap.size, 0, none⟩)) ∧ CAt w' w.heap.size ⟨c.opens, c.wrong, c.kind, d.wrong, none, none, false⟩ none none ∧ Below w.heap.size w w' := by
  have lb : b < w.heap.size := World.block_lt_of_cell? _ _ hc.c0
  have lq : q < w.heap.size := World.block_lt_of_cell? _ _ hd.c0
  obtain ⟨c0, c1, c2, c3, c4, c5, c6, c7, c8, c9, c10⟩ := hc
  obtain ⟨d0, d1, d2, d3, d4, d5, d6, d7, d8, d9, d10⟩ := hd
  have HN : Hid (∀ n, CAt ((w.alloc (castO ⟨c.opens, c.wrong, c.kind, out0, none, none, false⟩ none none)).drewN n) w.heap.size ⟨c.opens, c.wrong, c.kind, out0, none, none, false⟩ none none) := fun n => (castO_at w ⟨c.opens, c.wrong, c.kind, out0, none, none, false⟩ none none).of fun _ => rfl
  go_enter Tryz.func201, Tryz.ntmps201
  go_wp2_with fail
  go_region
  all_goals
    go_wp2_with fail
    go_quiet (fail)
    go_wp2_with fail
    go_ret
    refine ⟨rfl, (HN.out _).setEnds d.wrong, ?_⟩
    exact (((below_rN ((Below.refl _ _).alloc (Nat.le_refl _) _) _).setCell (by simp) _).setCell (by simp) _).setCell (by simp) _
theorem then_new {w0 w W : World} {G H : Gh} {x : Ca} {pg pa : Option Addr} (hl : G.le H) (hH : HG w0 W H) (hb : Below w.heap.size w W) (hn : ∀ b, H.dom b → G.dom b ∨ w.heap.size ≤ b) (hd : ¬ H.dom w.heap.size) (hx : CAt W w.heap.size x pg pa) (hg : H.cp pg x.given) (ha : H.cp pa x.answer) : HPost w0 w G W (H.addC w.heap.size x) ∧ (H.addC w.heap.size x).cp (some ⟨w.heap.size, 0, none⟩) (some x) := by
  refine ⟨⟨hl.trans (Gh.le_addC hd), hH.addC hd hx hg ha, hb, fun b h => ?_⟩, Gh.cp_addC _ _ _⟩
  rcases Gh.dom_addC h with rfl | h
  · exact .inr (Nat.le_refl _)
  · exact hn b h
set_option maxRecDepth 20000 in
set_option maxHeartbeats 4000000 in
theorem then_both (b q : Nat) (c d : Ca) (pg pa pg' pa' : Option Addr) (h0 : (c.ends.k != 0) = false) (hk : (d.kind != c.kind) = false) (w0 w : World) (G : Gh) (hG : HG w0 w G) (hc : CAt w b c pg pa) (hd : CAt w q d pg' pa')
    (IH1 : ∀ W, HG w0 W G → Calls Tryz.prog 201 #[.pointer pg', .pointer pg] W (ThenPost w0 W G d.given c.given))
    (IH2 : ∀ W H, G.le H → HG w0 W H → Calls Tryz.prog 201 #[.pointer pa, .pointer pa'] W (ThenPost w0 W H c.answer d.answer)) :
    Calls Tryz.prog 201 #[.pointer (some ⟨b, 0, none⟩), .pointer (some ⟨q, 0, none⟩)] w fun e w' => ∃ H, e = .returned (.pointer (some ⟨w.heap.size, 0, none⟩)) ∧ H.cp (some ⟨w.heap.size, 0, none⟩) (some ⟨c.opens, c.wrong, c.kind, d.ends, thenC d.given c.given, thenC c.answer d.answer, d.hides⟩) ∧ HPost w0 w G w' H := by
  have lb : b < w.heap.size := World.block_lt_of_cell? _ _ hc.c0
  have lq : q < w.heap.size := World.block_lt_of_cell? _ _ hd.c0
  have H1 : Hid (HG w0 w G ∧ CAt w b c pg pa ∧ CAt w q d pg' pa') := ⟨hG, hc, hd⟩
  have HI1 : Hid (∀ W, HG w0 W G → Calls Tryz.prog 201 #[.pointer pg', .pointer pg] W (ThenPost w0 W G d.given c.given)) := IH1
  have HI2 : Hid (∀ W H, G.le H → HG w0 W H → Calls Tryz.prog 201 #[.pointer pa, .pointer pa'] W (ThenPost w0 W H c.answer d.answer)) := IH2
  obtain ⟨c0, c1, c2, c3, c4, c5, c6, c7, c8, c9, c10⟩ := hc
  obtain ⟨d0, d1, d2, d3, d4, d5, d6, d7, d8, d9, d10⟩ := hd
  have HN : Hid (∀ n, CAt ((w.alloc (castO ⟨c.opens, c.wrong, c.kind, out0, none, none, false⟩ none none)).drewN n) w.heap.size ⟨c.opens, c.wrong, c.kind, out0, none, none, false⟩ none none) := fun n => (castO_at w ⟨c.opens, c.wrong, c.kind, out0, none, none, false⟩ none none).of fun _ => rfl
  clear hG IH1 IH2
  go_enter Tryz.func201, Tryz.ntmps201
  go_wp2_with fail
  go_region
  all_goals
    go_wp2_with fail
    go_quiet (fail)
    go_wp2_with fail
    go_region
    all_goals
      obtain ⟨W3, hW3⟩ : ∃ W, W = ((((((w.alloc (castO ⟨c.opens, c.wrong, c.kind, out0, none, none, false⟩ none none)).drewN (1 + nq + 1)).setCell ⟨w.heap.size, 5, none⟩ (.int .i64 d.ends.k)).setCell ⟨w.heap.size, 6, none⟩ (.int .i64 d.ends.n)).setCell ⟨w.heap.size, 7, none⟩ (.bool d.ends.b)).setCell ⟨w.heap.size, 10, none⟩ (.bool d.hides)) := ⟨_, rfl⟩
      have hb3 : Below w.heap.size w W3 := by
        rw [hW3]
        exact ((((below_rN ((Below.refl _ _).alloc (Nat.le_refl _) _) _).setCell (by simp) _).setCell (by simp) _).setCell (by simp) _).setCell (by simp) _
      have ha3 : CAt W3 w.heap.size ⟨c.opens, c.wrong, c.kind, d.ends, none, none, d.hides⟩ none none := by
        rw [hW3]
        exact ((HN.out _).setEnds d.ends).setHides d.hides
      have hf3 : ∀ o, W3.frozen? ⟨w.heap.size, o, none⟩ = false := by
        intro o
        rw [hW3]
        simp [castO, go_sem]
      have hs3 : w.heap.size < W3.heap.size := World.block_lt_of_cell? _ _ ha3.c0
      unfold castO out0 at hW3
      rw [← hW3]
      have HC3 : Hid (HG w0 W3.drew G ∧ CAt W3.drew w.heap.size ⟨c.opens, c.wrong, c.kind, d.ends, none, none, d.hides⟩ none none ∧ (∀ o, W3.drew.frozen? ⟨w.heap.size, o, none⟩ = false) ∧ Below w.heap.size w W3.drew ∧ CAt W3 b c pg pa ∧ CAt W3 q d pg' pa') :=
        ⟨H1.out.1.below hb3.drew, ha3.of (fun _ => rfl), hf3, hb3.drew, H1.out.2.1.of fun i => hb3.cell (p := ⟨b, i, none⟩) lb, H1.out.2.2.of fun i => hb3.cell (p := ⟨q, i, none⟩) lq⟩
      have x8 := HC3.out.2.2.2.2.1.c8
      have y8 := HC3.out.2.2.2.2.2.c8
      have lb3 : b < W3.heap.size := by omega
      have lq3 : q < W3.heap.size := by omega
      clear hW3 hb3 ha3 hf3 c0 c1 c2 c3 c4 c5 c6 c7 c8 c9 c10 d0 d1 d2 d3 d4 d5 d6 d7 d8 d9 d10 HN
      go_wp2_with fail
      go_region_with (go_at_call 201; refine (HI1.out _ HC3.out.1).mono ?_; rintro e w4 ⟨p1, H4, rfl, hcp1, hp1⟩; have z8 : w4.cell? ⟨w.heap.size, 8, none⟩ = some (.pointer none) := (hp1.bel.cell (p := ⟨w.heap.size, 8, none⟩) hs3).trans HC3.out.2.1.c8; have zf : w4.frozen? ⟨w.heap.size, 8, none⟩ = false := (hp1.bel.frozen (p := ⟨w.heap.size, 8, none⟩) hs3).trans (HC3.out.2.2.1 8))
      all_goals
        have hd4 : ¬ H4.dom w.heap.size := fun hd => by
          rcases hp1.new _ hd with hd | hd
          · have := H1.out.1.lt hd; omega
          · have : W3.drew.heap.size = W3.heap.size := rfl
            omega
        have hs4 : w.heap.size < w4.heap.size := World.block_lt_of_cell? _ _ z8
        obtain ⟨W5, hW5⟩ : ∃ W, W = w4.setCell ⟨w.heap.size, 8, none⟩ (.pointer p1) := ⟨_, rfl⟩
        have hb4 : Below w.heap.size w w4 := HC3.out.2.2.2.1.trans (hp1.bel.mono HC3.out.2.2.2.1.size)
        have hb5 : Below w.heap.size w W5 := by rw [hW5]; exact hb4.setCell (Nat.le_refl _) _
        have ha4 : CAt w4 w.heap.size ⟨c.opens, c.wrong, c.kind, d.ends, none, none, d.hides⟩ none none := HC3.out.2.1.of fun i => hp1.bel.cell (p := ⟨w.heap.size, i, none⟩) hs3
        have ha5 : CAt W5 w.heap.size ⟨c.opens, c.wrong, c.kind, d.ends, thenC d.given c.given, none, d.hides⟩ p1 none := by rw [hW5]; exact ha4.setGiven p1 _
        have hf5 : ∀ o, W5.frozen? ⟨w.heap.size, o, none⟩ = false := by
          intro o
          rw [hW5]
          have := (hp1.bel.frozen (p := ⟨w.heap.size, o, none⟩) hs3).trans (HC3.out.2.2.1 o)
          simpa using this
        have hg5 : HG w0 W5 H4 := by
          rw [hW5]
          exact hp1.hg.of fun k hk i => World.cell?_setCell_far _ _ _ _ (by intro e; simp only at e; exact hd4 (e ▸ hk))
        have hs5 : w.heap.size < W5.heap.size := World.block_lt_of_cell? _ _ ha5.c0
        rw [← hW5]
        have hn4 : ∀ k, H4.dom k → G.dom k ∨ w.heap.size ≤ k := fun k hk => by
          rcases hp1.new k hk with hk | hk
          · exact .inl hk
          · have : W3.drew.heap.size = W3.heap.size := rfl
            exact .inr (by omega)
        have HC5 : Hid (HG w0 W5.drew H4 ∧ CAt W5.drew w.heap.size ⟨c.opens, c.wrong, c.kind, d.ends, thenC d.given c.given, none, d.hides⟩ p1 none ∧ (∀ o, W5.drew.frozen? ⟨w.heap.size, o, none⟩ = false) ∧ Below w.heap.size w W5.drew ∧ H4.cp p1 (thenC d.given c.given) ∧ G.le H4 ∧ (∀ k, H4.dom k → G.dom k ∨ w.heap.size ≤ k) ∧ ¬ H4.dom w.heap.size) :=
          ⟨hg5.below ((Below.refl _ _).drew), ha5.of (fun _ => rfl), hf5, hb5.drew, hcp1, hp1.le, hn4, hd4⟩
        have x9 := (H1.out.2.1.of fun i => hb5.cell (p := ⟨b, i, none⟩) lb).c9
        have y9 := (H1.out.2.2.of fun i => hb5.cell (p := ⟨q, i, none⟩) lq).c9
        have lb5 : b < W5.heap.size := by omega
        have lq5 : q < W5.heap.size := by omega
        clear hW5 hb5 ha5 hf5 hg5 hd4 hs4 hb4 ha4 hp1 hcp1 z8 zf x8 y8 lb3 lq3 HC3 hs3 hn4
        go_wp2_with fail
        go_region_with (go_at_call 201; refine (HI2.out _ _ HC5.out.2.2.2.2.2.1 HC5.out.1).mono ?_; rintro e w6 ⟨p2, H6, rfl, hcp2, hp2⟩; have z9 : w6.cell? ⟨w.heap.size, 9, none⟩ = some (.pointer none) := (hp2.bel.cell (p := ⟨w.heap.size, 9, none⟩) hs5).trans HC5.out.2.1.c9; have zf : w6.frozen? ⟨w.heap.size, 9, none⟩ = false := (hp2.bel.frozen (p := ⟨w.heap.size, 9, none⟩) hs5).trans (HC5.out.2.2.1 9))
        all_goals
          go_wp2_with fail
          go_ret
          obtain ⟨g5, a5, f5, b5, cp1, le4, n4, d4⟩ := HC5.out
          have hd6 : ¬ H6.dom w.heap.size := fun hd => by
            rcases hp2.new _ hd with hd | hd
            · exact d4 hd
            · have : W5.drew.heap.size = W5.heap.size := rfl
              omega
          have a6 : CAt w6 w.heap.size ⟨c.opens, c.wrong, c.kind, d.ends, thenC d.given c.given, none, d.hides⟩ p1 none := a5.of fun i => hp2.bel.cell (p := ⟨w.heap.size, i, none⟩) hs5
          have b6 : Below w.heap.size w w6 := b5.trans (hp2.bel.mono b5.size)
          have g7 : HG w0 (w6.setCell ⟨w.heap.size, 9, none⟩ (.pointer p2)) H6 := hp2.hg.of fun k hk i => World.cell?_setCell_far _ _ _ _ (by intro e; simp only at e; exact hd6 (e ▸ hk))
          obtain ⟨r1, r2⟩ := then_new (x := ⟨c.opens, c.wrong, c.kind, d.ends, thenC d.given c.given, thenC c.answer d.answer, d.hides⟩) (le4.trans hp2.le) g7 (b6.setCell (Nat.le_refl _) _) (fun k hk => by
            rcases hp2.new k hk with hk | hk
            · exact n4 k hk
            · have : W5.drew.heap.size = W5.heap.size := rfl
              exact .inr (by omega)) hd6 (a6.setAnswer p2 _) (cp1.le hp2.le) hcp2
          exact ⟨_, rfl, r2, r1⟩
/-- then. -/
theorem then_any (w0 : World) : ∀ (n : Nat) (c d : Option Ca) (pc pd : Option Addr) (w : World) (G : Gh), SizeOf.sizeOf c + SizeOf.sizeOf d ≤ n → HG w0 w G → G.cp pc c → G.cp pd d → Calls Tryz.prog 201 #[.pointer pc, .pointer pd] w (ThenPost w0 w G c d)
  | 0, c, d, _, _, _, _, h, _, _, _ => by cases c <;> simp at h
  | n + 1, c, d, pc, pd, w, G, hn, hG, hc, hd => by
    rcases hc with ⟨rfl, rfl⟩ | ⟨b, x, rfl, rfl, hb⟩
    · refine (then_nil pd w).mono ?_
      rintro e w' ⟨rfl, rfl⟩
      exact ⟨pd, G, rfl, by rw [thenC_nil]; exact hd, HPost.refl hG⟩
    rcases hd with ⟨rfl, rfl⟩ | ⟨q, y, rfl, rfl, hq⟩
    · refine (then_one b w).mono ?_
      rintro e w' ⟨rfl, rfl⟩
      exact ⟨_, G, rfl, by rw [thenC_one]; exact .inr ⟨b, x, rfl, rfl, hb⟩, HPost.refl hG⟩
    obtain ⟨pg, pa, hx, xg, xa⟩ := hG.c b x hb
    obtain ⟨pg', pa', hy, yg, ya⟩ := hG.c q y hq
    by_cases h0 : x.ends.k = 0
    · have h0' : (x.ends.k != 0) = false := by simpa using h0
      have hfresh : ¬ G.dom w.heap.size := fun h => by have := hG.lt h; omega
      by_cases hk : y.kind = x.kind
      · have hsz : SizeOf.sizeOf y.given + SizeOf.sizeOf x.given ≤ n ∧ SizeOf.sizeOf x.answer + SizeOf.sizeOf y.answer ≤ n := by
          cases x; cases y
          simp at hn ⊢
          omega
        refine (then_both b q x y pg pa pg' pa' h0' (by simpa using hk) w0 w G hG hx hy (fun W hW => then_any w0 n _ _ _ _ W G hsz.1 hW yg xg) (fun W H hl hW => then_any w0 n _ _ _ _ W H hsz.2 hW (xa.le hl) (ya.le hl))).mono ?_
        rintro e w' ⟨H, rfl, h1, h2⟩
        exact ⟨_, H, rfl, by rw [thenC_some, if_pos h0, if_pos hk]; exact h1, h2⟩
      · refine (then_mis b q x y pg pa pg' pa' h0' (by simpa using hk) w hx hy).mono ?_
        rintro e w' ⟨rfl, h1, h2⟩
        obtain ⟨r1, r2⟩ := then_new (w0 := w0) (Gh.le.refl G) (hG.below h2) h2 (fun k hk => .inl hk) hfresh h1 (Gh.cp_none _) (Gh.cp_none _)
        exact ⟨_, _, rfl, by rw [thenC_some, if_pos h0, if_neg hk]; exact r2, r1⟩
    · refine (then_ends b q x.ends.k (by simpa using h0) w hx.c5).mono ?_
      rintro e w' ⟨rfl, rfl⟩
      exact ⟨_, G, rfl, by rw [thenC_some, if_neg h0]; exact .inr ⟨b, x, rfl, rfl, hb⟩, HPost.refl hG⟩
theorem then_all {w0 w : World} {G : Gh} (hG : HG w0 w G) {c d : Option Ca} {pc pd : Option Addr} (hc : G.cp pc c) (hd : G.cp pd d) : Calls Tryz.prog 201 #[.pointer pc, .pointer pd] w (ThenPost w0 w G c d) :=
  then_any w0 _ c d pc pd w G (Nat.le_refl _) hG hc hd
end Go.Proofs.YtnddkmccagiclabGreatDoor

/-
  What the calls of run's accompanied and of a cast's of answer: a value after a cast.
-/
namespace Go.Proofs.YtnddkmccagiclabGreatDoor
open Go.RowKit
/-- A value's cells, laid anew. -/
def valO (k n : Int) (pb ps pi pg pa : Option Addr) (z : Int) : Obj := .cells #[.int .i64 k, .int .i64 n, .pointer pb, .pointer ps, .pointer pi, .pointer pg, .pointer pa, .int .i64 z] 172
theorem valO_at {k n : Int} {pb ps pi pg pa : Option Addr} {z : Int} {w0 w : World} {G : Gh} {W : World} (hW : ∀ i, W.cell? ⟨w.heap.size, i, none⟩ = (w.alloc (valO k n pb ps pi pg pa z)).cell? ⟨w.heap.size, i, none⟩) {v : Val} (ek : v.k = k) (en : v.n = n) (ea : v.as = z) (h3 : v.k = 3 → TmP w0 pb v.body ∧ G.sp ps v.env) (h4 : v.k = 4 ∨ v.k = 5 → ∃ u, v.inn = [u] ∧ G.vp pi u) (hg : G.cp pg v.given) (ha : G.cp pa v.answer) : VAt w0 W G w.heap.size v := by
  refine ⟨pb, ps, pi, pg, pa, ?_, ?_, ?_, ?_, ?_, ?_, ?_, ?_, h3, h4, hg, ha⟩ <;> rw [hW] <;> simp [valO, go_sem, ek, en, ea]
/-- A new value. -/
theorem val_new {w0 w W : World} {G : Gh} (hG : HG w0 w G) (hb : Below w.heap.size w W) {v : Val} (hv : VAt w0 W G w.heap.size v) : HPost w0 w G W (G.addV w.heap.size v) ∧ (G.addV w.heap.size v).vp (some ⟨w.heap.size, 0, none⟩) v := by
  have hd : ¬ G.dom w.heap.size := fun h => by have := hG.lt h; omega
  refine ⟨⟨Gh.le_addV hd, (hG.below hb).addV hd hv, hb, fun b h => ?_⟩, Gh.vp_addV _ _ _⟩
  rcases Gh.dom_addV h with rfl | h
  · exact .inr (Nat.le_refl _)
  · exact .inl h
def ValPost (w0 w : World) (G : Gh) (v : Val) (e : Ending) (w' : World) : Prop := ∃ p H, e = .returned (.pointer p) ∧ H.vp p v ∧ HPost w0 w G w' H
set_option maxRecDepth 20000 in
set_option maxHeartbeats 1000000 in
theorem accomp_plain (f c : Nat) (k : Int) (hk : (k != 4) = true) (pg pa : Option Addr) (w : World) (h0 : w.cell? ⟨f, 0, none⟩ = some (.int .i64 k)) (c8 : w.cell? ⟨c, 8, none⟩ = some (.pointer pg)) (c9 : w.cell? ⟨c, 9, none⟩ = some (.pointer pa)) :
    Calls Tryz.prog 186 #[.pointer (some ⟨f, 0, none⟩), .pointer (some ⟨c, 0, none⟩)] w fun e w' => e = .returned (.pointer (some ⟨w.heap.size, 0, none⟩)) ∧ (∀ i, w'.cell? ⟨w.heap.size, i, none⟩ = (w.alloc (valO 4 0 none none (some ⟨f, 0, none⟩) pg pa 0)).cell? ⟨w.heap.size, i, none⟩) ∧ Below w.heap.size w w' := by
  have lf : f < w.heap.size := World.block_lt_of_cell? _ _ h0
  have lc : c < w.heap.size := World.block_lt_of_cell? _ _ c8
  go_enter Tryz.func186, Tryz.ntmps186
  go_wp2_with fail
  go_region
  all_goals
    go_wp2_with fail
    go_ret
    exact ⟨rfl, fun _ => rfl, ((Below.refl _ _).alloc (Nat.le_refl _) _).drew⟩
set_option maxRecDepth 20000 in
set_option maxHeartbeats 4000000 in
theorem accomp_chap (f c : Nat) (w0 w : World) (G : Gh) (pi pfg pfa pg pa : Option Addr) (xg xa yg ya : Option Ca) (hG : HG w0 w G) (f0 : w.cell? ⟨f, 0, none⟩ = some (.int .i64 4)) (f4 : w.cell? ⟨f, 4, none⟩ = some (.pointer pi)) (f5 : w.cell? ⟨f, 5, none⟩ = some (.pointer pfg)) (f6 : w.cell? ⟨f, 6, none⟩ = some (.pointer pfa)) (c8 : w.cell? ⟨c, 8, none⟩ = some (.pointer pg)) (c9 : w.cell? ⟨c, 9, none⟩ = some (.pointer pa))
    (hxg : G.cp pg xg) (hyg : G.cp pfg yg) (hya : G.cp pfa ya) (hxa : G.cp pa xa) :
    Calls Tryz.prog 186 #[.pointer (some ⟨f, 0, none⟩), .pointer (some ⟨c, 0, none⟩)] w fun e w' => ∃ (w3 : World) (H : Gh) (p1 p2 : Option Addr), e = .returned (.pointer (some ⟨w3.heap.size, 0, none⟩)) ∧ HPost w0 w G w3 H ∧ H.cp p1 (thenC xg yg) ∧ H.cp p2 (thenC ya xa) ∧ (∀ i, w'.cell? ⟨w3.heap.size, i, none⟩ = (w3.alloc (valO 4 0 none none pi p1 p2 0)).cell? ⟨w3.heap.size, i, none⟩) ∧ Below w3.heap.size w3 w' := by
  have lf : f < w.heap.size := World.block_lt_of_cell? _ _ f0
  have lc : c < w.heap.size := World.block_lt_of_cell? _ _ c8
  have HK : Hid (∀ w' : World, Below w.heap.size w w' → (w'.cell? ⟨f, 4, none⟩ = some (.pointer pi) ∧ w'.cell? ⟨f, 5, none⟩ = some (.pointer pfg) ∧ w'.cell? ⟨f, 6, none⟩ = some (.pointer pfa) ∧ w'.cell? ⟨c, 8, none⟩ = some (.pointer pg) ∧ w'.cell? ⟨c, 9, none⟩ = some (.pointer pa))) := fun w' h => ⟨cell_later h f4, cell_later h f5, cell_later h f6, cell_later h c8, cell_later h c9⟩
  have H0 : Hid (Calls Tryz.prog 201 #[.pointer pg, .pointer pfg] w.drew (ThenPost w0 w.drew G xg yg)) := then_all (hG.below ((Below.refl _ _).drew)) hxg hyg
  have H1 : Hid (∀ W H, G.le H → HG w0 W H → Calls Tryz.prog 201 #[.pointer pfa, .pointer pa] W (ThenPost w0 W H ya xa)) := fun W H hl hW => then_all hW (hya.le hl) (hxa.le hl)
  have hbn : Below w.heap.size w w.drew := (Below.refl _ _).drew
  clear hxg hyg hya hxa
  go_enter Tryz.func186, Tryz.ntmps186
  go_wp2_with fail
  clear f4 f5 f6 c8 c9
  go_region_held3 (fun w' => w'.cell? ⟨f, 4, none⟩ = some (.pointer pi) ∧ w'.cell? ⟨f, 5, none⟩ = some (.pointer pfg) ∧ w'.cell? ⟨f, 6, none⟩ = some (.pointer pfa) ∧ w'.cell? ⟨c, 8, none⟩ = some (.pointer pg) ∧ w'.cell? ⟨c, 9, none⟩ = some (.pointer pa))
    (first
      | exact HK.out _ hbn
      | exact HK.out _ (hbn.alloc (by have := hbn.size; omega) _)
      | go_keep)
    (first
      | (go_at_call 201; refine H0.out.mono ?_; rintro e w2 ⟨p1, H2, rfl, hcp1, hp1⟩; replace hbn := hbn.trans (hp1.bel.mono hbn.size); clear H0)
      | (go_at_call 201; refine (H1.out _ H2 hp1.le hp1.hg).mono ?_; rintro e w3 ⟨p2, H3, rfl, hcp2, hp2⟩; replace hbn := hbn.trans (hp2.bel.mono hbn.size); clear H1))
  go_wp2_with fail
  go_ret
  have hs : HPost w0 w G w3 H3 := (HPost.below hG ((Below.refl _ _).drew)).trans (hp1.trans hp2)
  exact ⟨w3, H3, p1, p2, rfl, hs, hcp1.le hp2.le, hcp2, fun _ => rfl, (Below.refl _ _).alloc (Nat.le_refl _) _⟩
/-- accompanied. -/
theorem accomp_any {w0 w : World} {G : Gh} (hG : HG w0 w G) {p q : Option Addr} {f : Val} {c : Ca} (hf : G.vp p f) (hc : G.cp q (some c)) : Calls Tryz.prog 186 #[.pointer p, .pointer q] w (ValPost w0 w G (accompV f c)) := by
  obtain ⟨b, rfl, hb⟩ := hf
  rcases hc with ⟨_, h⟩ | ⟨x, y, rfl, e, hx⟩
  · cases h
  cases e
  obtain ⟨pb, ps, pi, pg, pa, h0, h1, h2, h3, h4, h5, h6, h7, a1, a2, a3, a4⟩ := hG.v b f hb
  obtain ⟨qg, qa, hC, cg, ca⟩ := hG.c x c hx
  by_cases hk : f.k = 4
  · rw [hk] at h0
    obtain ⟨u, hi, hu⟩ := a2 (.inl hk)
    have hcore : f.core = u := by unfold Val.core; rw [hi]; rfl
    refine (accomp_chap b x w0 w G pi pg pa qg qa c.given c.answer f.given f.answer hG h0 h4 h5 h6 hC.c8 hC.c9 cg a3 a4 ca).mono ?_
    rintro e w' ⟨w3, H, p1, p2, rfl, hp, c1, c2, hcell, hb3⟩
    have e1 : accompV f c = chapV u (thenC c.given f.given) (thenC f.answer c.answer) := by unfold accompV; rw [if_pos hk, hcore]
    have hv : VAt w0 w' H w3.heap.size (accompV f c) := by
      rw [e1]
      exact valO_at hcell rfl rfl rfl (fun h => by simp [chapV] at h) (fun _ => ⟨u, rfl, hu.le hp.le⟩) c1 c2
    obtain ⟨r1, r2⟩ := val_new hp.hg hb3 hv
    exact ⟨_, _, rfl, r2, hp.trans r1⟩
  · refine (accomp_plain b x f.k (by simpa using hk) qg qa w h0 hC.c8 hC.c9).mono ?_
    rintro e w' ⟨rfl, hcell, hbb⟩
    have e1 : accompV f c = chapV f c.given c.answer := by unfold accompV; rw [if_neg hk]
    have hv : VAt w0 w' G w.heap.size (accompV f c) := by
      rw [e1]
      exact valO_at hcell rfl rfl rfl (fun h => by simp [chapV] at h) (fun _ => ⟨f, rfl, b, rfl, hb⟩) cg ca
    obtain ⟨r1, r2⟩ := val_new hG hbb hv
    exact ⟨_, _, rfl, r2, r1⟩
set_option maxRecDepth 20000 in
set_option maxHeartbeats 4000000 in
theorem of_walk (c : Nat) (op hi : Bool) (kind : Int) (pg pa p p1 : Option Addr) (w : World) (c0 : w.cell? ⟨c, 0, none⟩ = some (.bool op)) (c4 : w.cell? ⟨c, 4, none⟩ = some (.int .i64 kind)) (c8 : w.cell? ⟨c, 8, none⟩ = some (.pointer pg)) (c9 : w.cell? ⟨c, 9, none⟩ = some (.pointer pa)) (c10 : w.cell? ⟨c, 10, none⟩ = some (.bool hi))
    (hop : op = true → ∃ b, p = some ⟨b, 0, none⟩ ∧ w.cell? ⟨b, 4, none⟩ = some (.pointer p1)) (hnop : op = false → p1 = p) (Z : Option Addr → World → Prop) (hz : pg.isSome = false → pa.isSome = false → Z p1 w) (hc : pg.isSome = true ∨ pa.isSome = true → Calls Tryz.prog 186 #[.pointer p1, .pointer (some ⟨c, 0, none⟩)] w fun e w' => ∃ q, e = .returned (.pointer q) ∧ Z q w' ∧ Below w.heap.size w w') :
    Calls Tryz.prog 158 #[.pointer (some ⟨c, 0, none⟩), .pointer p] w fun e w' => ∃ q W, Z q W ∧ ((hi = false ∧ e = .returned (.pointer q) ∧ w' = W) ∨ (hi = true ∧ e = .returned (.pointer (some ⟨W.heap.size, 0, none⟩)) ∧ w' = W.alloc (valO 5 0 none none q none none kind))) := by
  have lc : c < w.heap.size := World.block_lt_of_cell? _ _ c0
  have HZ : Hid (pg.isSome = false → pa.isSome = false → Z p1 w) := hz
  have HC : Hid (pg.isSome = true ∨ pa.isSome = true → Calls Tryz.prog 186 #[.pointer p1, .pointer (some ⟨c, 0, none⟩)] w fun e w' => ∃ q, e = .returned (.pointer q) ∧ Z q w' ∧ Below w.heap.size w w') := hc
  clear hz hc
  cases op
  · have e := hnop rfl
    subst e
    clear hop hnop
    cases pg with
    | none =>
      cases pa with
      | none =>
        cases hi <;> (go_enter Tryz.func158, Tryz.ntmps158; go_wp2_with fail; go_ret)
        · exact ⟨p1, w, HZ.out rfl rfl, .inl ⟨by trivial, rfl, rfl⟩⟩
        · exact ⟨p1, w, HZ.out rfl rfl, .inr ⟨by trivial, rfl, rfl⟩⟩
      | some a =>
        cases hi
        all_goals
          go_enter Tryz.func158, Tryz.ntmps158
          go_wp2_with fail
          refine (HC.out (.inr rfl)).mono ?_
          rintro e w2 ⟨q, rfl, hZ, hb⟩
          have d4 := cell_later hb c4
          have d10 := cell_later hb c10
          have lc2 : c < w2.heap.size := Nat.lt_of_lt_of_le lc hb.size
          have HZ2 : Hid (Z q w2) := hZ
          clear hZ
          go_wp2_with fail
          go_ret
        · exact ⟨q, w2, HZ2.out, .inl ⟨by trivial, rfl, rfl⟩⟩
        · exact ⟨q, w2, HZ2.out, .inr ⟨by trivial, rfl, rfl⟩⟩
    | some g =>
      cases hi
      all_goals
        go_enter Tryz.func158, Tryz.ntmps158
        go_wp2_with fail
        refine (HC.out (.inl rfl)).mono ?_
        rintro e w2 ⟨q, rfl, hZ, hb⟩
        have d4 := cell_later hb c4
        have d10 := cell_later hb c10
        have lc2 : c < w2.heap.size := Nat.lt_of_lt_of_le lc hb.size
        have HZ2 : Hid (Z q w2) := hZ
        clear hZ
        go_wp2_with fail
        go_ret
      · exact ⟨q, w2, HZ2.out, .inl ⟨by trivial, rfl, rfl⟩⟩
      · exact ⟨q, w2, HZ2.out, .inr ⟨by trivial, rfl, rfl⟩⟩
  · obtain ⟨b, rfl, b4⟩ := hop rfl
    have lb : b < w.heap.size := World.block_lt_of_cell? _ _ b4
    clear hop hnop
    cases pg with
    | none =>
      cases pa with
      | none =>
        cases hi <;> (go_enter Tryz.func158, Tryz.ntmps158; go_wp2_with fail; go_ret)
        · exact ⟨p1, w, HZ.out rfl rfl, .inl ⟨by trivial, rfl, rfl⟩⟩
        · exact ⟨p1, w, HZ.out rfl rfl, .inr ⟨by trivial, rfl, rfl⟩⟩
      | some a =>
        cases hi
        all_goals
          go_enter Tryz.func158, Tryz.ntmps158
          go_wp2_with fail
          refine (HC.out (.inr rfl)).mono ?_
          rintro e w2 ⟨q, rfl, hZ, hb⟩
          have d4 := cell_later hb c4
          have d10 := cell_later hb c10
          have lc2 : c < w2.heap.size := Nat.lt_of_lt_of_le lc hb.size
          have HZ2 : Hid (Z q w2) := hZ
          clear hZ
          go_wp2_with fail
          go_ret
        · exact ⟨q, w2, HZ2.out, .inl ⟨by trivial, rfl, rfl⟩⟩
        · exact ⟨q, w2, HZ2.out, .inr ⟨by trivial, rfl, rfl⟩⟩
    | some g =>
      cases hi
      all_goals
        go_enter Tryz.func158, Tryz.ntmps158
        go_wp2_with fail
        refine (HC.out (.inl rfl)).mono ?_
        rintro e w2 ⟨q, rfl, hZ, hb⟩
        have d4 := cell_later hb c4
        have d10 := cell_later hb c10
        have lc2 : c < w2.heap.size := Nat.lt_of_lt_of_le lc hb.size
        have HZ2 : Hid (Z q w2) := hZ
        clear hZ
        go_wp2_with fail
        go_ret
      · exact ⟨q, w2, HZ2.out, .inl ⟨by trivial, rfl, rfl⟩⟩
      · exact ⟨q, w2, HZ2.out, .inr ⟨by trivial, rfl, rfl⟩⟩
theorem cp_some {G : Gh} {p : Option Addr} {c : Option Ca} (h : G.cp p c) : p.isSome = c.isSome := by
  rcases h with ⟨rfl, rfl⟩ | ⟨b, x, rfl, rfl, _⟩ <;> rfl
/-- of. -/
theorem of_any {w0 w : World} {G : Gh} (hG : HG w0 w G) {p q : Option Addr} {v : Val} {c : Ca} (hv : G.vp p v) (hc : G.cp q (some c)) (ho : c.opens = true → v.k = 5) : Calls Tryz.prog 158 #[.pointer q, .pointer p] w (ValPost w0 w G (ofC c v)) := by
  rcases hc with ⟨_, h⟩ | ⟨x, y, rfl, e, hx⟩
  · cases h
  cases e
  obtain ⟨qg, qa, hC, cg, ca⟩ := hG.c x c hx
  obtain ⟨b, rfl, hb⟩ := hv
  obtain ⟨pb, ps, pi, pg, pa, h0, h1, h2, h3, h4, h5, h6, h7, a1, a2, a3, a4⟩ := hG.v b v hb
  obtain ⟨p1, hp1, hop, hnop⟩ : ∃ p1, G.vp p1 (if c.opens = true then v.core else v) ∧ (c.opens = true → ∃ b', (some ⟨b, 0, none⟩ : Option Addr) = some ⟨b', 0, none⟩ ∧ w.cell? ⟨b', 4, none⟩ = some (.pointer p1)) ∧ (c.opens = false → p1 = some ⟨b, 0, none⟩) := by
    by_cases hop : c.opens = true
    · obtain ⟨u, hi, hu⟩ := a2 (.inr (ho hop))
      have hcore : v.core = u := by unfold Val.core; rw [hi]; rfl
      exact ⟨pi, by rw [if_pos hop, hcore]; exact hu, fun _ => ⟨b, rfl, h4⟩, fun h => by rw [hop] at h; cases h⟩
    · exact ⟨some ⟨b, 0, none⟩, by rw [if_neg hop]; exact ⟨b, rfl, hb⟩, fun h => absurd h hop, fun _ => rfl⟩
  obtain ⟨u, hu⟩ : ∃ u, u = if c.opens = true then v.core else v := ⟨_, rfl⟩
  rw [← hu] at hp1
  obtain ⟨z, hz⟩ : ∃ z, z = if c.given.isSome = true ∨ c.answer.isSome = true then accompV u c else u := ⟨_, rfl⟩
  have e1 : ofC c v = if c.hides = true then knownV z c.kind else z := by
    unfold ofC
    simp only
    rw [← hu, ← hz]
  rw [e1]
  have gg := cp_some cg
  have ga := cp_some ca
  refine (of_walk x c.opens c.hides c.kind qg qa (some ⟨b, 0, none⟩) p1 w hC.c0 hC.c4 hC.c8 hC.c9 hC.c10 hop hnop (fun q W => ∃ H, H.vp q z ∧ HPost w0 w G W H) (fun n1 n2 => ⟨G, ?_, HPost.refl hG⟩) (fun hs => ?_)).mono ?_
  · rw [hz, if_neg (by rw [← gg, ← ga, n1, n2]; simp)]; exact hp1
  · refine (accomp_any hG hp1 (.inr ⟨x, c, rfl, rfl, hx⟩)).mono ?_
    rintro e w' ⟨q, H, rfl, hq, hp⟩
    exact ⟨q, rfl, ⟨H, by rw [hz, if_pos (by rw [← gg, ← ga]; exact hs)]; exact hq, hp⟩, hp.bel⟩
  · rintro e w' ⟨q, W, ⟨H, hq, hp⟩, ⟨hh, rfl, rfl⟩ | ⟨hh, rfl, rfl⟩⟩
    · exact ⟨q, H, rfl, by rw [hh]; exact hq, hp⟩
    · have hb : Below W.heap.size W (W.alloc (valO 5 0 none none q none none c.kind)) := (Below.refl _ _).alloc (Nat.le_refl _) _
      have hvv : VAt w0 (W.alloc (valO 5 0 none none q none none c.kind)) H W.heap.size (knownV z c.kind) := valO_at (fun _ => rfl) rfl rfl rfl (fun h => by simp [knownV] at h) (fun _ => ⟨z, rfl, hq⟩) (Gh.cp_none _) (Gh.cp_none _)
      obtain ⟨r1, r2⟩ := val_new hp.hg hb hvv
      exact ⟨_, _, rfl, by rw [if_pos hh]; exact r2, hp.trans r1⟩
end Go.Proofs.YtnddkmccagiclabGreatDoor

/-
  What the calls of the machine's refer, lookAtBoth, takeNumbers, sum, compare and choose do.
-/
namespace Go.Proofs.YtnddkmccagiclabGreatDoor
open Go.RowKit
/-- A call of the machine's that answers nothing. -/
def StPost (w0 w : World) (M : Nat) (G : Gh) (s : St) (e : Ending) (w' : World) : Prop := e = .returned (.tuple #[]) ∧ ∃ H, G.le H ∧ MS w0 w' M H s ∧ Fr M w w'
theorem StPost.of {w0 w w' : World} {M : Nat} {G : Gh} {s : St} {e : Ending} (he : e = .returned (.tuple #[])) (h : MS w0 w' M G s) (hf : Fr M w w') : StPost w0 w M G s e w' := ⟨he, G, Gh.le.refl G, h, hf⟩
set_option maxRecDepth 20000 in
set_option maxHeartbeats 1000000 in
theorem refer_none {w0 w : World} {M : Nat} {G : Gh} {s : St} (h : MS w0 w M G s) : Calls Tryz.prog 148 #[.pointer (some ⟨M, 0, none⟩), .pointer none] w (StPost w0 w M G (s.stop stuckO)) := by
  have H : Hid (MS w0 w M G s) := h
  clear h
  go_enter Tryz.func148, Tryz.ntmps148
  go_wp2_with fail
  refine (stick_any H.out).mono ?_
  rintro e w' ⟨rfl, h1, h2⟩
  have HE : Hid (StPost w0 w M G (s.stop stuckO) (.returned (.tuple #[])) w') := StPost.of rfl h1 h2
  clear h1 h2
  go_wp2_with fail
  go_end0
  exact HE.out
set_option maxRecDepth 20000 in
set_option maxHeartbeats 1000000 in
theorem refer_some {w0 w : World} {M : Nat} {G : Gh} {s : St} (h : MS w0 w M G s) {b : Nat} {v : Val} (hv : G.vp (some ⟨b, 0, none⟩) v) (hn : s.vs.length + 1 ≤ 1000000000) : Calls Tryz.prog 148 #[.pointer (some ⟨M, 0, none⟩), .pointer (some ⟨b, 0, none⟩)] w (StPost w0 w M G (s.push v)) := by
  have H : Hid (MS w0 w M G s ∧ G.vp (some ⟨b, 0, none⟩) v ∧ s.vs.length + 1 ≤ 1000000000) := ⟨h, hv, hn⟩
  clear h hv hn
  go_enter Tryz.func148, Tryz.ntmps148
  go_wp2_with fail
  refine (keep_any H.out.1 H.out.2.1 H.out.2.2).mono ?_
  rintro e w' ⟨rfl, h1, h2⟩
  have HE : Hid (StPost w0 w M G (s.push v) (.returned (.tuple #[])) w') := StPost.of rfl h1 h2
  clear h1 h2
  go_wp2_with fail
  go_end0
  exact HE.out
/-- A part of a term that lies in memory. -/
theorem TmP.part {w0 : World} {p : Option Addr} {x : Tm} (h : TmP w0 p x) {j : Nat} (hj : j < x.l.length) : ∃ b o lb lo c, p = some ⟨b, o, none⟩ ∧ w0.cell? ⟨b, o + 6, none⟩ = some (.slice (some ⟨lb, lo, none⟩) x.l.length c) ∧ ∀ i, i < x.l.length → TmP w0 (some ⟨lb, lo + i * 7, none⟩) (x.at i) := by
  obtain ⟨b, o, y, rfl, ha, hi, rfl⟩ := h
  have hl : y.tm.l.length = y.l.length := by rw [y.tm_l]; simp
  obtain ⟨lb, lo, ea, _, _⟩ := hi.part j (by omega)
  refine ⟨b, o, lb, lo, y.c, rfl, ?_, fun i hi' => ?_⟩
  · rw [hl, ← ea]; exact ha.c6
  · obtain ⟨lb', lo', ea', h7, hin⟩ := hi.part i (by omega)
    rw [ea] at ea'
    obtain ⟨rfl, rfl⟩ : lb = lb' ∧ lo = lo' := by simpa using ea'
    refine ⟨lb, lo + i * 7, y.l[i], rfl, h7, hin, ?_⟩
    rw [Tm.at_eq (by omega)]
    simp [y.tm_l]
/-- Its numbers. -/
theorem TmP.top {w0 : World} {p : Option Addr} {x : Tm} (h : TmP w0 p x) : ∃ b o, p = some ⟨b, o, none⟩ ∧ w0.cell? ⟨b, o, none⟩ = some (.int .i64 x.k) ∧ w0.cell? ⟨b, o + 1, none⟩ = some (.int .i64 x.n) := by
  obtain ⟨b, o, y, rfl, ha, hi, rfl⟩ := h
  exact ⟨b, o, rfl, by rw [y.tm_k]; exact ha.c0, by rw [y.tm_n]; exact ha.c1⟩
theorem TkP.look {w0 : World} {G : Gh} {p q : Option Addr} {x : Tm} {e : List Val} (h : TmP w0 p x) (hs : G.sp q e) : TkP w0 G (lookT x e) 1 p q none := ⟨rfl, fun _ => ⟨h, hs⟩, Gh.cp_none _⟩
theorem TkP.do_ {w0 : World} {G : Gh} (d : Int) (h1 : d ≠ 1) (h4 : d ≠ 4) : TkP w0 G (doT d) (dOf d) none none none := ⟨rfl, fun h => by rcases h with h | h; exact absurd h h1; exact absurd h h4, Gh.cp_none _⟩
theorem TkP.choose {w0 : World} {G : Gh} {p q : Option Addr} {x : Tm} {e : List Val} (h : TmP w0 p x) (hs : G.sp q e) : TkP w0 G (chooseT x e) 4 p q none := ⟨rfl, fun _ => ⟨h, hs⟩, Gh.cp_none _⟩
theorem TkP.change {w0 : World} {G : Gh} {p : Option Addr} {c : Option Ca} (h : G.cp p c) : TkP w0 G (changeT c) 6 none none p := ⟨rfl, fun h => by rcases h with h | h <;> simp [changeT] at h, h⟩
set_option maxRecDepth 20000 in
set_option maxHeartbeats 1000000 in
theorem both_any {w0 w : World} {M : Nat} {G : Gh} {s : St} (h : MS w0 w M G s) {p q : Option Addr} {x : Tm} {e : List Val} (hx : TmP w0 p x) (hs : G.sp q e) (hl : x.l.length = 2) (d : Int) (hd : d = 2 ∨ d = 3 ∨ d = 5) (hn : s.ts.length + 3 ≤ 1000000000) : Calls Tryz.prog 152 #[.pointer (some ⟨M, 0, none⟩), .pointer p, .pointer q, .int .i64 d] w (StPost w0 w M G (bothS s x e d)) := by
  obtain ⟨b, o, lb, lo, c, rfl, c6, hp⟩ := hx.part (j := 0) (by omega)
  rw [hl] at c6
  have lb0 : b < w0.heap.size := World.block_lt_of_cell? _ _ c6
  have hd' : dOf d = d := by unfold dOf; rw [if_neg (by omega)]
  have H : Hid (MS w0 w M G s ∧ G.sp q e ∧ TmP w0 (some ⟨lb, lo + 7, none⟩) (x.at 1) ∧ TmP w0 (some ⟨lb, lo, none⟩) (x.at 0) ∧ TkP w0 G (doT d) d none none none ∧ s.ts.length + 3 ≤ 1000000000 ∧ w0.cell? ⟨b, o + 6, none⟩ = some (.slice (some ⟨lb, lo, none⟩) 2 c)) := ⟨h, hs, by simpa using hp 1 (by omega), by simpa using hp 0 (by omega), by have := TkP.do_ (w0 := w0) (G := G) d (by omega) (by omega); rwa [hd'] at this, hn, c6⟩
  clear hs hp hn hd hd' hl hx c6 h
  go_enter Tryz.func152, Tryz.ntmps152
  go_wp2_with fail
  refine (plan_any H.out.1 H.out.2.2.2.2.1 (by have := H.out.2.2.2.2.2.1; omega)).mono ?_
  rintro e' w1 ⟨rfl, h1, f1⟩
  have k1 := cell_later h1.bel H.out.2.2.2.2.2.2
  have l1 : b < w1.heap.size := World.block_lt_of_cell? _ _ k1
  have H1 : Hid (MS w0 w1 M G (s.plan (doT d)) ∧ Fr M w w1) := ⟨h1, f1⟩
  clear h1 f1
  go_wp2_with fail
  refine (plan_any H1.out.1 (TkP.look H.out.2.2.1 H.out.2.1) (by have := H.out.2.2.2.2.2.1; simp only [St.plan, List.length_cons]; omega)).mono ?_
  rintro e' w2 ⟨rfl, h2, f2⟩
  have k2 := cell_later h2.bel H.out.2.2.2.2.2.2
  have l2 : b < w2.heap.size := World.block_lt_of_cell? _ _ k2
  have H2 : Hid (MS w0 w2 M G ((s.plan (doT d)).plan (lookT (x.at 1) e)) ∧ Fr M w w2) := ⟨h2, H1.out.2.trans f2⟩
  clear h2 f2 k1 l1
  go_wp2_with fail
  refine (plan_any H2.out.1 (TkP.look H.out.2.2.2.1 H.out.2.1) (by have := H.out.2.2.2.2.2.1; simp only [St.plan, List.length_cons]; omega)).mono ?_
  rintro e' w3 ⟨rfl, h3, f3⟩
  have HE : Hid (StPost w0 w M G (bothS s x e d) (.returned (.tuple #[])) w3) := StPost.of rfl h3 (H2.out.2.trans f3)
  clear h3 f3 k2 l2
  go_wp2_with fail
  go_end0
  exact HE.out
/-- A value's first two cells. -/
theorem vp_top {w0 w : World} {G : Gh} (h : HG w0 w G) {p : Option Addr} {v : Val} (hv : G.vp p v) : ∃ b, p = some ⟨b, 0, none⟩ ∧ w.cell? ⟨b, 0, none⟩ = some (.int .i64 v.k) ∧ w.cell? ⟨b, 1, none⟩ = some (.int .i64 v.n) ∧ b < w.heap.size := by
  obtain ⟨b, rfl, hb⟩ := hv
  obtain ⟨pb, ps, pi, pg, pa, h0, h1, _⟩ := h.v b v hb
  exact ⟨b, rfl, h0, h1, World.block_lt_of_cell? _ _ h0⟩
set_option maxRecDepth 20000 in
set_option maxHeartbeats 2000000 in
theorem numbers_raw {w0 w : World} {M : Nat} {G : Gh} {ts : List Task} {u v : Val} {r : List Val} {ca fu : Nat} {en en' : Out} (h : MS w0 w M G ⟨ts, v :: u :: r, ca, fu, en⟩) (hn : r.length + 1 ≤ 1000000000) (he : en' = if u.k = 1 ∧ v.k = 1 then en else stuckO) :
    Calls Tryz.prog 153 #[.pointer (some ⟨M, 0, none⟩)] w fun e w' => e = .returned (.tuple #[.int .i64 u.n, .int .i64 v.n]) ∧ MS w0 w' M G ⟨ts, r, ca, fu, en'⟩ ∧ Fr M w w' := by
  have H : Hid (MS w0 w M G ⟨ts, v :: u :: r, ca, fu, en⟩ ∧ r.length + 1 ≤ 1000000000) := ⟨h, hn⟩
  have HI : Hid (en' = if u.k = 1 ∧ v.k = 1 then en else stuckO) := he
  clear h hn he
  go_enter Tryz.func153, Tryz.ntmps153
  go_wp2_with fail
  refine (take_any' H.out.1 rfl (by have := H.out.2; simp only [List.length_cons]; omega)).mono ?_
  rintro e w1 ⟨p1, rfl, hv1, h1, f1⟩
  have H1 : Hid (MS w0 w1 M G ⟨ts, u :: r, ca, fu, en⟩ ∧ G.vp p1 v ∧ Fr M w w1) := ⟨h1, hv1, f1⟩
  clear hv1 h1 f1
  go_wp2_with fail
  refine (take_any' H1.out.1 rfl (by have := H.out.2; omega)).mono ?_
  rintro e w2 ⟨p2, rfl, hv2, h2, f2⟩
  obtain ⟨b2, rfl, u0, u1, lu⟩ := vp_top h2.hg hv2
  obtain ⟨b1, rfl, v0, v1, lv⟩ := vp_top h2.hg H1.out.2.1
  have H2 : Hid (MS w0 w2 M G ⟨ts, r, ca, fu, en⟩ ∧ Fr M w w2 ∧ G.vp (some ⟨b2, 0, none⟩) u ∧ G.vp (some ⟨b1, 0, none⟩) v) := ⟨h2, H1.out.2.2.trans f2, hv2, H1.out.2.1⟩
  clear h2 f2 hv2 H H1
  have good : ∀ n, u.k = 1 → v.k = 1 → MS w0 (w2.drewN n) M G ⟨ts, r, ca, fu, en'⟩ ∧ Fr M w (w2.drewN n) := fun n hu hv => by
    rw [HI.out, if_pos ⟨hu, hv⟩]
    have hb := below_rN (Below.refl w2.heap.size w2) n
    exact ⟨H2.out.1.below hb, H2.out.2.1.trans (Fr.below hb H2.out.1.lt)⟩
  have HB : Hid (¬ (u.k = 1 ∧ v.k = 1) → Calls Tryz.prog 154 #[.pointer (some ⟨M, 0, none⟩)] w2 fun e w' => e = .returned (.tuple #[]) ∧ MS w0 w' M G ⟨ts, r, ca, fu, en'⟩ ∧ Fr M w w') := fun hn => by
    refine (stick_any H2.out.1).mono ?_
    rintro e w' ⟨rfl, h1, f1⟩
    rw [HI.out, if_neg hn]
    exact ⟨rfl, h1, H2.out.2.1.trans f1⟩
  have HGd : Hid (∀ n, u.k = 1 → v.k = 1 → MS w0 (w2.drewN n) M G ⟨ts, r, ca, fu, en'⟩ ∧ Fr M w (w2.drewN n)) := good
  clear good
  by_cases hu : u.k = 1
  · by_cases hv : v.k = 1
    · have HV : Hid (u.k = 1 ∧ v.k = 1) := ⟨hu, hv⟩
      rw [hu] at u0
      rw [hv] at v0
      clear hu hv
      go_wp2_with fail
      go_quiet (fail)
      go_wp2_with fail
      refine bodyPost_ret (v := .tuple #[.int .i64 u.n, .int .i64 v.n]) (by simp [results, Tryz.results153, go_sem]) rfl ⟨rfl, HGd.out _ HV.out.1 HV.out.2⟩
    · have HV : Hid (¬ (u.k = 1 ∧ v.k = 1)) := fun h => hv h.2
      have hv' : (v.k != 1) = true := by simpa using hv
      rw [hu] at u0
      clear hu hv
      go_wp2_with fail
      refine (HB.out HV.out).mono ?_
      rintro e w3 ⟨rfl, h3, f3⟩
      have y1 := (vp_top h3.hg H2.out.2.2.1)
      have y2 := (vp_top h3.hg H2.out.2.2.2)
      obtain ⟨_, e1, _, u1', lu'⟩ := y1
      obtain ⟨_, e2, _, v1', lv'⟩ := y2
      cases e1
      cases e2
      have H3 : Hid (MS w0 w3 M G ⟨ts, r, ca, fu, en'⟩ ∧ Fr M w w3) := ⟨h3, f3⟩
      clear h3 f3
      go_wp2_with fail
      go_quiet (fail)
      go_wp2_with fail
      have hb := below_rN (Below.refl w3.heap.size w3) nq
      refine bodyPost_ret (v := .tuple #[.int .i64 u.n, .int .i64 v.n]) (by simp [results, Tryz.results153, go_sem]) rfl ⟨rfl, H3.out.1.below hb, H3.out.2.trans (Fr.below hb H3.out.1.lt)⟩
  · have HV : Hid (¬ (u.k = 1 ∧ v.k = 1)) := fun h => hu h.1
    have hu' : (u.k != 1) = true := by simpa using hu
    clear hu
    go_wp2_with fail
    refine (HB.out HV.out).mono ?_
    rintro e w3 ⟨rfl, h3, f3⟩
    have y1 := (vp_top h3.hg H2.out.2.2.1)
    have y2 := (vp_top h3.hg H2.out.2.2.2)
    obtain ⟨_, e1, _, u1', lu'⟩ := y1
    obtain ⟨_, e2, _, v1', lv'⟩ := y2
    cases e1
    cases e2
    have H3 : Hid (MS w0 w3 M G ⟨ts, r, ca, fu, en'⟩ ∧ Fr M w w3) := ⟨h3, f3⟩
    clear h3 f3
    go_wp2_with fail
    go_quiet (fail)
    go_wp2_with fail
    have hb := below_rN (Below.refl w3.heap.size w3) nq
    refine bodyPost_ret (v := .tuple #[.int .i64 u.n, .int .i64 v.n]) (by simp [results, Tryz.results153, go_sem]) rfl ⟨rfl, H3.out.1.below hb, H3.out.2.trans (Fr.below hb H3.out.1.lt)⟩
/-- A value is made and kept. -/
theorem val_keep {w0 w W : World} {M : Nat} {G : Gh} {s : St} (h : MS w0 w M G s) {v : Val} (hb : Below w.heap.size w W) (hv : VAt w0 W G w.heap.size v) (hn : s.vs.length + 1 ≤ 1000000000) :
    Calls Tryz.prog 150 #[.pointer (some ⟨M, 0, none⟩), .pointer (some ⟨w.heap.size, 0, none⟩)] W (fun e w' => e = .returned (.tuple #[]) ∧ ∃ H, G.le H ∧ MS w0 w' M H (s.push v) ∧ Fr M w w') := by
  obtain ⟨r1, r2⟩ := val_new h.hg hb hv
  obtain ⟨m1, m2⟩ := h.post r1
  refine (keep_any m1 r2 hn).mono ?_
  rintro e w' ⟨rfl, h1, h2⟩
  exact ⟨rfl, _, r1.le, h1, m2.trans h2⟩
theorem val_num {w0 w : World} {G : Gh} (n : Int) : VAt w0 (w.alloc (valO 1 n none none none none none 0)) G w.heap.size (numV n) := valO_at (fun _ => rfl) rfl rfl rfl (fun h => by simp [numV] at h) (fun h => by simp [numV] at h) (Gh.cp_none _) (Gh.cp_none _)
theorem val_truth {w0 w : World} {G : Gh} (n : Int) : VAt w0 (w.alloc (valO 2 n none none none none none 0)) G w.heap.size (truthV n) := valO_at (fun _ => rfl) rfl rfl rfl (fun h => by simp [truthV] at h) (fun h => by simp [truthV] at h) (Gh.cp_none _) (Gh.cp_none _)
set_option maxRecDepth 20000 in
set_option maxHeartbeats 2000000 in
theorem sum_raw {w0 w : World} {M : Nat} {G : Gh} {ts : List Task} {u v : Val} {r : List Val} {ca fu : Nat} {en en' : Out} (h : MS w0 w M G ⟨ts, v :: u :: r, ca, fu, en⟩) (hn : r.length + 1 ≤ 1000000000) (he : en' = if u.k = 1 ∧ v.k = 1 then en else stuckO) (hu : -1000000 ≤ u.n ∧ u.n ≤ 1000000) (hv : -1000000 ≤ v.n ∧ v.n ≤ 1000000) :
    Calls Tryz.prog 112 #[.pointer (some ⟨M, 0, none⟩)] w (StPost w0 w M G ⟨ts, numV (clampI (u.n + v.n)) :: r, ca, fu, en'⟩) := by
  have H : Hid (Calls Tryz.prog 153 #[.pointer (some ⟨M, 0, none⟩)] w fun e w' => e = .returned (.tuple #[.int .i64 u.n, .int .i64 v.n]) ∧ MS w0 w' M G ⟨ts, r, ca, fu, en'⟩ ∧ Fr M w w') := numbers_raw h hn he
  clear h he
  obtain ⟨a, ha⟩ : ∃ a, a = u.n := ⟨_, rfl⟩
  obtain ⟨b, hb⟩ : ∃ b, b = v.n := ⟨_, rfl⟩
  rw [← ha] at hu H ⊢
  rw [← hb] at hv H ⊢
  clear ha hb
  obtain ⟨a1, a2⟩ := hu
  obtain ⟨b1, b2⟩ := hv
  go_enter Tryz.func112, Tryz.ntmps112
  go_wp2_with fail
  refine H.out.mono ?_
  rintro e w1 ⟨rfl, h1, f1⟩
  have HK : Hid (∀ X, X = clampI (a + b) → Calls Tryz.prog 150 #[.pointer (some ⟨M, 0, none⟩), .pointer (some ⟨w1.heap.size, 0, none⟩)] (w1.alloc (valO 1 X none none none none none 0)) (fun e w' => e = .returned (.tuple #[]) ∧ Hid (StPost w0 w M G ⟨ts, numV (clampI (a + b)) :: r, ca, fu, en'⟩ (.returned (.tuple #[])) w'))) := by
    intro X hX
    subst hX
    refine (val_keep h1 ((Below.refl _ _).alloc (Nat.le_refl _) _) (val_num _) hn).mono ?_
    rintro e w' ⟨rfl, H', hl, h2, f2⟩
    exact ⟨rfl, rfl, H', hl, h2, f1.trans f2⟩
  clear h1 f1 hn H
  go_wp2_with fail
  all_goals
    refine (HK.out _ (by unfold clampI; omega)).mono ?_
    rintro e w2 ⟨rfl, HE⟩
    go_wp2_with fail
    go_end0
    exact HE.out
set_option maxRecDepth 20000 in
set_option maxHeartbeats 2000000 in
theorem compare_raw {w0 w : World} {M : Nat} {G : Gh} {ts : List Task} {u v : Val} {r : List Val} {ca fu : Nat} {en en' : Out} (h : MS w0 w M G ⟨ts, v :: u :: r, ca, fu, en⟩) (hn : r.length + 1 ≤ 1000000000) (he : en' = if u.k = 1 ∧ v.k = 1 then en else stuckO) :
    Calls Tryz.prog 113 #[.pointer (some ⟨M, 0, none⟩)] w (StPost w0 w M G ⟨ts, truthV (if u.n < v.n then 1 else 0) :: r, ca, fu, en'⟩) := by
  have H : Hid (Calls Tryz.prog 153 #[.pointer (some ⟨M, 0, none⟩)] w fun e w' => e = .returned (.tuple #[.int .i64 u.n, .int .i64 v.n]) ∧ MS w0 w' M G ⟨ts, r, ca, fu, en'⟩ ∧ Fr M w w') := numbers_raw h hn he
  clear h he
  obtain ⟨a, ha⟩ : ∃ a, a = u.n := ⟨_, rfl⟩
  obtain ⟨b, hb⟩ : ∃ b, b = v.n := ⟨_, rfl⟩
  rw [← ha] at H ⊢
  rw [← hb] at H ⊢
  clear ha hb
  obtain ⟨z, hz⟩ : ∃ z : Int, z = if a < b then 1 else 0 := ⟨_, rfl⟩
  rw [← hz]
  have HK : Hid (∀ w1 X, MS w0 w1 M G ⟨ts, r, ca, fu, en'⟩ → Fr M w w1 → X = z → Calls Tryz.prog 150 #[.pointer (some ⟨M, 0, none⟩), .pointer (some ⟨w1.heap.size, 0, none⟩)] (w1.alloc (valO 2 X none none none none none 0)) (fun e w' => e = .returned (.tuple #[]) ∧ Hid (StPost w0 w M G ⟨ts, truthV z :: r, ca, fu, en'⟩ (.returned (.tuple #[])) w'))) := by
    intro w1 X h1 f1 hX
    subst hX
    refine (val_keep h1 ((Below.refl _ _).alloc (Nat.le_refl _) _) (val_truth _) hn).mono ?_
    rintro e w' ⟨rfl, H', hl, h2, f2⟩
    exact ⟨rfl, rfl, H', hl, h2, f1.trans f2⟩
  by_cases hlt : a < b
  · have HZ : Hid (1 = z) := by rw [hz, if_pos hlt]; rfl
    have hd : decide (a < b) = true := by simpa using hlt
    clear hz hn
    go_enter Tryz.func113, Tryz.ntmps113
    go_wp2_with fail
    refine H.out.mono ?_
    rintro e w1 ⟨rfl, h1, f1⟩
    have H1 : Hid (MS w0 w1 M G ⟨ts, r, ca, fu, en'⟩ ∧ Fr M w w1) := ⟨h1, f1⟩
    clear h1 f1
    go_wp2_with fail
    refine (HK.out w1 _ H1.out.1 H1.out.2 HZ.out).mono ?_
    rintro e w2 ⟨rfl, HE⟩
    go_wp2_with fail
    go_end0
    exact HE.out
  · have HZ : Hid (0 = z) := by rw [hz, if_neg hlt]; rfl
    have hd : decide (a < b) = false := by simpa using hlt
    clear hz hn
    go_enter Tryz.func113, Tryz.ntmps113
    go_wp2_with fail
    refine H.out.mono ?_
    rintro e w1 ⟨rfl, h1, f1⟩
    have H1 : Hid (MS w0 w1 M G ⟨ts, r, ca, fu, en'⟩ ∧ Fr M w w1) := ⟨h1, f1⟩
    clear h1 f1
    go_wp2_with fail
    refine (HK.out w1 _ H1.out.1 H1.out.2 HZ.out).mono ?_
    rintro e w2 ⟨rfl, HE⟩
    go_wp2_with fail
    go_end0
    exact HE.out
set_option maxRecDepth 20000 in
set_option maxHeartbeats 2000000 in
theorem choose_raw {w0 w : World} {M : Nat} {G : Gh} {ts : List Task} {v : Val} {r : List Val} {ca fu : Nat} {en : Out} (h : MS w0 w M G ⟨ts, v :: r, ca, fu, en⟩) (hr : r.length ≤ 1000000000) (hn : ts.length + 1 ≤ 1000000000) {p q : Option Addr} {x : Tm} {e : List Val} (hx : TmP w0 p x) (hs : G.sp q e) (hl : x.l.length = 3) :
    Calls Tryz.prog 114 #[.pointer (some ⟨M, 0, none⟩), .pointer p, .pointer q] w (StPost w0 w M G (if v.k = 2 then (St.plan ⟨ts, r, ca, fu, en⟩ (lookT (x.at (if v.n = 1 then 1 else 2)) e)) else St.stop ⟨ts, r, ca, fu, en⟩ stuckO)) := by
  obtain ⟨b, o, lb, lo, c, rfl, c6, hp⟩ := hx.part (j := 0) (by omega)
  rw [hl] at c6
  have H : Hid (Calls Tryz.prog 75 #[.pointer (some ⟨M, 0, none⟩)] w fun e w' => ∃ p, e = .returned (.pointer p) ∧ G.vp p v ∧ MS w0 w' M G ⟨ts, r, ca, fu, en⟩ ∧ Fr M w w') := take_any' h rfl hr
  have HT : Hid (G.sp q e ∧ TmP w0 (some ⟨lb, lo + 7, none⟩) (x.at 1) ∧ TmP w0 (some ⟨lb, lo + 14, none⟩) (x.at 2) ∧ ts.length + 1 ≤ 1000000000 ∧ w0.cell? ⟨b, o + 6, none⟩ = some (.slice (some ⟨lb, lo, none⟩) 3 c)) := ⟨hs, by simpa using hp 1 (by omega), by simpa using hp 2 (by omega), hn, c6⟩
  clear h hx hs hp c6 hn hr
  obtain ⟨S', hS⟩ : ∃ S', S' = (if v.k = 2 then (St.plan ⟨ts, r, ca, fu, en⟩ (lookT (x.at (if v.n = 1 then 1 else 2)) e)) else St.stop ⟨ts, r, ca, fu, en⟩ stuckO) := ⟨_, rfl⟩
  rw [← hS]
  have HS : Hid (S' = (if v.k = 2 then (St.plan ⟨ts, r, ca, fu, en⟩ (lookT (x.at (if v.n = 1 then 1 else 2)) e)) else St.stop ⟨ts, r, ca, fu, en⟩ stuckO)) := hS
  clear hS hl
  go_enter Tryz.func114, Tryz.ntmps114
  go_wp2_with fail
  refine H.out.mono ?_
  rintro e' w1 ⟨p1, rfl, hv1, h1, f1⟩
  obtain ⟨b1, rfl, v0, v1, lv⟩ := vp_top h1.hg hv1
  have k6 := cell_later h1.bel HT.out.2.2.2.2
  have lb6 : b < w1.heap.size := World.block_lt_of_cell? _ _ k6
  have H1 : Hid (MS w0 w1 M G ⟨ts, r, ca, fu, en⟩ ∧ Fr M w w1) := ⟨h1, f1⟩
  clear h1 f1 hv1 H
  by_cases hk : v.k = 2
  · rw [hk] at v0
    by_cases hn : v.n = 1
    · rw [hn] at v1
      have HS' : Hid (S' = St.plan ⟨ts, r, ca, fu, en⟩ (lookT (x.at 1) e)) := by rw [HS.out, if_pos hk, if_pos hn]; rfl
      clear hk hn HS
      go_wp2_with fail
      refine (plan_any H1.out.1 (TkP.look HT.out.2.1 HT.out.1) HT.out.2.2.2.1).mono ?_
      rintro e' w2 ⟨rfl, h2, f2⟩
      have HE : Hid (StPost w0 w M G S' (.returned (.tuple #[])) w2) := by rw [HS'.out]; exact StPost.of rfl h2 (H1.out.2.trans f2)
      clear h2 f2
      go_wp2_with fail
      go_end0
      exact HE.out
    · have hn' : (v.n == 1) = false := by simpa using hn
      have HS' : Hid (S' = St.plan ⟨ts, r, ca, fu, en⟩ (lookT (x.at 2) e)) := by rw [HS.out, if_pos hk, if_neg hn]; rfl
      clear hk hn HS
      go_wp2_with fail
      refine (plan_any H1.out.1 (TkP.look HT.out.2.2.1 HT.out.1) HT.out.2.2.2.1).mono ?_
      rintro e' w2 ⟨rfl, h2, f2⟩
      have HE : Hid (StPost w0 w M G S' (.returned (.tuple #[])) w2) := by rw [HS'.out]; exact StPost.of rfl h2 (H1.out.2.trans f2)
      clear h2 f2
      go_wp2_with fail
      go_end0
      exact HE.out
  · have hk' : (v.k != 2) = true := by simpa using hk
    have HS' : Hid (S' = St.stop ⟨ts, r, ca, fu, en⟩ stuckO) := by rw [HS.out, if_neg hk]; rfl
    clear hk HS
    go_wp2_with fail
    refine (stick_any H1.out.1).mono ?_
    rintro e' w2 ⟨rfl, h2, f2⟩
    have HE : Hid (StPost w0 w M G S' (.returned (.tuple #[])) w2) := by rw [HS'.out]; exact StPost.of rfl h2 (H1.out.2.trans f2)
    clear h2 f2
    go_wp2_with fail
    go_end0
    exact HE.out
end Go.Proofs.YtnddkmccagiclabGreatDoor
