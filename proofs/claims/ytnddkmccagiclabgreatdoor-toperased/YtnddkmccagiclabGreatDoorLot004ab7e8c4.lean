/-
  Rows of terms that a call makes longer, in blocks of a kind; the frame of chaperonekeep.loose; no program's run in it.
-/
import Derived.Test.YtnddkmccagiclabGreatDoorLote4eae94a44
import Derived.Test.YtnddkmccagiclabGreatDoorLot4dc51dc1b2
import Derived.Deep.DeepCutAuto
import Derived.Deep.LoopGhost
import Derived.Test.YtnddkmccagiclabGreatDoorLotabeb265aa8
namespace Go.Proofs.YtnddkmccagiclabGreatDoor
open Go.RowKit
structure RowT (Q : Nat → Prop) (base : Nat) (v : Value) (cs : List TT) (w : World) : Prop where
  own : w.ownsRow base 27 7 v cs.length (cells7 cs)
  ins : ∀ c, c ∈ cs → c.In w ∧ c.Bl (fun b => Q b ∧ some b ≠ v.ownBlock)
theorem RowT.nil (Q : Nat → Prop) (base : Nat) (w : World) : RowT Q base (.slice none 0 0) [] w := ⟨World.ownsRow_nil _ _ _ _, fun c h => by cases h⟩
theorem RowT.below {Q : Nat → Prop} {base : Nat} {v : Value} {cs : List TT} {w w' : World} (h : RowT Q base v cs w) (hb : Below w.heap.size w w') : RowT Q base v cs w' := by
  refine ⟨⟨h.own.1, ?_⟩, fun c hc => ⟨(h.ins c hc).1.below hb, (h.ins c hc).2⟩⟩
  rcases h.own.2 with hn | ⟨g, cap, cur, hv, hb', hg, rest⟩
  · exact .inl hn
  · exact .inr ⟨g, cap, cur, hv, hb', (hb.block g (Array.getElem?_eq_some_iff.1 hg).1).trans hg, rest⟩
theorem RowT.lt {Q : Nat → Prop} {base : Nat} {v : Value} {cs : List TT} {w : World} (h : RowT Q base v cs w) (k : Nat) (hk : v.ownBlock = some k) : base ≤ k ∧ k < w.heap.size := h.own.lt k hk
/-- One more. -/
theorem RowT.step {Q : Nat → Prop} {base : Nat} {v : Value} {cs : List TT} {w2 w3 : World} {c : TT} {gg cap1 : Nat} {X : Obj} (h : RowT Q base v cs w2) (hi : c.In w2) (hb : c.Bl (fun b => Q b ∧ some b ≠ v.ownBlock))
    (hown : w3.ownsRow base 27 7 (.slice (some ⟨gg, 0, none⟩) (cs.length + 1) cap1) (cs.length + 1) (cells7 cs ++ cells7 [c])) (hgrow : (w2.alloc X).grownBy w3 v.ownBlock) (hat : v.ownBlock = some gg ∨ gg = w2.heap.size + 1) :
    RowT Q base (.slice (some ⟨gg, 0, none⟩) (cs.length + 1) cap1) (cs ++ [c]) w3 ∧ ∀ k, k < w2.heap.size → some k ≠ v.ownBlock → w3.heap[k]? = w2.heap[k]? := by
  have hblk : ∀ k, k < w2.heap.size → some k ≠ v.ownBlock → w3.heap[k]? = w2.heap[k]? := fun k hk hn => by
    rw [hgrow.block k (by simp; omega) hn]
    exact ((Below.refl _ w2).alloc (Nat.le_refl _) X).block k hk
  refine ⟨⟨by rw [cells7_append, List.length_append, List.length_singleton]; exact hown, fun d hd => ?_⟩, hblk⟩
  have key : d.In w2 ∧ d.Bl (fun b => Q b ∧ some b ≠ v.ownBlock) := by
    rcases List.mem_append.1 hd with hd | hd
    · exact h.ins d hd
    · rcases List.mem_singleton.1 hd with rfl
      exact ⟨hi, hb⟩
  have hne : ∀ b, b < w2.heap.size ∧ (Q b ∧ some b ≠ v.ownBlock) → Q b ∧ some b ≠ (Value.slice (some ⟨gg, 0, none⟩) (cs.length + 1) cap1).ownBlock := by
    intro b hb
    refine ⟨hb.2.1, ?_⟩
    show some b ≠ some gg
    rcases hat with e | e
    · rw [← e]; exact hb.2.2
    · simp only [ne_eq, Option.some.injEq]; omega
  have hsame : ∀ b, b < w2.heap.size ∧ (Q b ∧ some b ≠ v.ownBlock) → ∀ i, w3.cell? ⟨b, i, none⟩ = w2.cell? ⟨b, i, none⟩ := fun b hb i =>
    World.cell?_of_block (a := ⟨b, i, none⟩) (hblk b hb.1 hb.2.2)
  have y3 := key.1.bl.and key.2
  exact ⟨key.1.congr (P := fun b => b < w2.heap.size ∧ (Q b ∧ some b ≠ v.ownBlock)) hsame y3, y3.mono hne⟩
/-- A row that the call owns is a term's list. -/
theorem RowT.list {Q : Nat → Prop} {base : Nat} {v : Value} {cs : List TT} {w : World} (h : RowT Q base v cs w) : ∃ a c, v = .slice a cs.length c ∧ (∀ j (hj : j < cs.length), ∃ b o, a = some ⟨b, o, none⟩ ∧ At7 w b (o + j * 7) cs[j]) ∧ (∀ y, cs ≠ [] → a = some y → base ≤ y.block) := by
  rcases h.own.2 with ⟨rfl, h0⟩ | ⟨g, cap, cur, rfl, hg, _⟩
  · have : cs = [] := List.length_eq_zero_iff.1 h0
    subst this
    exact ⟨none, 0, rfl, fun j hj => absurd hj (by simp), fun y h => absurd rfl h⟩
  · refine ⟨_, _, rfl, fun j hj => ⟨g, 0, rfl, ?_⟩, fun y _ hy => by cases hy; exact hg⟩
    have hc : ∀ i, i < 7 → w.cell? ⟨g, 0 + j * 7 + i, none⟩ = _ := fun i hi => by rw [Nat.zero_add, h.own.cellAt (j * 7 + i) (by omega), cells7_at cs j hj i hi]
    exact ⟨hc 0 (by omega), hc 1 (by omega), hc 2 (by omega), hc 3 (by omega), hc 4 (by omega), hc 5 (by omega), hc 6 (by omega)⟩
/-- The frame of loose: the term's box, the place of the answer. -/
structure LF (H : Nat) (x : TT) (W : World) : Prop where
  b : Box7 W H x
  z : ZB7 W (H + 1)
theorem LF.lt {H : Nat} {x : TT} {W : World} (h : LF H x W) : H + 1 < W.heap.size := h.z.lt
theorem LF.below {H : Nat} {x : TT} {W W' : World} (h : LF H x W) (hb : Below W.heap.size W W') : LF H x W' := ⟨h.b.below hb, h.z.later hb⟩
theorem LF.far {H : Nat} {x : TT} {W W' : World} (h : LF H x W) (h1 : W'.heap[H]? = W.heap[H]?) (h2 : W'.heap[H + 1]? = W.heap[H + 1]?) : LF H x W' := by
  have c1 : ∀ i, W'.cell? ⟨H, i, none⟩ = W.cell? ⟨H, i, none⟩ := fun i => World.cell?_of_block (a := ⟨H, i, none⟩) h1
  have c2 : ∀ i, W'.cell? ⟨H + 1, i, none⟩ = W.cell? ⟨H + 1, i, none⟩ := fun i => World.cell?_of_block (a := ⟨H + 1, i, none⟩) h2
  have f1 : ∀ i, W'.frozen? ⟨H, i, none⟩ = W.frozen? ⟨H, i, none⟩ := fun i => World.frozen?_of_block (a := ⟨H, i, none⟩) h1
  have f2 : ∀ i, W'.frozen? ⟨H + 1, i, none⟩ = W.frozen? ⟨H + 1, i, none⟩ := fun i => World.frozen?_of_block (a := ⟨H + 1, i, none⟩) h2
  obtain ⟨⟨y0, y1, y2, y3, y4, y5, y6⟩, g0, g1, g2, g3, g4, g5, g6⟩ := h.z
  exact ⟨⟨h.b.at7.of c1, fun i hi => (f1 i).trans (h.b.fz i hi)⟩, ⟨(c2 0).trans y0, (c2 1).trans y1, (c2 2).trans y2, (c2 3).trans y3, (c2 4).trans y4, (c2 5).trans y5, (c2 6).trans y6⟩, (f2 0).trans g0, (f2 1).trans g1, (f2 2).trans g2, (f2 3).trans g3, (f2 4).trans g4, (f2 5).trans g5, (f2 6).trans g6⟩
theorem LF.start (x : TT) (w : World) : LF w.heap.size x ((w.alloc (.cells #[.int .i64 x.k, .int .i64 x.n, .int .i64 x.t.k, .slice x.t.a x.t.l.length x.t.c, .int .i64 x.f.k, .slice x.f.a x.f.l.length x.f.c, .slice x.a x.l.length x.c] 27)).alloc (.cells #[.int .i64 0, .int .i64 0, .int .i64 0, .slice none 0 0, .int .i64 0, .slice none 0 0, .slice none 0 0] 27)) := by
  refine ⟨⟨⟨?_, ?_, ?_, ?_, ?_, ?_, ?_⟩, fun i _ => ?_⟩, ⟨?_, ?_, ?_, ?_, ?_, ?_, ?_⟩, ?_, ?_, ?_, ?_, ?_, ?_, ?_⟩ <;> simp [go_sem]
/-- What loose answers. -/
def LoPost (Q : Nat → Prop) (x : TT) (w : World) (e : Ending) (w' : World) : Prop :=
  ∃ (u : TT) (m : Int), e = .returned (.tuple #[.agg #[.int .i64 u.k, .int .i64 u.n, .int .i64 u.t.k, .slice u.t.a u.t.l.length u.t.c, .int .i64 u.f.k, .slice u.f.a u.f.l.length u.f.c, .slice u.a u.l.length u.c], .int .i64 m]) ∧ looser x.tm u.tm ∧ u.In w' ∧ u.Bl Q ∧ u.nb ∧ Below w.heap.size w w'
end Go.Proofs.YtnddkmccagiclabGreatDoor

/-
  What the call of chaperonekeep.loose answers: a term that tells less, or as much.
-/
namespace Go.Proofs.YtnddkmccagiclabGreatDoor
open Go.RowKit
/-- No list is longer than what memory holds. -/
def TT.lw : TT → Prop
  | ⟨_, _, _, _, _, _, l⟩ => l.length ≤ 1353245080300 ∧ ∀ y, y ∈ l → y.lw
theorem TT.lw_mk {k n : Int} {t f : Tr} {a : Option Addr} {c : Nat} {l : List TT} : (TT.mk k n t f a c l).lw ↔ l.length ≤ 1353245080300 ∧ ∀ y, y ∈ l → y.lw := by
  rw [TT.lw]
theorem TT.lw.len {x : TT} (h : x.lw) : x.l.length ≤ 1353245080300 := by cases x; exact (TT.lw_mk.1 h).1
theorem TT.lw.mem {x y : TT} (h : x.lw) (hy : y ∈ x.l) : y.lw := by
  obtain ⟨k, n, t, f, a, c, l⟩ := x
  exact (TT.lw_mk.1 h).2 y hy
def withT (x : TT) (t : Tr) : TT := ⟨x.k, x.n, t, x.f, x.a, x.c, x.l⟩
theorem withT_self (x : TT) : withT x x.t = x := by cases x; rfl
def toldT (x : TT) (t : Tr) : Prop := t = x.t ∨ tells x.k = true ∧ t = leaf 0
theorem ZB7.kept {R b : Nat} {w w' : World} (h : ZB7 w b) (hk : Kept R none w w') (hb : b ≠ R) : ZB7 w' b := by
  have hl := h.lt
  obtain ⟨⟨h0, h1, h2, h3, h4, h5, h6⟩, f0, f1, f2, f3, f4, f5, f6⟩ := h
  exact ⟨⟨hk.cell h0 hb, hk.cell h1 hb, hk.cell h2 hb, hk.cell h3 hb, hk.cell h4 hb, hk.cell h5 hb, hk.cell h6 hb⟩, hk.fz f0 hl hb, hk.fz f1 hl hb, hk.fz f2 hl hb, hk.fz f3 hl hb, hk.fz f4 hl hb, hk.fz f5 hl hb, hk.fz f6 hl hb⟩
set_option maxRecDepth 20000 in
set_option maxHeartbeats 8000000 in
theorem loose_step (Q : Nat → Prop) (x : TT) (k : Int) (w : World) (hx : x.In w) (hnb : x.nb) (hlw : x.lw) (xb : x.Bl Q) (nw : ∀ b, w.heap.size ≤ b → Q b) (ih : ∀ y, y ∈ x.l → ∀ (Q' : Nat → Prop) (k' : Int) (W : World), y.In W → y.Bl Q' → (∀ b, W.heap.size ≤ b → Q' b) → Calls Tryz.prog 16 #[.agg #[.int .i64 y.k, .int .i64 y.n, .int .i64 y.t.k, .slice y.t.a y.t.l.length y.t.c, .int .i64 y.f.k, .slice y.f.a y.f.l.length y.f.c, .slice y.a y.l.length y.c], .int .i64 k'] W (LoPost Q' y W)) :
    Calls Tryz.prog 16 #[.agg #[.int .i64 x.k, .int .i64 x.n, .int .i64 x.t.k, .slice x.t.a x.t.l.length x.t.c, .int .i64 x.f.k, .slice x.f.a x.f.l.length x.f.c, .slice x.a x.l.length x.c], .int .i64 k] w (LoPost Q x w) := by
  obtain ⟨i0, hi0, hz0, hz1, hz2⟩ := info_parts Tryz.info27c
  have hxl : x.l.length ≤ 1353245080300 := hlw.len
  obtain ⟨W1, hW1⟩ : ∃ W1, W1 = ((w.alloc (.cells #[.int .i64 x.k, .int .i64 x.n, .int .i64 x.t.k, .slice x.t.a x.t.l.length x.t.c, .int .i64 x.f.k, .slice x.f.a x.f.l.length x.f.c, .slice x.a x.l.length x.c] 27)).alloc (.cells #[.int .i64 0, .int .i64 0, .int .i64 0, .slice none 0 0, .int .i64 0, .slice none 0 0, .slice none 0 0] 27)) := ⟨_, rfl⟩
  have hb1 : Below w.heap.size w W1 := by rw [hW1]; exact ((Below.refl _ _).alloc (Nat.le_refl _) _).alloc (by simp) _
  have hlf : LF w.heap.size x W1 := by rw [hW1]; exact LF.start x w
  have HX : Hid (x.In w ∧ x.nb ∧ x.Bl Q ∧ (∀ b, w.heap.size ≤ b → Q b) ∧ Below w.heap.size w W1 ∧ LF w.heap.size x W1) := ⟨hx, hnb, xb, nw, hb1, hlf⟩
  have HIH : Hid (∀ y, y ∈ x.l → ∀ (Q' : Nat → Prop) (k' : Int) (W : World), y.In W → y.Bl Q' → (∀ b, W.heap.size ≤ b → Q' b) → Calls Tryz.prog 16 #[.agg #[.int .i64 y.k, .int .i64 y.n, .int .i64 y.t.k, .slice y.t.a y.t.l.length y.t.c, .int .i64 y.f.k, .slice y.f.a y.f.l.length y.f.c, .slice y.a y.l.length y.c], .int .i64 k'] W (LoPost Q' y W)) := ih
  obtain ⟨⟨p0, p1, p2, p3, p4, p5, p6⟩, fz⟩ := hlf.b
  simp only [Nat.zero_add] at p0 p1 p2 p3 p4 p5 p6
  have g2 := fz 2 (by omega)
  have g3 := fz 3 (by omega)
  clear hx hnb hlw xb nw ih hb1 hlf fz
  go_enter Tryz.func16, Tryz.ntmps16
  go_upto_region 2 with fail
  rw [← hW1]
  clear hW1
  go_cut [19] (fun s19 wx => s19 = .bool (tells x.k) ∧ wx = W1)
  case first =>
    by_cases k7 : x.k = 7
    · have e7 : (x.k == 7) = true := by simpa using k7
      have HT : Hid (tells x.k = true) := by simp [Hid, tells, k7]
      clear k7
      go_wp2_with fail
      go_meet
      case rel => exact ⟨by rw [HT.out], rfl⟩
    · have e7 : (x.k == 7) = false := by simpa using k7
      by_cases k9 : x.k = 9
      · have e9 : (x.k == 9) = true := by simpa using k9
        have HT : Hid (tells x.k = true) := by simp [Hid, tells, k9]
        clear k7 k9
        go_wp2_with fail
        go_meet
        case rel => exact ⟨by rw [HT.out], rfl⟩
      · have e9 : (x.k == 9) = false := by simpa using k9
        have HT : Hid (tells x.k = false) := by simp [Hid, tells, k7, k9]
        clear k7 k9
        go_wp2_with fail
        go_meet
        case rel => exact ⟨by rw [HT.out], rfl⟩
  case rest =>
  obtain ⟨rfl, rfl⟩ := hcut
  obtain ⟨tb, htb⟩ : ∃ tb, tells x.k = tb := ⟨_, rfl⟩
  have HTB : Hid (tells x.k = tb) := htb
  rw [htb]
  clear htb
  go_upto_if 19 with fail
  go_cut [6] (fun s6 wx => ∃ (m : Int) (t' : Tr), s6 = .int .i64 m ∧ Hid (LF w.heap.size (withT x t') wx ∧ Below w.heap.size w wx ∧ toldT x t'))
  case first =>
    cases tb
    · have HN : Hid (LF w.heap.size (withT x x.t) wc ∧ Below w.heap.size w wc ∧ toldT x x.t) := ⟨by rw [withT_self]; exact HX.out.2.2.2.2.2, HX.out.2.2.2.2.1, .inl rfl⟩
      go_wp2_with fail
      go_meet
      case rel => exact ⟨0, x.t, rfl, HN⟩
    · by_cases hk0 : k = 0
      · have hk' : (k == 0) = true := by simpa using hk0
        have HN : Hid (LF w.heap.size (withT x (leaf 0)) ((wc.setCell ⟨w.heap.size, 2, none⟩ (.int .i64 0)).setCell ⟨w.heap.size, 3, none⟩ (.slice none 0 0)) ∧ Below w.heap.size w ((wc.setCell ⟨w.heap.size, 2, none⟩ (.int .i64 0)).setCell ⟨w.heap.size, 3, none⟩ (.slice none 0 0)) ∧ toldT x (leaf 0)) := by
          obtain ⟨_, _, _, _, h5, h6⟩ := HX.out
          refine ⟨⟨h6.b.set23 (t := leaf 0), ?_⟩, (h5.setCell (Nat.le_refl _) _).setCell (Nat.le_refl _) _, .inr ⟨HTB.out, rfl⟩⟩
          exact h6.z.kept (set23_kept (u := .int .i64 0) (v := .slice none 0 0)) (by omega)
        clear hk0
        go_wp2_with fail
        go_meet
        case rel => exact ⟨1, leaf 0, rfl, HN⟩
      · have hk' : (k == 0) = false := by simpa using hk0
        have HN : Hid (LF w.heap.size (withT x x.t) wc ∧ Below w.heap.size w wc ∧ toldT x x.t) := ⟨by rw [withT_self]; exact HX.out.2.2.2.2.2, HX.out.2.2.2.2.1, .inl rfl⟩
        clear hk0
        go_wp2_with fail
        go_meet
        case rel => exact ⟨1, x.t, rfl, HN⟩
  case rest =>
  obtain ⟨m0, t', rfl, HT0⟩ := hcut
  have q6 := HT0.out.1.b.at7.c6
  simp only [Nat.zero_add, withT] at q6
  have hxk : x.l.length ≤ 1353245080300 := hxl
  have HL0 : Hid (Below w.heap.size w wc ∧ LF w.heap.size (withT x t') wc ∧ RowT (fun b => Q b ∧ b ≠ w.heap.size ∧ b ≠ w.heap.size + 1) (w.heap.size + 1 + 1) (Value.slice none 0 0) ([] : List TT) wc ∧ ([] : List TT).length = 0 ∧ looserL ((x.l.take 0).map TT.tm) (([] : List TT).map TT.tm) ∧ (∀ c, c ∈ ([] : List TT) → c.nb)) := ⟨HT0.out.2.1, HT0.out.1, RowT.nil _ _ _, rfl, by simp [looserL], fun c h => by cases h⟩
  have HTT : Hid (toldT x t') := HT0.out.2.2
  clear HT0 p0 p1 p2 p3 p4 p5 p6 g2 g3 HTB
  go_wp2_with fail
  clear q6
  go_loopg [6, 7, 27] x.l.length (fun g s6 s7 s27 wr => ∃ (j : Nat) (m : Int) (v : Value) (cs : List TT), g + j = x.l.length ∧ s6 = .int .i64 m ∧ v = s7 ∧ s27 = .int .i64 (j : Int) ∧ Hid (Below w.heap.size w wr ∧ LF w.heap.size (withT x t') wr ∧ RowT (fun b => Q b ∧ b ≠ w.heap.size ∧ b ≠ w.heap.size + 1) (w.heap.size + 1 + 1) v cs wr ∧ cs.length = j ∧ looserL ((x.l.take j).map TT.tm) (cs.map TT.tm) ∧ (∀ c, c ∈ cs → c.nb)))
  case atStart => exact ⟨0, m0, _, [], by omega, rfl, rfl, rfl, HL0⟩
  case round =>
    obtain ⟨j, m, v, cs, hj, rfl, hv, rfl, HQ⟩ := hrel
    subst hv
    clear HL0
    by_cases hlt : j < x.l.length
    · obtain ⟨b, o, ea, hX, hyi⟩ := HX.out.1.part j hlt
      have hym : x.l[j] ∈ x.l := List.getElem_mem hlt
      obtain ⟨y, hye⟩ : ∃ y, x.l[j] = y := ⟨_, rfl⟩
      have hyb := HX.out.2.2.1.mem hym
      rw [hye] at hX hyi hym hyb
      obtain ⟨d0, d1, d2, d3, d4, d5, d6⟩ := hX.below HQ.out.1
      have i1 : (j : Int) < (x.l.length : Int) := by omega
      have i0' : (0 : Int) ≤ (j : Int) := by omega
      have HEA : Hid (x.a = some ⟨b, o, none⟩) := ea
      rw [ea]
      obtain ⟨OX, hOX⟩ : ∃ O, O = Obj.cells #[.int .i64 y.k, .int .i64 y.n, .int .i64 y.t.k, .slice y.t.a y.t.l.length y.t.c, .int .i64 y.f.k, .slice y.f.a y.f.l.length y.f.c, .slice y.a y.l.length y.c] 27 := ⟨_, rfl⟩
      have hbA : Below wr.heap.size wr (wr.alloc OX) := (Below.refl _ _).alloc (Nat.le_refl _) _
      have hbE := HQ.out.1.trans (hbA.mono HQ.out.1.size)
      have hrow := HQ.out.2.2.1
      have hlfr := HQ.out.2.1
      have hltw := hlfr.lt
      have HC : Hid (∀ k' : Int, Calls Tryz.prog 16 #[.agg #[.int .i64 y.k, .int .i64 y.n, .int .i64 y.t.k, .slice y.t.a y.t.l.length y.t.c, .int .i64 y.f.k, .slice y.f.a y.f.l.length y.f.c, .slice y.a y.l.length y.c], .int .i64 k'] (wr.alloc OX) (LoPost (fun b => (Q b ∧ b ≠ w.heap.size ∧ b ≠ w.heap.size + 1) ∧ some b ≠ v.ownBlock) y (wr.alloc OX))) := by
        intro k'
        refine HIH.out y hym _ k' _ (hyi.below hbE) ((hyb.and hyi.bl).mono fun b hb => ⟨⟨hb.1, by omega, by omega⟩, fun e => by have := (hrow.lt b e.symm).1; omega⟩) fun b hb => ?_
        simp only [World.size_alloc] at hb
        exact ⟨⟨HX.out.2.2.2.1 b (by omega), by omega, by omega⟩, fun e => by have := (hrow.lt b e.symm).2; omega⟩
      have HE : Hid (Below w.heap.size w (wr.alloc OX) ∧ LF w.heap.size (withT x t') (wr.alloc OX) ∧ RowT (fun b => Q b ∧ b ≠ w.heap.size ∧ b ≠ w.heap.size + 1) (w.heap.size + 1 + 1) v cs (wr.alloc OX) ∧ cs.length = j ∧ looserL ((x.l.take j).map TT.tm) (cs.map TT.tm) ∧ (∀ c, c ∈ cs → c.nb) ∧ x.l[j] = y) := ⟨hbE, hlfr.below hbA, hrow.below hbA, HQ.out.2.2.2.1, HQ.out.2.2.2.2.1, HQ.out.2.2.2.2.2, hye⟩
      have hcl : cs.length + 1 ≤ 1353245080300 := by have := HQ.out.2.2.2.1; omega
      clear ea hX hyi hym hyb hye hbA hbE hrow hlfr hltw HQ
      subst hOX
      go_wp2_with fail
      refine (HC.out _).mono ?_
      rintro e w2 ⟨u, m2, rfl, hlo, hui, hub, hunb, hb2⟩
      clear d0 d1 d2 d3 d4 d5 d6
      obtain ⟨OU, hOU⟩ : ∃ O, O = Obj.cells #[.int .i64 u.k, .int .i64 u.n, .int .i64 u.t.k, .slice u.t.a u.t.l.length u.t.c, .int .i64 u.f.k, .slice u.f.a u.f.l.length u.f.c, .slice u.a u.l.length u.c] 27 := ⟨_, rfl⟩
      have hbR : Below w2.heap.size w2 (w2.alloc OU) := (Below.refl _ _).alloc (Nat.le_refl _) _
      have hb3 := hb2.trans (hbR.mono hb2.size)
      have hrow2 := HE.out.2.2.1.below hb3
      obtain ⟨N, hN⟩ : ∃ N, cs.length = N := ⟨_, rfl⟩
      obtain ⟨xs, hxs⟩ : ∃ xs, cells7 cs = xs := ⟨_, rfl⟩
      have uo : (w2.alloc OU).ownsRow (w.heap.size + 1 + 1) 27 7 v N xs := by rw [← hN, ← hxs]; exact hrow2.own
      have hnew := heap_alloc_new (w2.alloc OU) OU
      simp only [World.size_alloc] at hnew
      have HW : Hid (Below w.heap.size w (w2.alloc OU) ∧ LF w.heap.size (withT x t') (w2.alloc OU) ∧ RowT (fun b => Q b ∧ b ≠ w.heap.size ∧ b ≠ w.heap.size + 1) (w.heap.size + 1 + 1) v cs (w2.alloc OU) ∧ u.In (w2.alloc OU) ∧ u.Bl (fun b => (Q b ∧ b ≠ w.heap.size ∧ b ≠ w.heap.size + 1) ∧ some b ≠ v.ownBlock) ∧ u.nb ∧ looser y.tm u.tm) := ⟨HE.out.1.trans (hb3.mono HE.out.1.size), HE.out.2.1.below hb3, hrow2, hui.below hbR, hub, hunb, hlo⟩
      have HNX : Hid (cs.length = N ∧ cells7 cs = xs) := ⟨hN, hxs⟩
      have hNb : N + 1 ≤ 1353245080300 := by omega
      have hw2 : w.heap.size + 1 + 1 ≤ w2.heap.size := by have h1 := HE.out.2.1.lt; have h2 := hb2.size; omega
      clear hlo hui hub hunb hb2 HC hbR hb3 hrow2 hN hxs
      subst hOU
      go_wp2_with (at_builtin; refine wpList_append_lies _ rfl _ _ _ rfl (w.heap.size + 1 + 1) 27 i0 _ 7 104 Tryz.underlying25 hi0 hz0 hz1 hz2 rfl (by omega) v N xs rfl (uo.alloc _) ⟨w2.heap.size + 1, 0, none⟩ 1 1 [.int .i64 u.k, .int .i64 u.n, .int .i64 u.t.k, .slice u.t.a u.t.l.length u.t.c, .int .i64 u.f.k, .slice u.f.a u.f.l.length u.f.c, .slice u.a u.l.length u.c] rfl rfl (World.news_of_block (cs := #[.int .i64 u.k, .int .i64 u.n, .int .i64 u.t.k, .slice u.t.a u.t.l.length u.t.c, .int .i64 u.f.k, .slice u.f.a u.f.l.length u.f.c, .slice u.a u.l.length u.c]) (t := 27) (fr := (0, 0)) hnew) (by simp [Value.oneCell']) (by omega) (by unfold maxLen; omega) (by omega) (by simp; omega) (w2.heap.size + 1 + 1) (by simp) ?_; intro gg cap1 w3 hown1 hgrow hat hlt3)
      obtain ⟨OU, hOU⟩ : ∃ O, O = Obj.cells #[.int .i64 u.k, .int .i64 u.n, .int .i64 u.t.k, .slice u.t.a u.t.l.length u.t.c, .int .i64 u.f.k, .slice u.f.a u.f.l.length u.f.c, .slice u.a u.l.length u.c] 27 := ⟨_, rfl⟩
      rw [← hOU] at hgrow HW
      have HN : Hid (Below w.heap.size w w3 ∧ LF w.heap.size (withT x t') w3 ∧ RowT (fun b => Q b ∧ b ≠ w.heap.size ∧ b ≠ w.heap.size + 1) (w.heap.size + 1 + 1) (Value.slice (some ⟨gg, 0, none⟩) (N + 1) cap1) (cs ++ [u]) w3 ∧ (cs ++ [u]).length = (j + 1) ∧ looserL ((x.l.take (j + 1)).map TT.tm) ((cs ++ [u]).map TT.tm) ∧ (∀ c, c ∈ (cs ++ [u]) → c.nb)) := by
        obtain ⟨hbw, hlfw, hrw, huw, hub, hunb, hlo⟩ := HW.out
        obtain ⟨eN, exs⟩ := HNX.out
        have hst := hrw.step (gg := gg) (cap1 := cap1) (w3 := w3) (X := OU) huw hub (by rw [eN, exs]; exact hown1) hgrow (by simpa using hat)
        have hs := hgrow.size
        simp only [World.size_alloc] at hs
        have hov : ∀ q, v.ownBlock = some q → w.heap.size + 1 + 1 ≤ q := fun q hq => (hrw.lt q hq).1
        have hst1 := hst.1
        rw [eN] at hst1
        have hll := hlfw.lt
        simp only [World.size_alloc] at hll
        refine ⟨?_, hlfw.far (hst.2 _ (by simp; omega) fun e => by have := hov _ e.symm; omega) (hst.2 _ (by simp; omega) fun e => by have := hov _ e.symm; omega), hst1, by rw [List.length_append, HE.out.2.2.2.1]; rfl, ?_, fun c hc => ?_⟩
        · refine ⟨(hgrow.os.trans rfl).trans hbw.os, (hgrow.tape.trans rfl).trans hbw.tape, (hgrow.output.trans rfl).trans hbw.output, by have := hbw.size; simp at this; omega, fun q hq => ?_⟩
          exact (hst.2 q (by simp; omega) fun e => by have := hov q e.symm; omega).trans (hbw.block q hq)
        · rw [take_snoc _ _ hlt, HE.out.2.2.2.2.2.2, List.map_append, List.map_append]
          exact looserL_snoc _ _ _ _ HE.out.2.2.2.2.1 hlo
        · rcases List.mem_append.1 hc with hc | hc
          · exact HE.out.2.2.2.2.2.1 c hc
          · rcases List.mem_singleton.1 hc with rfl
            exact hunb
      clear hown1 hgrow hat hlt3 HW uo hnew hOU HE HNX
      go_wp2_with fail
      rw [← HEA.out]
      go_roundg (x.l.length - (j + 1))
      case measure => omega
      case rel => exact ⟨j + 1, _, _, cs ++ [u], by omega, rfl, rfl, by go_num, HN⟩
    · have hje : j = x.l.length := by omega
      obtain ⟨a, cap, hv, hlist, hla⟩ := HQ.out.2.2.1.list
      have HF : Hid (Below w.heap.size w wr ∧ LF w.heap.size (withT x t') wr ∧ RowT (fun b => Q b ∧ b ≠ w.heap.size ∧ b ≠ w.heap.size + 1) (w.heap.size + 1 + 1) v cs wr ∧ cs.length = j ∧ looserL ((x.l.take j).map TT.tm) (cs.map TT.tm) ∧ (∀ c, c ∈ cs → c.nb)) := HQ
      have HVL : Hid (v = .slice a cs.length cap ∧ (∀ q (hq : q < cs.length), ∃ b o, a = some ⟨b, o, none⟩ ∧ At7 wr b (o + q * 7) cs[q]) ∧ (∀ y, cs ≠ [] → a = some y → w.heap.size + 1 + 1 ≤ y.block)) := ⟨hv, hlist, hla⟩
      have HJ : Hid (j = x.l.length) := hje
      clear HQ hlist hla hje
      subst hv
      have HN : Hid (LoPost Q x w (.returned (.tuple #[.agg #[.int .i64 x.k, .int .i64 x.n, .int .i64 t'.k, .slice t'.a t'.l.length t'.c, .int .i64 x.f.k, .slice x.f.a x.f.l.length x.f.c, .slice a cs.length cap], .int .i64 m])) (put7 (wr.setCell ⟨w.heap.size, 6, none⟩ (.slice a cs.length cap)) (w.heap.size + 1) (TT.mk x.k x.n t' x.f a cap cs))) := by
        obtain ⟨hbw, hlf, hrow, hlen, hlo, hcnb⟩ := HF.out
        obtain ⟨_, hlist, hla⟩ := HVL.out
        obtain ⟨hxi, hxn, hxb, hnw, _, _⟩ := HX.out
        have hk1 : Kept w.heap.size none wr (wr.setCell ⟨w.heap.size, 6, none⟩ (.slice a cs.length cap)) := setR_kept
        have hk2 : Kept (w.heap.size + 1) none (wr.setCell ⟨w.heap.size, 6, none⟩ (.slice a cs.length cap)) (put7 (wr.setCell ⟨w.heap.size, 6, none⟩ (.slice a cs.length cap)) (w.heap.size + 1) (TT.mk x.k x.n t' x.f a cap cs)) := put7_kept
        have hll := hlf.lt
        have ht' : t'.In wr ∧ t'.Bl (· < w.heap.size) ∧ t'.Bl Q := by
          rcases HTT.out with rfl | ⟨_, rfl⟩
          · exact ⟨hxi.t.below hbw, hxi.t.bl, hxb.t⟩
          · exact ⟨leaf_in _ _, leaf_bl _ _, leaf_bl _ _⟩
        have htm : looser x.tm (TT.mk x.k x.n t' x.f a cap cs).tm := by
          rw [TT.tm_mk]
          obtain ⟨kk, nn, tt, ff, aa, cc, ll⟩ := x
          rw [TT.tm_mk]
          refine looser_mk.2 ⟨rfl, rfl, rfl, ?_, ?_⟩
          · rcases HTT.out with rfl | ⟨h1, rfl⟩
            · exact .inl rfl
            · exact .inr ⟨h1, leaf_ty 0⟩
          · have := hlo
            rw [HJ.out, List.take_of_length_le (Nat.le_refl _)] at this
            exact this
        refine ⟨(TT.mk x.k x.n t' x.f a cap cs), m, rfl, htm, TT.In_mk.2 ⟨?_, ?_, fun q hq => ?_, fun c hc => ?_⟩, TT.Bl_mk.2 ⟨ht'.2.2, hxb.f, fun hne z hz => hnw _ (by have := hla z hne hz; omega), fun c hc => (hrow.ins c hc).2.mono fun b hb => hb.1.1⟩, TT.nb_mk.2 ⟨hxn.n, hcnb⟩, ?_⟩
        · exact (ht'.1.keptR hk1 (ht'.2.1.mono fun b hb => by omega)).keptR hk2 (ht'.2.1.mono fun b hb => by omega)
        · exact ((hxi.f.below hbw).keptR hk1 (hxi.f.bl.mono fun b hb => by omega)).keptR hk2 (hxi.f.bl.mono fun b hb => by omega)
        · obtain ⟨b, o, e, h7⟩ := hlist q hq
          have hb2 := hla _ (fun e => by rw [e] at hq; simp at hq) e
          simp only at hb2
          exact ⟨b, o, e, (h7.keptR hk1 (by omega)).keptR hk2 (by omega)⟩
        · obtain ⟨h1, h2⟩ := hrow.ins c hc
          exact (h1.keptR hk1 (h2.mono fun b hb => hb.1.2.1)).keptR hk2 (h2.mono fun b hb => hb.1.2.2)
        · refine (hbw.setCell (Nat.le_refl _) _).trans ((hk2.below (by simp) ?_).mono (by omega))
          have : (wr.setCell ⟨w.heap.size, 6, none⟩ (.slice a cs.length cap)).heap.size = wr.heap.size := by simp [World.setCell]
          omega
      have hbx := HF.out.2.1.b
      have hz7 := HF.out.2.1.z
      obtain ⟨e0, e1, e2, e3, e4, e5, e6⟩ := (put7_box (x := (TT.mk x.k x.n t' x.f a cap cs)) (hz7.kept (setR_kept (v := .slice a cs.length cap) (i := 6) (R := w.heap.size)) (by omega)).box).at7
      simp only [Nat.zero_add] at e0 e1 e2 e3 e4 e5 e6
      obtain ⟨⟨q0, q1, q2, q3, q4, q5, q6⟩, qf⟩ := hbx
      simp only [Nat.zero_add, withT] at q0 q1 q2 q3 q4 q5 q6
      have qf6 := qf 6 (by omega)
      obtain ⟨⟨y0, y1, y2, y3, y4, y5, y6⟩, f0, f1, f2, f3, f4, f5, f6⟩ := hz7
      clear qf HF HVL HTT HX HIH
      go_wp2_with fail
      refine bodyPost_ret (v := .tuple #[.agg #[.int .i64 x.k, .int .i64 x.n, .int .i64 t'.k, .slice t'.a t'.l.length t'.c, .int .i64 x.f.k, .slice x.f.a x.f.l.length x.f.c, .slice a cs.length cap], .int .i64 m]) ?_ rfl HN.out
      unfold put7 at e0 e1 e2 e3 e4 e5 e6
      simp [results, Tryz.results16, go_sem, e0, e1, e2, e3, e4, e5, e6]
theorem loose_any : ∀ (n : Nat) (Q : Nat → Prop) (x : TT) (k : Int) (w : World), x.sz ≤ n → x.In w → x.nb → x.lw → x.Bl Q → (∀ b, w.heap.size ≤ b → Q b) → Calls Tryz.prog 16 #[.agg #[.int .i64 x.k, .int .i64 x.n, .int .i64 x.t.k, .slice x.t.a x.t.l.length x.t.c, .int .i64 x.f.k, .slice x.f.a x.f.l.length x.f.c, .slice x.a x.l.length x.c], .int .i64 k] w (LoPost Q x w) := by
  intro n
  induction n with
  | zero => intro Q x k w h _ _ _ _ _; have := x.sz_pos; omega
  | succ n ih =>
    intro Q x k w h hx hnb hlw xb nw
    refine loose_step Q x k w hx hnb hlw xb nw fun y hy Q' k' W hyi hyb hnw => ih Q' y k' W ?_ hyi (hnb.mem hy) (hlw.mem hy) hyb hnw
    have h1 := x.sz_eq
    have h2 : y.sz ≤ (x.l.map TT.sz).sum := by
      have := sz_mem (x.l.map TT.tm) y.tm (List.mem_map.2 ⟨y, hy, rfl⟩)
      rw [sz_map, ← y.sz_tm] at this
      exact this
    omega
end Go.Proofs.YtnddkmccagiclabGreatDoor

/-
  What the call of check's inside answers: what is within the casts and As about a term.
-/
namespace Go.Proofs.YtnddkmccagiclabGreatDoor
open Go.RowKit
/-- A term within another, at which it comes to the same without casts. -/
def InW (x p : TT) (w W : World) : Prop := p.In W ∧ p.Bl (· < w.heap.size) ∧ p.sz ≤ x.sz ∧ eraseM p.tm = eraseM x.tm ∧ ∀ Q : Nat → Prop, x.Bl Q → p.Bl Q
/-- What inside answers. -/
def InPost (x : TT) (w : World) (e : Ending) (w' : World) : Prop :=
  ∃ q : TT, e = .returned (.agg #[.int .i64 q.k, .int .i64 q.n, .int .i64 q.t.k, .slice q.t.a q.t.l.length q.t.c, .int .i64 q.f.k, .slice q.f.a q.f.l.length q.f.c, .slice q.a q.l.length q.c]) ∧ q.In w' ∧ (∀ Q : Nat → Prop, x.Bl Q → q.Bl Q) ∧ q.sz ≤ x.sz ∧ eraseM x.tm = ⟨q.k, q.n, anyY, anyY, (q.l.map TT.tm).map eraseM⟩ ∧ Below w.heap.size w w'
theorem eraseT_stop {k n : Int} {l : List Tm} (hs : ¬ ((k = 9 ∨ k = 10) ∧ l.length = 1)) : eraseT k n l = ⟨k, n, anyY, anyY, l⟩ := by
  match l, hs with
  | [], _ => rfl
  | [y], hs =>
    have h2 : ¬ (k = 9 ∨ k = 10) := fun h => hs ⟨h, rfl⟩
    exact if_neg h2
  | y :: z :: r, _ => rfl
theorem inside_end {x p : TT} {w wr : World} (hb : Below w.heap.size w wr) (hl : LF w.heap.size p wr) (hw : InW x p w wr) (hs : ¬ ((p.k = 9 ∨ p.k = 10) ∧ p.l.length = 1)) : InPost x w (.returned (.agg #[.int .i64 p.k, .int .i64 p.n, .int .i64 p.t.k, .slice p.t.a p.t.l.length p.t.c, .int .i64 p.f.k, .slice p.f.a p.f.l.length p.f.c, .slice p.a p.l.length p.c])) (put7 wr (w.heap.size + 1) p) := by
  obtain ⟨h1, h2, h3, h4, h5⟩ := hw
  have hk := put7_kept (w := wr) (J := w.heap.size + 1) (x := p)
  refine ⟨p, rfl, h1.keptR hk (h2.mono fun b hb => by omega), h5, h3, ?_, hb.trans ((hk.below (by simp) (Nat.le_of_lt hl.lt)).mono (by omega))⟩
  rw [← h4]
  have e : p.tm = ⟨p.k, p.n, p.t.ty, p.f.ty, p.l.map TT.tm⟩ := by cases p; rw [TT.tm_mk]
  rw [e, eraseM_mk, eraseT_stop (by rw [List.length_map, List.length_map]; exact hs)]
theorem inside_step {x p y : TT} {w wr : World} (hb : Below w.heap.size w wr) (hl : LF w.heap.size p wr) (hw : InW x p w wr) (hp : p.l = [y]) (hk9 : p.k = 9 ∨ p.k = 10) (hy : y.In wr) : Below w.heap.size w (put7 wr w.heap.size y) ∧ LF w.heap.size y (put7 wr w.heap.size y) ∧ InW x y w (put7 wr w.heap.size y) := by
  obtain ⟨h1, h2, h3, h4, h5⟩ := hw
  have hk := put7_kept (w := wr) (J := w.heap.size) (x := y)
  have hyb : y.Bl (· < w.heap.size) := h2.mem (by rw [hp]; simp)
  have hll := hl.lt
  refine ⟨hb.trans ((hk.below (by simp) (by omega)).mono (Nat.le_refl _)), ⟨put7_box hl.b, hl.z.kept hk (by omega)⟩, hy.keptR hk (hyb.mono fun b hb => by omega), hyb, ?_, ?_, fun Q hQ => (h5 Q hQ).mem (by rw [hp]; simp)⟩
  · have := p.sz_eq
    rw [hp] at this
    simp at this
    omega
  · rw [← h4]
    obtain ⟨k, n, t, f, a, c, l⟩ := p
    simp only at hp hk9
    subst hp
    rw [TT.tm_mk, eraseM_mk]
    simp [eraseT, hk9]
set_option maxRecDepth 20000 in
set_option maxHeartbeats 8000000 in
theorem inside_any (x : TT) (w : World) (hx : x.In w) : Calls Tryz.prog 47 #[.agg #[.int .i64 x.k, .int .i64 x.n, .int .i64 x.t.k, .slice x.t.a x.t.l.length x.t.c, .int .i64 x.f.k, .slice x.f.a x.f.l.length x.f.c, .slice x.a x.l.length x.c]] w (InPost x w) := by
  obtain ⟨W1, hW1⟩ : ∃ W1, W1 = ((w.alloc (.cells #[.int .i64 x.k, .int .i64 x.n, .int .i64 x.t.k, .slice x.t.a x.t.l.length x.t.c, .int .i64 x.f.k, .slice x.f.a x.f.l.length x.f.c, .slice x.a x.l.length x.c] 27)).alloc (.cells #[.int .i64 0, .int .i64 0, .int .i64 0, .slice none 0 0, .int .i64 0, .slice none 0 0, .slice none 0 0] 27)) := ⟨_, rfl⟩
  have hb1 : Below w.heap.size w W1 := by rw [hW1]; exact ((Below.refl _ _).alloc (Nat.le_refl _) _).alloc (by simp) _
  have HL0 : Hid (Below w.heap.size w W1 ∧ LF w.heap.size x W1 ∧ InW x x w W1) := ⟨hb1, by rw [hW1]; exact LF.start x w, hx.below hb1, hx.bl, Nat.le_refl _, rfl, fun _ h => h⟩
  clear hx hb1
  go_enter Tryz.func47, Tryz.ntmps47
  go_wp2_with fail
  rw [← hW1]
  clear hW1
  go_loopg [] x.sz (fun g wr => ∃ p : TT, g = p.sz ∧ Hid (Below w.heap.size w wr ∧ LF w.heap.size p wr ∧ InW x p w wr))
  case atStart => exact ⟨x, rfl, HL0⟩
  case round =>
    obtain ⟨p, hg, HQ⟩ := hrel
    subst hg
    clear HL0
    by_cases k10 : p.k = 10
    · have e10 : (p.k == 10) = true := by simpa using k10
      have HPK : Hid (p.k = 9 ∨ p.k = 10) := .inr k10
      by_cases hl1 : p.l.length = 1
      · have HPL : Hid (p.l.length = 1) := hl1
        clear k10 hl1
        obtain ⟨b, o, ea, h7, hyi⟩ := HQ.out.2.2.1.part 0 (by rw [HPL.out]; omega)
        obtain ⟨y, hye⟩ : ∃ y, p.l = [y] := List.length_eq_one_iff.1 HPL.out
        have hy0 : p.l[0]'(by rw [HPL.out]; omega) = y := by simp [hye]
        rw [hy0] at h7 hyi
        obtain ⟨d0, d1, d2, d3, d4, d5, d6⟩ := h7
        simp only [Nat.zero_mul, Nat.add_zero] at d0 d1 d2 d3 d4 d5 d6
        have hbx := HQ.out.2.1.b
        obtain ⟨⟨q0, q1, q2, q3, q4, q5, q6⟩, qf⟩ := hbx
        simp only [Nat.zero_add] at q0 q1 q2 q3 q4 q5 q6
        have g0 := qf 0 (by omega)
        have g1 := qf 1 (by omega)
        have g2 := qf 2 (by omega)
        have g3 := qf 3 (by omega)
        have g4 := qf 4 (by omega)
        have g5 := qf 5 (by omega)
        have g6 := qf 6 (by omega)
        clear qf
        rw [ea] at q6
        rw [HPL.out] at q6
        have hbl : b < w.heap.size := HQ.out.2.2.2.1.own (by rw [hye]; simp) _ ea
        have nbH : b ≠ w.heap.size := by omega
        have HN : Hid (Below w.heap.size w (put7 wr w.heap.size y) ∧ LF w.heap.size y (put7 wr w.heap.size y) ∧ InW x y w (put7 wr w.heap.size y)) := inside_step HQ.out.1 HQ.out.2.1 HQ.out.2.2 hye HPK.out hyi
        have HM : Hid (y.sz < p.sz) := by
          have h1 := p.sz_eq
          rw [hye] at h1
          simp at h1
          show _ < _
          omega
        clear HQ HPK HPL ea hyi hye hy0 hbl
        go_wp2_with fail
        go_roundg y.sz
        case measure => exact HM.out
        case rel => exact ⟨y, rfl, HN⟩
      · have HPL : Hid (p.l.length ≠ 1) := hl1
        have el : ((p.l.length : Int) == 1) = false := by simp; omega
        clear k10 hl1
        have HN : Hid (InPost x w (.returned (.agg #[.int .i64 p.k, .int .i64 p.n, .int .i64 p.t.k, .slice p.t.a p.t.l.length p.t.c, .int .i64 p.f.k, .slice p.f.a p.f.l.length p.f.c, .slice p.a p.l.length p.c])) (put7 wr (w.heap.size + 1) p)) := inside_end HQ.out.1 HQ.out.2.1 HQ.out.2.2 (by exact fun h => HPL.out h.2)
        have hbx := HQ.out.2.1.b
        obtain ⟨e0, e1, e2, e3, e4, e5, e6⟩ := (put7_box (x := p) HQ.out.2.1.z.box).at7
        simp only [Nat.zero_add] at e0 e1 e2 e3 e4 e5 e6
        obtain ⟨⟨y0, y1, y2, y3, y4, y5, y6⟩, f0, f1, f2, f3, f4, f5, f6⟩ := HQ.out.2.1.z
        obtain ⟨⟨q0, q1, q2, q3, q4, q5, q6⟩, qf⟩ := hbx
        simp only [Nat.zero_add] at q0 q1 q2 q3 q4 q5 q6
        have g0 := qf 0 (by omega)
        have g1 := qf 1 (by omega)
        have g2 := qf 2 (by omega)
        have g3 := qf 3 (by omega)
        have g4 := qf 4 (by omega)
        have g5 := qf 5 (by omega)
        have g6 := qf 6 (by omega)
        clear qf
        clear HQ HPK HPL
        go_wp2_with fail
        refine bodyPost_ret (v := .agg #[.int .i64 p.k, .int .i64 p.n, .int .i64 p.t.k, .slice p.t.a p.t.l.length p.t.c, .int .i64 p.f.k, .slice p.f.a p.f.l.length p.f.c, .slice p.a p.l.length p.c]) ?_ rfl HN.out
        unfold put7 at e0 e1 e2 e3 e4 e5 e6
        simp [results, Tryz.results47, go_sem, e0, e1, e2, e3, e4, e5, e6]
    · have e10 : (p.k == 10) = false := by simpa using k10
      by_cases k9 : p.k = 9
      · have e9 : (p.k == 9) = true := by simpa using k9
        have HPK : Hid (p.k = 9 ∨ p.k = 10) := .inl k9
        by_cases hl1 : p.l.length = 1
        · have HPL : Hid (p.l.length = 1) := hl1
          clear k10 k9 hl1
          obtain ⟨b, o, ea, h7, hyi⟩ := HQ.out.2.2.1.part 0 (by rw [HPL.out]; omega)
          obtain ⟨y, hye⟩ : ∃ y, p.l = [y] := List.length_eq_one_iff.1 HPL.out
          have hy0 : p.l[0]'(by rw [HPL.out]; omega) = y := by simp [hye]
          rw [hy0] at h7 hyi
          obtain ⟨d0, d1, d2, d3, d4, d5, d6⟩ := h7
          simp only [Nat.zero_mul, Nat.add_zero] at d0 d1 d2 d3 d4 d5 d6
          have hbx := HQ.out.2.1.b
          obtain ⟨⟨q0, q1, q2, q3, q4, q5, q6⟩, qf⟩ := hbx
          simp only [Nat.zero_add] at q0 q1 q2 q3 q4 q5 q6
          have g0 := qf 0 (by omega)
          have g1 := qf 1 (by omega)
          have g2 := qf 2 (by omega)
          have g3 := qf 3 (by omega)
          have g4 := qf 4 (by omega)
          have g5 := qf 5 (by omega)
          have g6 := qf 6 (by omega)
          clear qf
          rw [ea] at q6
          rw [HPL.out] at q6
          have hbl : b < w.heap.size := HQ.out.2.2.2.1.own (by rw [hye]; simp) _ ea
          have nbH : b ≠ w.heap.size := by omega
          have HN : Hid (Below w.heap.size w (put7 wr w.heap.size y) ∧ LF w.heap.size y (put7 wr w.heap.size y) ∧ InW x y w (put7 wr w.heap.size y)) := inside_step HQ.out.1 HQ.out.2.1 HQ.out.2.2 hye HPK.out hyi
          have HM : Hid (y.sz < p.sz) := by
            have h1 := p.sz_eq
            rw [hye] at h1
            simp at h1
            show _ < _
            omega
          clear HQ HPK HPL ea hyi hye hy0 hbl
          go_wp2_with fail
          go_roundg y.sz
          case measure => exact HM.out
          case rel => exact ⟨y, rfl, HN⟩
        · have HPL : Hid (p.l.length ≠ 1) := hl1
          have el : ((p.l.length : Int) == 1) = false := by simp; omega
          clear k10 k9 hl1
          have HN : Hid (InPost x w (.returned (.agg #[.int .i64 p.k, .int .i64 p.n, .int .i64 p.t.k, .slice p.t.a p.t.l.length p.t.c, .int .i64 p.f.k, .slice p.f.a p.f.l.length p.f.c, .slice p.a p.l.length p.c])) (put7 wr (w.heap.size + 1) p)) := inside_end HQ.out.1 HQ.out.2.1 HQ.out.2.2 (by exact fun h => HPL.out h.2)
          have hbx := HQ.out.2.1.b
          obtain ⟨e0, e1, e2, e3, e4, e5, e6⟩ := (put7_box (x := p) HQ.out.2.1.z.box).at7
          simp only [Nat.zero_add] at e0 e1 e2 e3 e4 e5 e6
          obtain ⟨⟨y0, y1, y2, y3, y4, y5, y6⟩, f0, f1, f2, f3, f4, f5, f6⟩ := HQ.out.2.1.z
          obtain ⟨⟨q0, q1, q2, q3, q4, q5, q6⟩, qf⟩ := hbx
          simp only [Nat.zero_add] at q0 q1 q2 q3 q4 q5 q6
          have g0 := qf 0 (by omega)
          have g1 := qf 1 (by omega)
          have g2 := qf 2 (by omega)
          have g3 := qf 3 (by omega)
          have g4 := qf 4 (by omega)
          have g5 := qf 5 (by omega)
          have g6 := qf 6 (by omega)
          clear qf
          clear HQ HPK HPL
          go_wp2_with fail
          refine bodyPost_ret (v := .agg #[.int .i64 p.k, .int .i64 p.n, .int .i64 p.t.k, .slice p.t.a p.t.l.length p.t.c, .int .i64 p.f.k, .slice p.f.a p.f.l.length p.f.c, .slice p.a p.l.length p.c]) ?_ rfl HN.out
          unfold put7 at e0 e1 e2 e3 e4 e5 e6
          simp [results, Tryz.results47, go_sem, e0, e1, e2, e3, e4, e5, e6]
      · have e9 : (p.k == 9) = false := by simpa using k9
        have HPK : Hid (¬ (p.k = 9 ∨ p.k = 10)) := by show ¬ _; omega
        have HPL : Hid True := trivial
        clear k10 k9
        have HN : Hid (InPost x w (.returned (.agg #[.int .i64 p.k, .int .i64 p.n, .int .i64 p.t.k, .slice p.t.a p.t.l.length p.t.c, .int .i64 p.f.k, .slice p.f.a p.f.l.length p.f.c, .slice p.a p.l.length p.c])) (put7 wr (w.heap.size + 1) p)) := inside_end HQ.out.1 HQ.out.2.1 HQ.out.2.2 (by exact fun h => HPK.out h.1)
        have hbx := HQ.out.2.1.b
        obtain ⟨e0, e1, e2, e3, e4, e5, e6⟩ := (put7_box (x := p) HQ.out.2.1.z.box).at7
        simp only [Nat.zero_add] at e0 e1 e2 e3 e4 e5 e6
        obtain ⟨⟨y0, y1, y2, y3, y4, y5, y6⟩, f0, f1, f2, f3, f4, f5, f6⟩ := HQ.out.2.1.z
        obtain ⟨⟨q0, q1, q2, q3, q4, q5, q6⟩, qf⟩ := hbx
        simp only [Nat.zero_add] at q0 q1 q2 q3 q4 q5 q6
        have g0 := qf 0 (by omega)
        have g1 := qf 1 (by omega)
        have g2 := qf 2 (by omega)
        have g3 := qf 3 (by omega)
        have g4 := qf 4 (by omega)
        have g5 := qf 5 (by omega)
        have g6 := qf 6 (by omega)
        clear qf
        clear HQ HPK HPL
        go_wp2_with fail
        refine bodyPost_ret (v := .agg #[.int .i64 p.k, .int .i64 p.n, .int .i64 p.t.k, .slice p.t.a p.t.l.length p.t.c, .int .i64 p.f.k, .slice p.f.a p.f.l.length p.f.c, .slice p.a p.l.length p.c]) ?_ rfl HN.out
        unfold put7 at e0 e1 e2 e3 e4 e5 e6
        simp [results, Tryz.results47, go_sem, e0, e1, e2, e3, e4, e5, e6]
end Go.Proofs.YtnddkmccagiclabGreatDoor

/-
  What the call of term.Nodes answers.
-/
namespace Go.Proofs.YtnddkmccagiclabGreatDoor
open Go.RowKit
def cells1 (ps : List TT) : List Value := ps.map fun p => .slice p.a p.l.length p.c
def mass1 (ps : List TT) : Nat := (ps.map TT.sz).sum
def Pr1 (B : Nat) (w : World) (p : TT) : Prop := p.In w ∧ p.Bl (· < B)
theorem Pr1.low {B : Nat} {w w' : World} {p : TT} (h : Pr1 B w p) (hb : Below B w w') : Pr1 B w' p :=
  ⟨h.1.congr (P := (· < B)) (fun b hb' o => hb.cell (p := ⟨b, o, none⟩) hb') h.2, h.2⟩
structure Stk1 (B : Nat) (v : Value) (ps : List TT) (w : World) : Prop where
  own : w.ownsRow B 25 1 v ps.length (cells1 ps)
  ins : ∀ p, p ∈ ps → Pr1 B w p
theorem Stk1.len {ps : List TT} : ps.length ≤ mass1 ps := by
  induction ps with
  | nil => simp
  | cons p r ih => have := p.sz_pos; simp only [mass1, List.map_cons, List.sum_cons, List.length_cons] at ih ⊢; omega
theorem len_sum : ∀ l : List TT, l.length ≤ (l.map TT.sz).sum
  | [] => by simp
  | u :: r => by have := u.sz_pos; have := len_sum r; simp only [List.length_cons, List.map_cons, List.sum_cons]; omega
end Go.Proofs.YtnddkmccagiclabGreatDoor

/-
  Casts of a term in a row of their own, and a row of terms that are still to be looked at, side by side; no program's run in it.
-/
namespace Go.Proofs.YtnddkmccagiclabGreatDoor
open Go.RowKit
structure SiteT where
  n : Int
  f : Tr
  t : Tr
def SiteT.m (s : SiteT) : Int × Ty × Ty := (s.n, s.f.ty, s.t.ty)
def cell5 (s : SiteT) : List Value := [.int .i64 s.n, .int .i64 s.f.k, .slice s.f.a s.f.l.length s.f.c, .int .i64 s.t.k, .slice s.t.a s.t.l.length s.t.c]
def cells5 (ss : List SiteT) : List Value := ss.flatMap cell5
theorem cells5_append (a b : List SiteT) : cells5 (a ++ b) = cells5 a ++ cells5 b := by simp [cells5]
theorem cells5_one (s : SiteT) : cells5 [s] = cell5 s := by simp [cells5]
theorem cells5_at : ∀ (l : List SiteT) (j : Nat) (h : j < l.length) (i : Nat), i < 5 → (cells5 l)[j * 5 + i]? = (cell5 l[j])[i]?
  | [], j, h, _, _ => by simp at h
  | x :: r, 0, _, i, hi => by
    have : cells5 (x :: r) = cell5 x ++ cells5 r := by simp [cells5]
    rw [this, List.getElem?_append_left (by simp [cell5]; omega)]
    simp
  | x :: r, j + 1, h, i, hi => by
    have ih := cells5_at r j (by simpa using h) i hi
    have e : cells5 (x :: r) = cell5 x ++ cells5 r := by simp [cells5]
    rw [e, List.getElem?_append_right (by simp [cell5]; omega)]
    have : (j + 1) * 5 + i - (cell5 x).length = j * 5 + i := by simp [cell5]; omega
    rw [this]
    simpa using ih
/-- The casts' types are not too deep. -/
def TT.cok : TT → Prop
  | ⟨k, _, t, f, _, _, l⟩ => (k = 10 → (t.right ∧ t.hgt ≤ 1000) ∧ f.right ∧ f.hgt ≤ 1000) ∧ ∀ y, y ∈ l → y.cok
theorem TT.cok_mk {k n : Int} {t f : Tr} {a : Option Addr} {c : Nat} {l : List TT} : (TT.mk k n t f a c l).cok ↔ (k = 10 → (t.right ∧ t.hgt ≤ 1000) ∧ f.right ∧ f.hgt ≤ 1000) ∧ ∀ y, y ∈ l → y.cok := by
  rw [TT.cok]
theorem TT.cok.top {x : TT} (h : x.cok) : x.k = 10 → (x.t.right ∧ x.t.hgt ≤ 1000) ∧ x.f.right ∧ x.f.hgt ≤ 1000 := by cases x; exact (TT.cok_mk.1 h).1
theorem TT.cok.mem {x y : TT} (h : x.cok) (hy : y ∈ x.l) : y.cok := by
  obtain ⟨k, n, t, f, a, c, l⟩ := x
  exact (TT.cok_mk.1 h).2 y hy
theorem cok_of (m : Nat) (hm : m ≤ 1000) : ∀ x : TT, (∀ s, s ∈ sitesM x.tm → goodY m s.2.1 = true ∧ goodY m s.2.2 = true) → x.cok := by
  intro x
  induction x using TT.ind with
  | h k n t f a c l ih =>
    intro h
    rw [TT.tm_mk, sitesM_mk] at h
    refine TT.cok_mk.2 ⟨fun hk => ?_, fun y hy => ih y hy fun s hs => h s ?_⟩
    · have := h (n, f.ty, t.ty) (by simp [hk])
      have h1 := good_facts hm (t := f) (by rw [goodT_eq]; exact this.1)
      have h2 := good_facts hm (t := t) (by rw [goodT_eq]; exact this.2)
      exact ⟨⟨h2.1, h2.2.1⟩, h1.1, h1.2.1⟩
    · exact List.mem_append.2 (.inr (List.mem_flatMap.2 ⟨y.tm, List.mem_map.2 ⟨y, hy, rfl⟩, hs⟩))
/-- The two rows. -/
structure SI (B : Nat) (v u : Value) (ps : List TT) (ss : List SiteT) (w : World) : Prop where
  ov : w.ownsRow B 27 7 v ps.length (cells7 ps)
  ou : w.ownsRow B 52 5 u ss.length (cells5 ss)
  ne : ∀ g, v.ownBlock = some g → u.ownBlock ≠ some g
  pi : ∀ p, p ∈ ps → Pr1 B w p ∧ p.cok
  si : ∀ s, s ∈ ss → s.f.In w ∧ s.t.In w ∧ s.f.Bl (fun b => B ≤ b ∧ some b ≠ v.ownBlock ∧ some b ≠ u.ownBlock) ∧ s.t.Bl (fun b => B ≤ b ∧ some b ≠ v.ownBlock ∧ some b ≠ u.ownBlock)
theorem SI.below {B : Nat} {v u : Value} {ps : List TT} {ss : List SiteT} {w w' : World} (h : SI B v u ps ss w) (hb : Below w.heap.size w w') (hB : B ≤ w.heap.size) : SI B v u ps ss w' :=
  ⟨ownsRow_low h.ov hb, ownsRow_low h.ou hb, h.ne, fun p hp => ⟨(h.pi p hp).1.low (hb.mono hB), (h.pi p hp).2⟩, fun s hs => ⟨(h.si s hs).1.below hb, (h.si s hs).2.1.below hb, (h.si s hs).2.2⟩⟩
/-- A row that other blocks' growing leaves alone. -/
theorem ownsRow_far {w2 w3 : World} {B e size n : Nat} {v u : Value} {xs : List Value} (h : w2.ownsRow B e size u n xs) (hblk : ∀ k, k < w2.heap.size → some k ≠ v.ownBlock → w3.heap[k]? = w2.heap[k]?) (hne : ∀ g, v.ownBlock = some g → u.ownBlock ≠ some g) : w3.ownsRow B e size u n xs := by
  refine ⟨h.1, ?_⟩
  rcases h.2 with hn | ⟨g, cap, cur, hv, hb, hg, rest⟩
  · exact .inl hn
  · refine .inr ⟨g, cap, cur, hv, hb, (hblk g (Array.getElem?_eq_some_iff.1 hg).1 fun e => hne g e.symm ?_).trans hg, rest⟩
    rw [hv]; rfl
theorem SI.grow {B : Nat} {v u : Value} {ps : List TT} {ss : List SiteT} {w2 w3 : World} {x : Value} {gg : Nat} (h : SI B v u ps ss w2) (hB : B ≤ w2.heap.size) (hx : x = v ∨ x = u) (hblk : ∀ k, k < w2.heap.size → some k ≠ x.ownBlock → w3.heap[k]? = w2.heap[k]?) (hat : x.ownBlock = some gg ∨ w2.heap.size ≤ gg) :
    (∀ p, p ∈ ps → Pr1 B w3 p ∧ p.cok) ∧ ∀ s, s ∈ ss → s.f.In w3 ∧ s.t.In w3 ∧ s.f.Bl (fun b => (B ≤ b ∧ some b ≠ v.ownBlock ∧ some b ≠ u.ownBlock) ∧ b ≠ gg) ∧ s.t.Bl (fun b => (B ≤ b ∧ some b ≠ v.ownBlock ∧ some b ≠ u.ownBlock) ∧ b ≠ gg) := by
  have hxo : ∀ k, x.ownBlock = some k → B ≤ k := fun k hk => by
    rcases hx with rfl | rfl
    · exact (h.ov.lt k hk).1
    · exact (h.ou.lt k hk).1
  refine ⟨fun p hp => ⟨⟨(h.pi p hp).1.1.congr (P := (· < B)) (fun b hb o => ?_) (h.pi p hp).1.2, (h.pi p hp).1.2⟩, (h.pi p hp).2⟩, fun s hs => ?_⟩
  · exact World.cell?_of_block (a := ⟨b, o, none⟩) (hblk b (by omega) fun e => by have := hxo b e.symm; omega)
  · obtain ⟨h1, h2, h3, h4⟩ := h.si s hs
    have key : ∀ b, b < w2.heap.size ∧ (B ≤ b ∧ some b ≠ v.ownBlock ∧ some b ≠ u.ownBlock) → some b ≠ x.ownBlock := by
      intro b hb
      rcases hx with rfl | rfl
      · exact hb.2.2.1
      · exact hb.2.2.2
    have hc : ∀ b, b < w2.heap.size ∧ (B ≤ b ∧ some b ≠ v.ownBlock ∧ some b ≠ u.ownBlock) → ∀ o, w3.cell? ⟨b, o, none⟩ = w2.cell? ⟨b, o, none⟩ := fun b hb o =>
      World.cell?_of_block (a := ⟨b, o, none⟩) (hblk b hb.1 (key b hb))
    have hg : ∀ b, b < w2.heap.size ∧ (B ≤ b ∧ some b ≠ v.ownBlock ∧ some b ≠ u.ownBlock) → (B ≤ b ∧ some b ≠ v.ownBlock ∧ some b ≠ u.ownBlock) ∧ b ≠ gg := by
      intro b hb
      refine ⟨hb.2, fun e => ?_⟩
      subst e
      rcases hat with e | e
      · exact key b hb e.symm
      · omega
    exact ⟨h1.congr (P := fun b => b < w2.heap.size ∧ (B ≤ b ∧ some b ≠ v.ownBlock ∧ some b ≠ u.ownBlock)) hc (h1.bl.and h3), h2.congr (P := fun b => b < w2.heap.size ∧ (B ≤ b ∧ some b ≠ v.ownBlock ∧ some b ≠ u.ownBlock)) hc (h2.bl.and h4), (h1.bl.and h3).mono hg, (h2.bl.and h4).mono hg⟩
/-- One more term. -/
theorem SI.pushT {B : Nat} {v u : Value} {ps : List TT} {ss : List SiteT} {w2 w3 : World} {c : TT} {gg cap1 : Nat} {X : Obj} (h : SI B v u ps ss w2) (hB : B ≤ w2.heap.size) (hc : Pr1 B w2 c ∧ c.cok)
    (hown : w3.ownsRow B 27 7 (.slice (some ⟨gg, 0, none⟩) (ps.length + 1) cap1) (ps.length + 1) (cells7 ps ++ cells7 [c])) (hgrow : (w2.alloc X).grownBy w3 v.ownBlock) (hat : v.ownBlock = some gg ∨ gg = w2.heap.size + 1) :
    SI B (.slice (some ⟨gg, 0, none⟩) (ps.length + 1) cap1) u (ps ++ [c]) ss w3 ∧ ∀ k, k < w2.heap.size → some k ≠ v.ownBlock → w3.heap[k]? = w2.heap[k]? := by
  have hblk : ∀ k, k < w2.heap.size → some k ≠ v.ownBlock → w3.heap[k]? = w2.heap[k]? := fun k hk hn => by
    rw [hgrow.block k (by simp; omega) hn]
    exact ((Below.refl _ w2).alloc (Nat.le_refl _) X).block k hk
  have hat' : v.ownBlock = some gg ∨ w2.heap.size ≤ gg := by
    rcases hat with e | e
    · exact .inl e
    · exact .inr (by omega)
  obtain ⟨g1, g2⟩ := h.grow hB (.inl rfl) hblk hat'
  have hcw : Pr1 B w3 c := ⟨hc.1.1.congr (P := (· < B)) (fun b hb o => World.cell?_of_block (a := ⟨b, o, none⟩) (hblk b (by omega) fun e => by have := (h.ov.lt b e.symm).1; omega)) hc.1.2, hc.1.2⟩
  refine ⟨⟨by rw [cells7_append, List.length_append, List.length_singleton]; exact hown, ownsRow_far h.ou hblk h.ne, fun g e => ?_, fun p hp => ?_, fun s hs => ?_⟩, hblk⟩
  · have : gg = g := Option.some.inj e
    subst this
    rcases hat with e | e
    · exact h.ne _ e
    · intro e2
      have := (h.ou.lt _ e2).2
      omega
  · rcases List.mem_append.1 hp with hp | hp
    · exact g1 p hp
    · rcases List.mem_singleton.1 hp with rfl
      exact ⟨hcw, hc.2⟩
  · obtain ⟨h1, h2, h3, h4⟩ := g2 s hs
    exact ⟨h1, h2, h3.mono fun b hb => ⟨hb.1.1, fun e => hb.2 (Option.some.inj e), hb.1.2.2⟩, h4.mono fun b hb => ⟨hb.1.1, fun e => hb.2 (Option.some.inj e), hb.1.2.2⟩⟩
/-- One more cast. -/
theorem SI.pushS {B : Nat} {v u : Value} {ps : List TT} {ss : List SiteT} {w2 w3 : World} {s : SiteT} {gg cap1 : Nat} {X : Obj} (h : SI B v u ps ss w2) (hB : B ≤ w2.heap.size) (hf : s.f.In w2) (ht : s.t.In w2) (bf : s.f.Bl (fun b => B ≤ b ∧ some b ≠ v.ownBlock ∧ some b ≠ u.ownBlock)) (bt : s.t.Bl (fun b => B ≤ b ∧ some b ≠ v.ownBlock ∧ some b ≠ u.ownBlock))
    (hown : w3.ownsRow B 52 5 (.slice (some ⟨gg, 0, none⟩) (ss.length + 1) cap1) (ss.length + 1) (cells5 ss ++ cells5 [s])) (hgrow : (w2.alloc X).grownBy w3 u.ownBlock) (hat : u.ownBlock = some gg ∨ gg = w2.heap.size + 1) :
    SI B v (.slice (some ⟨gg, 0, none⟩) (ss.length + 1) cap1) ps (ss ++ [s]) w3 ∧ ∀ k, k < w2.heap.size → some k ≠ u.ownBlock → w3.heap[k]? = w2.heap[k]? := by
  have hblk : ∀ k, k < w2.heap.size → some k ≠ u.ownBlock → w3.heap[k]? = w2.heap[k]? := fun k hk hn => by
    rw [hgrow.block k (by simp; omega) hn]
    exact ((Below.refl _ w2).alloc (Nat.le_refl _) X).block k hk
  have hat' : u.ownBlock = some gg ∨ w2.heap.size ≤ gg := by
    rcases hat with e | e
    · exact .inl e
    · exact .inr (by omega)
  have h' : SI B v u ps (ss ++ [s]) w2 → True := fun _ => trivial
  obtain ⟨g1, g2⟩ := h.grow hB (.inr rfl) hblk hat'
  have hne2 : ∀ g, u.ownBlock = some g → v.ownBlock ≠ some g := fun g e e2 => h.ne g e2 e
  have hs3 : s.f.In w3 ∧ s.t.In w3 ∧ s.f.Bl (fun b => (B ≤ b ∧ some b ≠ v.ownBlock ∧ some b ≠ u.ownBlock) ∧ b ≠ gg) ∧ s.t.Bl (fun b => (B ≤ b ∧ some b ≠ v.ownBlock ∧ some b ≠ u.ownBlock) ∧ b ≠ gg) := by
    have hc : ∀ b, b < w2.heap.size ∧ (B ≤ b ∧ some b ≠ v.ownBlock ∧ some b ≠ u.ownBlock) → ∀ o, w3.cell? ⟨b, o, none⟩ = w2.cell? ⟨b, o, none⟩ := fun b hb o =>
      World.cell?_of_block (a := ⟨b, o, none⟩) (hblk b hb.1 hb.2.2.2)
    have hg : ∀ b, b < w2.heap.size ∧ (B ≤ b ∧ some b ≠ v.ownBlock ∧ some b ≠ u.ownBlock) → (B ≤ b ∧ some b ≠ v.ownBlock ∧ some b ≠ u.ownBlock) ∧ b ≠ gg := by
      intro b hb
      refine ⟨hb.2, fun e => ?_⟩
      subst e
      rcases hat with e | e
      · exact hb.2.2.2 e.symm
      · omega
    exact ⟨hf.congr (P := fun b => b < w2.heap.size ∧ (B ≤ b ∧ some b ≠ v.ownBlock ∧ some b ≠ u.ownBlock)) hc (hf.bl.and bf), ht.congr (P := fun b => b < w2.heap.size ∧ (B ≤ b ∧ some b ≠ v.ownBlock ∧ some b ≠ u.ownBlock)) hc (ht.bl.and bt), (hf.bl.and bf).mono hg, (ht.bl.and bt).mono hg⟩
  refine ⟨⟨ownsRow_far h.ov hblk hne2, by rw [cells5_append, List.length_append, List.length_singleton]; exact hown, fun g e => ?_, g1, fun q hq => ?_⟩, hblk⟩
  · intro e2
    have : gg = g := Option.some.inj e2
    subst this
    rcases hat with e3 | e3
    · exact h.ne _ e e3
    · have := (h.ov.lt _ e).2
      omega
  · have key : q.f.In w3 ∧ q.t.In w3 ∧ q.f.Bl (fun b => (B ≤ b ∧ some b ≠ v.ownBlock ∧ some b ≠ u.ownBlock) ∧ b ≠ gg) ∧ q.t.Bl (fun b => (B ≤ b ∧ some b ≠ v.ownBlock ∧ some b ≠ u.ownBlock) ∧ b ≠ gg) := by
      rcases List.mem_append.1 hq with hq | hq
      · exact g2 q hq
      · rcases List.mem_singleton.1 hq with rfl
        exact hs3
    obtain ⟨h1, h2, h3, h4⟩ := key
    exact ⟨h1, h2, h3.mono fun b hb => ⟨hb.1.1, hb.1.2.1, fun e => hb.2 (Option.some.inj e)⟩, h4.mono fun b hb => ⟨hb.1.1, hb.1.2.1, fun e => hb.2 (Option.some.inj e)⟩⟩
/-- A row of casts lies in the world. -/
def SL (w : World) (a : Option Addr) (ss : List SiteT) : Prop :=
  ∀ j (h : j < ss.length), ∃ b o, a = some ⟨b, o, none⟩ ∧ w.cell? ⟨b, o + j * 5, none⟩ = some (.int .i64 ss[j].n) ∧ w.cell? ⟨b, o + j * 5 + 1, none⟩ = some (.int .i64 ss[j].f.k) ∧ w.cell? ⟨b, o + j * 5 + 2, none⟩ = some (.slice ss[j].f.a ss[j].f.l.length ss[j].f.c) ∧ w.cell? ⟨b, o + j * 5 + 3, none⟩ = some (.int .i64 ss[j].t.k) ∧ w.cell? ⟨b, o + j * 5 + 4, none⟩ = some (.slice ss[j].t.a ss[j].t.l.length ss[j].t.c) ∧ ss[j].f.In w ∧ ss[j].t.In w
theorem SI.list {B : Nat} {v u : Value} {ps : List TT} {ss : List SiteT} {w : World} (h : SI B v u ps ss w) : ∃ a c, u = .slice a ss.length c ∧ (SL w a ss ∧ ss.length ≤ c) := by
  rcases h.ou.2 with ⟨rfl, h0⟩ | ⟨g, cap, cur, rfl, hg, _, hcl, _⟩
  · have : ss = [] := List.length_eq_zero_iff.1 h0
    subst this
    exact ⟨none, 0, rfl, fun j hj => absurd hj (by simp), by simp⟩
  · refine ⟨_, _, rfl, fun j hj => ⟨g, 0, rfl, ?_⟩, hcl⟩
    have hc : ∀ i, i < 5 → w.cell? ⟨g, 0 + j * 5 + i, none⟩ = _ := fun i hi => by rw [Nat.zero_add, h.ou.cellAt (j * 5 + i) (by omega), cells5_at ss j hj i hi]
    exact ⟨hc 0 (by omega), hc 1 (by omega), hc 2 (by omega), hc 3 (by omega), hc 4 (by omega), (h.si _ (List.getElem_mem hj)).1, (h.si _ (List.getElem_mem hj)).2.1⟩
/-- What is still to come. -/
def todo (ps : List TT) : List (Int × Ty × Ty) := ps.reverse.flatMap fun p => sitesM p.tm
theorem todo_snoc (us : List TT) (p : TT) : todo (us ++ [p]) = sitesM p.tm ++ todo us := by simp [todo]
theorem sitesM_tt (p : TT) : sitesM p.tm = (if p.k = 10 then [(p.n, p.f.ty, p.t.ty)] else []) ++ todo (p.l.reverse) := by
  obtain ⟨k, n, t, f, a, c, l⟩ := p
  rw [TT.tm_mk, sitesM_mk]
  simp [todo, List.flatMap_map]
theorem todo_append (us vs : List TT) : todo (us ++ vs) = todo vs ++ todo us := by simp [todo]
end Go.Proofs.YtnddkmccagiclabGreatDoor
