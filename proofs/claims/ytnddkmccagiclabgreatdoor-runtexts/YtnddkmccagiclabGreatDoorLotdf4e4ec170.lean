/-
  Rows of terms that a call makes longer, in blocks of a kind; the frame of chaperonekeep.loose; no program's run in it.
-/
import Derived.Test.YtnddkmccagiclabGreatDoorLoteba9d6d245
import Derived.Deep.DeepCutAuto
import Derived.Test.YtnddkmccagiclabGreatDoorLoted756f28d3
import Derived.Test.YtnddkmccagiclabGreatDoorLot4ae5b21284
import Derived.Test.YtnddkmccagiclabGreatDoorLot789dfea93b
import Derived.Deep.LoopGhost
namespace Go.Proofs.YtnddkmccagiclabGreatDoor
open Go.RowKit
structure RowT (Q : Nat → Prop) (base : Nat) (v : Value) (cs : List TT) (w : World) : Prop where
  own : w.ownsRow base 27 7 v cs.length (cells7 cs)
  ins : ∀ c, c ∈ cs → c.In w ∧ c.Bl (fun b => Q b ∧ some b ≠ v.ownBlock)
theorem RowT.nil (Q : Nat → Prop) (base : Nat) (w : World) : RowT Q base (.slice none 0 0) [] w := ⟨World.ownsRow_nil _ _ _ _, fun c h => by cases h⟩
theorem RowT.below {Q : Nat → Prop} {base : Nat} {v : Value} {cs : List TT} {w w' : World} (h : RowT Q base v cs w) (hb : Below w.heap.size w w') : RowT Q base v cs w' := by
  refine ⟨⟨h.own.1, ?_⟩, fun c hc => ⟨(h.ins c hc).1.below hb, (h.ins c hc).2⟩⟩
  rcases h.own.2 with hn | ⟨g, cap, cur, hv, hb', hg, rest⟩
  · exact .inl hn
  · exact .inr ⟨g, cap, cur, hv, hb', (hb.block g (Array.getElem?_eq_some_iff.1 hg).1).trans hg, rest⟩
theorem RowT.lt {Q : Nat → Prop} {base : Nat} {v : Value} {cs : List TT} {w : World} (h : RowT Q base v cs w) (k : Nat) (hk : v.ownBlock = some k) : base ≤ k ∧ k < w.heap.size := h.own.lt k hk
/-- One more. -/
theorem RowT.step {Q : Nat → Prop} {base : Nat} {v : Value} {cs : List TT} {w2 w3 : World} {c : TT} {gg cap1 : Nat} {X : Obj} (h : RowT Q base v cs w2) (hi : c.In w2) (hb : c.Bl (fun b => Q b ∧ some b ≠ v.ownBlock))
    (hown : w3.ownsRow base 27 7 (.slice (some ⟨gg, 0, none⟩) (cs.length + 1) cap1) (cs.length + 1) (cells7 cs ++ cells7 [c])) (hgrow : (w2.alloc X).grownBy w3 v.ownBlock) (hat : v.ownBlock = some gg ∨ gg = w2.heap.size + 1) :
    RowT Q base (.slice (some ⟨gg, 0, none⟩) (cs.length + 1) cap1) (cs ++ [c]) w3 ∧ ∀ k, k < w2.heap.size → some k ≠ v.ownBlock → w3.heap[k]? = w2.heap[k]? := by
  have hblk : ∀ k, k < w2.heap.size → some k ≠ v.ownBlock → w3.heap[k]? = w2.heap[k]? := fun k hk hn => by
    rw [hgrow.block k (by simp; omega) hn]
    exact ((Below.refl _ w2).alloc (Nat.le_refl _) X).block k hk
  refine ⟨⟨by rw [cells7_append, List.length_append, List.length_singleton]; exact hown, fun d hd => ?_⟩, hblk⟩
  have key : d.In w2 ∧ d.Bl (fun b => Q b ∧ some b ≠ v.ownBlock) := by
    rcases List.mem_append.1 hd with hd | hd
    · exact h.ins d hd
    · rcases List.mem_singleton.1 hd with rfl
      exact ⟨hi, hb⟩
  have hne : ∀ b, b < w2.heap.size ∧ (Q b ∧ some b ≠ v.ownBlock) → Q b ∧ some b ≠ (Value.slice (some ⟨gg, 0, none⟩) (cs.length + 1) cap1).ownBlock := by
    intro b hb
    refine ⟨hb.2.1, ?_⟩
    show some b ≠ some gg
    rcases hat with e | e
    · rw [← e]; exact hb.2.2
    · simp only [ne_eq, Option.some.injEq]; omega
  have hsame : ∀ b, b < w2.heap.size ∧ (Q b ∧ some b ≠ v.ownBlock) → ∀ i, w3.cell? ⟨b, i, none⟩ = w2.cell? ⟨b, i, none⟩ := fun b hb i =>
    World.cell?_of_block (a := ⟨b, i, none⟩) (hblk b hb.1 hb.2.2)
  have y3 := key.1.bl.and key.2
  exact ⟨key.1.congr (P := fun b => b < w2.heap.size ∧ (Q b ∧ some b ≠ v.ownBlock)) hsame y3, y3.mono hne⟩
/-- A row that the call owns is a term's list. -/
theorem RowT.list {Q : Nat → Prop} {base : Nat} {v : Value} {cs : List TT} {w : World} (h : RowT Q base v cs w) : ∃ a c, v = .slice a cs.length c ∧ (∀ j (hj : j < cs.length), ∃ b o, a = some ⟨b, o, none⟩ ∧ At7 w b (o + j * 7) cs[j]) ∧ (∀ y, cs ≠ [] → a = some y → base ≤ y.block) := by
  rcases h.own.2 with ⟨rfl, h0⟩ | ⟨g, cap, cur, rfl, hg, _⟩
  · have : cs = [] := List.length_eq_zero_iff.1 h0
    subst this
    exact ⟨none, 0, rfl, fun j hj => absurd hj (by simp), fun y h => absurd rfl h⟩
  · refine ⟨_, _, rfl, fun j hj => ⟨g, 0, rfl, ?_⟩, fun y _ hy => by cases hy; exact hg⟩
    have hc : ∀ i, i < 7 → w.cell? ⟨g, 0 + j * 7 + i, none⟩ = _ := fun i hi => by rw [Nat.zero_add, h.own.cellAt (j * 7 + i) (by omega), cells7_at cs j hj i hi]
    exact ⟨hc 0 (by omega), hc 1 (by omega), hc 2 (by omega), hc 3 (by omega), hc 4 (by omega), hc 5 (by omega), hc 6 (by omega)⟩
/-- The frame of loose: the term's box, the place of the answer. -/
structure LF (H : Nat) (x : TT) (W : World) : Prop where
  b : Box7 W H x
  z : ZB7 W (H + 1)
theorem LF.lt {H : Nat} {x : TT} {W : World} (h : LF H x W) : H + 1 < W.heap.size := h.z.lt
theorem LF.below {H : Nat} {x : TT} {W W' : World} (h : LF H x W) (hb : Below W.heap.size W W') : LF H x W' := ⟨h.b.below hb, h.z.later hb⟩
theorem LF.far {H : Nat} {x : TT} {W W' : World} (h : LF H x W) (h1 : W'.heap[H]? = W.heap[H]?) (h2 : W'.heap[H + 1]? = W.heap[H + 1]?) : LF H x W' := by
  have c1 : ∀ i, W'.cell? ⟨H, i, none⟩ = W.cell? ⟨H, i, none⟩ := fun i => World.cell?_of_block (a := ⟨H, i, none⟩) h1
  have c2 : ∀ i, W'.cell? ⟨H + 1, i, none⟩ = W.cell? ⟨H + 1, i, none⟩ := fun i => World.cell?_of_block (a := ⟨H + 1, i, none⟩) h2
  have f1 : ∀ i, W'.frozen? ⟨H, i, none⟩ = W.frozen? ⟨H, i, none⟩ := fun i => World.frozen?_of_block (a := ⟨H, i, none⟩) h1
  have f2 : ∀ i, W'.frozen? ⟨H + 1, i, none⟩ = W.frozen? ⟨H + 1, i, none⟩ := fun i => World.frozen?_of_block (a := ⟨H + 1, i, none⟩) h2
  obtain ⟨⟨y0, y1, y2, y3, y4, y5, y6⟩, g0, g1, g2, g3, g4, g5, g6⟩ := h.z
  exact ⟨⟨h.b.at7.of c1, fun i hi => (f1 i).trans (h.b.fz i hi)⟩, ⟨(c2 0).trans y0, (c2 1).trans y1, (c2 2).trans y2, (c2 3).trans y3, (c2 4).trans y4, (c2 5).trans y5, (c2 6).trans y6⟩, (f2 0).trans g0, (f2 1).trans g1, (f2 2).trans g2, (f2 3).trans g3, (f2 4).trans g4, (f2 5).trans g5, (f2 6).trans g6⟩
theorem LF.start (x : TT) (w : World) : LF w.heap.size x ((w.alloc (.cells #[.int .i64 x.k, .int .i64 x.n, .int .i64 x.t.k, .slice x.t.a x.t.l.length x.t.c, .int .i64 x.f.k, .slice x.f.a x.f.l.length x.f.c, .slice x.a x.l.length x.c] 27)).alloc (.cells #[.int .i64 0, .int .i64 0, .int .i64 0, .slice none 0 0, .int .i64 0, .slice none 0 0, .slice none 0 0] 27)) := by
  refine ⟨⟨⟨?_, ?_, ?_, ?_, ?_, ?_, ?_⟩, fun i _ => ?_⟩, ⟨?_, ?_, ?_, ?_, ?_, ?_, ?_⟩, ?_, ?_, ?_, ?_, ?_, ?_, ?_⟩ <;> simp [go_sem]
end Go.Proofs.YtnddkmccagiclabGreatDoor

/-
  What the call of chaperonekeep.loose answers: a term that tells less, or as much.
-/
namespace Go.Proofs.YtnddkmccagiclabGreatDoor
open Go.RowKit
/-- No list is longer than what memory holds. -/
def TT.lw : TT → Prop
  | ⟨_, _, _, _, _, _, l⟩ => l.length ≤ 1353245080300 ∧ ∀ y, y ∈ l → y.lw
theorem TT.lw_mk {k n : Int} {t f : Tr} {a : Option Addr} {c : Nat} {l : List TT} : (TT.mk k n t f a c l).lw ↔ l.length ≤ 1353245080300 ∧ ∀ y, y ∈ l → y.lw := by
  rw [TT.lw]
theorem TT.lw.len {x : TT} (h : x.lw) : x.l.length ≤ 1353245080300 := by cases x; exact (TT.lw_mk.1 h).1
theorem TT.lw.mem {x y : TT} (h : x.lw) (hy : y ∈ x.l) : y.lw := by
  obtain ⟨k, n, t, f, a, c, l⟩ := x
  exact (TT.lw_mk.1 h).2 y hy
theorem ZB7.kept {R b : Nat} {w w' : World} (h : ZB7 w b) (hk : Kept R none w w') (hb : b ≠ R) : ZB7 w' b := by
  have hl := h.lt
  obtain ⟨⟨h0, h1, h2, h3, h4, h5, h6⟩, f0, f1, f2, f3, f4, f5, f6⟩ := h
  exact ⟨⟨hk.cell h0 hb, hk.cell h1 hb, hk.cell h2 hb, hk.cell h3 hb, hk.cell h4 hb, hk.cell h5 hb, hk.cell h6 hb⟩, hk.fz f0 hl hb, hk.fz f1 hl hb, hk.fz f2 hl hb, hk.fz f3 hl hb, hk.fz f4 hl hb, hk.fz f5 hl hb, hk.fz f6 hl hb⟩
end Go.Proofs.YtnddkmccagiclabGreatDoor

/-
  What the call of chaperoneref.SameTerm answers at two terms that lie in memory and are alike.
-/
namespace Go.Proofs.YtnddkmccagiclabGreatDoor
open Go.RowKit
/-- No list of its types is too long. -/
def TT.tsm : TT → Prop
  | ⟨_, _, t, f, _, _, l⟩ => t.sm ∧ f.sm ∧ ∀ y, y ∈ l → y.tsm
theorem TT.tsm_mk {k n : Int} {t f : Tr} {a : Option Addr} {c : Nat} {l : List TT} : (TT.mk k n t f a c l).tsm ↔ t.sm ∧ f.sm ∧ ∀ y, y ∈ l → y.tsm := by
  rw [TT.tsm]
theorem TT.tsm.t {x : TT} (h : x.tsm) : x.t.sm := by cases x; exact (TT.tsm_mk.1 h).1
theorem TT.tsm.f {x : TT} (h : x.tsm) : x.f.sm := by cases x; exact (TT.tsm_mk.1 h).2.1
theorem TT.tsm.mem {x y : TT} (h : x.tsm) (hy : y ∈ x.l) : y.tsm := by
  obtain ⟨k, n, t, f, a, c, l⟩ := x
  exact (TT.tsm_mk.1 h).2.2 y hy
set_option maxHeartbeats 1000000 in
theorem sameTerm_step (x y : TT) (w : World) (hx : x.In w) (hy : y.In w) (hm : x.tm = y.tm) (hlw : x.lw) (hts : x.tsm)
    (ih : Hid (∀ (j : Nat) (hj : j < x.l.length) (z : TT) (w : World), x.l[j].In w → z.In w → x.l[j].tm = z.tm → Calls Tryz.prog 22 #[.agg #[.int .i64 x.l[j].k, .int .i64 x.l[j].n, .int .i64 x.l[j].t.k, .slice x.l[j].t.a x.l[j].t.l.length x.l[j].t.c, .int .i64 x.l[j].f.k, .slice x.l[j].f.a x.l[j].f.l.length x.l[j].f.c, .slice x.l[j].a x.l[j].l.length x.l[j].c], .agg #[.int .i64 z.k, .int .i64 z.n, .int .i64 z.t.k, .slice z.t.a z.t.l.length z.t.c, .int .i64 z.f.k, .slice z.f.a z.f.l.length z.f.c, .slice z.a z.l.length z.c]] w fun e w' => e = .returned (.bool true) ∧ Below w.heap.size w w')) :
    Calls Tryz.prog 22 #[.agg #[.int .i64 x.k, .int .i64 x.n, .int .i64 x.t.k, .slice x.t.a x.t.l.length x.t.c, .int .i64 x.f.k, .slice x.f.a x.f.l.length x.f.c, .slice x.a x.l.length x.c], .agg #[.int .i64 y.k, .int .i64 y.n, .int .i64 y.t.k, .slice y.t.a y.t.l.length y.t.c, .int .i64 y.f.k, .slice y.f.a y.f.l.length y.f.c, .slice y.a y.l.length y.c]] w fun e w' => e = .returned (.bool true) ∧ Below w.heap.size w w' := by
  have hlen := hlw.len
  obtain ⟨hk, hn, hl, ht, hf, hp⟩ := tm_parts hm
  have HT : Hid (∀ W, x.t.In W → y.t.In W → Calls Tryz.prog 39 #[.agg #[.int .i64 x.t.k, .slice x.t.a x.t.l.length x.t.c], .agg #[.int .i64 y.t.k, .slice y.t.a y.t.l.length y.t.c]] W fun e w' => e = .returned (.bool true) ∧ Below W.heap.size W w') := by
    intro W h1 h2
    have := sameType_any _ x.t y.t W h1 h2 (Nat.le_refl _) hts.t
    rw [ht, relY_refl] at this
    exact this
  have HF : Hid (∀ W, x.f.In W → y.f.In W → Calls Tryz.prog 39 #[.agg #[.int .i64 x.f.k, .slice x.f.a x.f.l.length x.f.c], .agg #[.int .i64 y.f.k, .slice y.f.a y.f.l.length y.f.c]] W fun e w' => e = .returned (.bool true) ∧ Below W.heap.size W w') := by
    intro W h1 h2
    have := sameType_any _ x.f y.f W h1 h2 (Nat.le_refl _) hts.f
    rw [hf, relY_refl] at this
    exact this
  have e1 : (x.k == y.k) = true := by simp [hk]
  have e2 : (x.n == y.n) = true := by simp [hn]
  have e3 : ((x.l.length : Int) == (y.l.length : Int)) = true := by simp [hl]
  have HB : Hid (∀ o o', Below w.heap.size w ((w.alloc o).alloc o')) := fun o o' => ((Below.refl _ _).alloc (Nat.le_refl _) _).alloc (by simp) _
  have HX : Hid (x.In w ∧ y.In w) := ⟨hx, hy⟩
  have HP : Hid (x.l.length = y.l.length ∧ x.l.map TT.tm = y.l.map TT.tm) := ⟨hl, hp⟩
  clear hk hn hl ht hf hp hm hts hlw
  go_enter Tryz.func22, Tryz.ntmps22
  go_wp2_with fail
  refine (HT.out _ (HX.out.1.below (HB.out _ _)).t (HX.out.2.below (HB.out _ _)).t).mono ?_
  rintro e w1 ⟨rfl, hb1⟩
  have hbw : Below w.heap.size w w1 := (HB.out _ _).trans (hb1.mono (by simp; omega))
  have q4 : w1.cell? ⟨w.heap.size, 4, none⟩ = some (.int .i64 x.f.k) := cell_later hb1 (by simp [go_sem])
  have q5 : w1.cell? ⟨w.heap.size, 5, none⟩ = some (.slice x.f.a x.f.l.length x.f.c) := cell_later hb1 (by simp [go_sem])
  have q6 : w1.cell? ⟨w.heap.size, 6, none⟩ = some (.slice x.a x.l.length x.c) := cell_later hb1 (by simp [go_sem])
  have p4 : w1.cell? ⟨w.heap.size + 1, 4, none⟩ = some (.int .i64 y.f.k) := cell_later hb1 (by simp [go_sem])
  have p5 : w1.cell? ⟨w.heap.size + 1, 5, none⟩ = some (.slice y.f.a y.f.l.length y.f.c) := cell_later hb1 (by simp [go_sem])
  have p6 : w1.cell? ⟨w.heap.size + 1, 6, none⟩ = some (.slice y.a y.l.length y.c) := cell_later hb1 (by simp [go_sem])
  clear hb1
  go_wp2_with fail
  refine (HF.out _ (HX.out.1.below hbw).f (HX.out.2.below hbw).f).mono ?_
  rintro e w2 ⟨rfl, hb2⟩
  have hbz := hbw.trans (hb2.mono hbw.size)
  replace q6 := cell_later hb2 q6
  replace p6 := cell_later hb2 p6
  clear hb2 hbw q4 q5 p4 p5 HT HF
  go_wp2_with fail
  go_loopg [5, 6] (x.l.length) (fun g b i wr => ∃ (j : Nat), j ≤ x.l.length ∧ g = x.l.length - j ∧ b = .bool true ∧ i = .int .i64 (j : Int) ∧ Below w.heap.size w wr ∧ wr.cell? ⟨w.heap.size, 6, none⟩ = some (.slice x.a x.l.length x.c) ∧ wr.cell? ⟨w.heap.size + 1, 6, none⟩ = some (.slice y.a y.l.length y.c))
  case atStart => exact ⟨0, Nat.zero_le _, rfl, rfl, rfl, hbz, q6, p6⟩
  case round =>
    obtain ⟨j, hj, hg, rfl, rfl, hbwr, p1, p3⟩ := hrel
    have HG : Hid (gk = x.l.length - j) := hg
    clear hg
    by_cases hlt : j < x.l.length
    · have hlt' : j < y.l.length := HP.out.1 ▸ hlt
      have HM : Hid (x.l[j].tm = y.l[j].tm) := by
        have h := congrArg (fun l => l[j]?) HP.out.2
        simp only [List.getElem?_map, List.getElem?_eq_getElem hlt, List.getElem?_eq_getElem hlt', Option.map_some, Option.some.injEq] at h
        exact h
      obtain ⟨b, o, ea, ⟨x0, x1, x2, x3, x4, x5, x6⟩, hxj⟩ := hx.part j hlt
      obtain ⟨b', o', eb, ⟨y0, y1, y2, y3, y4, y5, y6⟩, hyj⟩ := hy.part j hlt'
      have q1 : wr.cell? ⟨w.heap.size, 6, none⟩ = some (.slice (some ⟨b, o, none⟩) x.l.length x.c) := by rw [← ea]; exact p1
      have q3 : wr.cell? ⟨w.heap.size + 1, 6, none⟩ = some (.slice (some ⟨b', o', none⟩) y.l.length y.c) := by rw [← eb]; exact p3
      have HPP : Hid (wr.cell? ⟨w.heap.size, 6, none⟩ = some (.slice x.a x.l.length x.c) ∧ wr.cell? ⟨w.heap.size + 1, 6, none⟩ = some (.slice y.a y.l.length y.c)) := ⟨p1, p3⟩
      replace x0 := cell_later hbwr x0
      replace x1 := cell_later hbwr x1
      replace x2 := cell_later hbwr x2
      replace x3 := cell_later hbwr x3
      replace x4 := cell_later hbwr x4
      replace x5 := cell_later hbwr x5
      replace x6 := cell_later hbwr x6
      replace y0 := cell_later hbwr y0
      replace y1 := cell_later hbwr y1
      replace y2 := cell_later hbwr y2
      replace y3 := cell_later hbwr y3
      replace y4 := cell_later hbwr y4
      replace y5 := cell_later hbwr y5
      replace y6 := cell_later hbwr y6
      have i1 : (j : Int) < (x.l.length : Int) := by omega
      have i2 : (j : Int) < (y.l.length : Int) := by omega
      have i0 : (0 : Int) ≤ (j : Int) := by omega
      have HC : Hid (∀ (w : World), x.l[j].In w → y.l[j].In w → Calls Tryz.prog 22 #[.agg #[.int .i64 x.l[j].k, .int .i64 x.l[j].n, .int .i64 x.l[j].t.k, .slice x.l[j].t.a x.l[j].t.l.length x.l[j].t.c, .int .i64 x.l[j].f.k, .slice x.l[j].f.a x.l[j].f.l.length x.l[j].f.c, .slice x.l[j].a x.l[j].l.length x.l[j].c], .agg #[.int .i64 y.l[j].k, .int .i64 y.l[j].n, .int .i64 y.l[j].t.k, .slice y.l[j].t.a y.l[j].t.l.length y.l[j].t.c, .int .i64 y.l[j].f.k, .slice y.l[j].f.a y.l[j].f.l.length y.l[j].f.c, .slice y.l[j].a y.l[j].l.length y.l[j].c]] w fun e w' => e = .returned (.bool true) ∧ Below w.heap.size w w') := fun w h1 h2 => ih.out j hlt y.l[j] w h1 h2 HM.out
      clear p1 p3 ea eb hx hy HM HX HB
      go_wp2_with fail
      go_region_held3 (fun w' => w'.cell? ⟨w.heap.size, 6, none⟩ = some (.slice (some ⟨b, o, none⟩) x.l.length x.c) ∧ w'.cell? ⟨w.heap.size + 1, 6, none⟩ = some (.slice (some ⟨b', o', none⟩) y.l.length y.c) ∧ w'.cell? ⟨b, o + j * 7, none⟩ = some (.int .i64 x.l[j].k) ∧ w'.cell? ⟨b, o + j * 7 + 1, none⟩ = some (.int .i64 x.l[j].n) ∧ w'.cell? ⟨b, o + j * 7 + 2, none⟩ = some (.int .i64 x.l[j].t.k) ∧ w'.cell? ⟨b, o + j * 7 + 3, none⟩ = some (.slice x.l[j].t.a x.l[j].t.l.length x.l[j].t.c) ∧ w'.cell? ⟨b, o + j * 7 + 4, none⟩ = some (.int .i64 x.l[j].f.k) ∧ w'.cell? ⟨b, o + j * 7 + 5, none⟩ = some (.slice x.l[j].f.a x.l[j].f.l.length x.l[j].f.c) ∧ w'.cell? ⟨b, o + j * 7 + 6, none⟩ = some (.slice x.l[j].a x.l[j].l.length x.l[j].c) ∧ w'.cell? ⟨b', o' + j * 7, none⟩ = some (.int .i64 y.l[j].k) ∧ w'.cell? ⟨b', o' + j * 7 + 1, none⟩ = some (.int .i64 y.l[j].n) ∧ w'.cell? ⟨b', o' + j * 7 + 2, none⟩ = some (.int .i64 y.l[j].t.k) ∧ w'.cell? ⟨b', o' + j * 7 + 3, none⟩ = some (.slice y.l[j].t.a y.l[j].t.l.length y.l[j].t.c) ∧ w'.cell? ⟨b', o' + j * 7 + 4, none⟩ = some (.int .i64 y.l[j].f.k) ∧ w'.cell? ⟨b', o' + j * 7 + 5, none⟩ = some (.slice y.l[j].f.a y.l[j].f.l.length y.l[j].f.c) ∧ w'.cell? ⟨b', o' + j * 7 + 6, none⟩ = some (.slice y.l[j].a y.l[j].l.length y.l[j].c))
        (first | exact ⟨cell_later hb2 q1, cell_later hb2 q3, cell_later hb2 x0, cell_later hb2 x1, cell_later hb2 x2, cell_later hb2 x3, cell_later hb2 x4, cell_later hb2 x5, cell_later hb2 x6, cell_later hb2 y0, cell_later hb2 y1, cell_later hb2 y2, cell_later hb2 y3, cell_later hb2 y4, cell_later hb2 y5, cell_later hb2 y6⟩ | go_keep)
        (first | (go_at_call 22; refine (HC.out _ (hxj.below hbwr.drew) (hyj.below hbwr.drew)).mono ?_; rintro e w2 ⟨rfl, hb2⟩))
      have hbr2 : Below w.heap.size w w2 := hbwr.drew.trans (hb2.mono hbwr.size)
      have s1 := cell_later hb2 HPP.out.1
      have s3 := cell_later hb2 HPP.out.2
      clear hb2 q1 q3 x0 x1 x2 x3 x4 x5 x6 y0 y1 y2 y3 y4 y5 y6 HC HPP
      go_wp2_with fail
      go_roundg (x.l.length - (j + 1))
      case measure => rw [HG.out]; omega
      case rel => exact ⟨j + 1, by omega, rfl, rfl, by go_num, hbr2, s1, s3⟩
    · go_wp2_with fail
      go_ret
      exact ⟨rfl, hbwr⟩
/-- chaperoneref.SameTerm, of two that are alike. -/
theorem sameTerm_yes : ∀ (x y : TT) (w : World), x.In w → y.In w → x.tm = y.tm → x.lw → x.tsm → Calls Tryz.prog 22 #[.agg #[.int .i64 x.k, .int .i64 x.n, .int .i64 x.t.k, .slice x.t.a x.t.l.length x.t.c, .int .i64 x.f.k, .slice x.f.a x.f.l.length x.f.c, .slice x.a x.l.length x.c], .agg #[.int .i64 y.k, .int .i64 y.n, .int .i64 y.t.k, .slice y.t.a y.t.l.length y.t.c, .int .i64 y.f.k, .slice y.f.a y.f.l.length y.f.c, .slice y.a y.l.length y.c]] w fun e w' => e = .returned (.bool true) ∧ Below w.heap.size w w' := by
  intro x
  induction x using TT.ind with
  | h k n t f a c l ih =>
    intro y w hx hy hm hl ht
    exact sameTerm_step ⟨k, n, t, f, a, c, l⟩ y w hx hy hm hl ht (fun j hj z w h1 h2 h3 => ih _ (List.getElem_mem hj) z w h1 h2 h3 (hl.mem (List.getElem_mem hj)) (ht.mem (List.getElem_mem hj)))
end Go.Proofs.YtnddkmccagiclabGreatDoor

/-
  What the call of chaperoneref.CopyTerm leaves: the copy's row while it grows; no run of the program in it.
-/
namespace Go.Proofs.YtnddkmccagiclabGreatDoor
open Go.RowKit
theorem Box7.blk {J : Nat} {w w' : World} {x : TT} (h : Box7 w J x) (e : w'.heap[J]? = w.heap[J]?) : Box7 w' J x :=
  ⟨h.at7.of fun i => World.cell?_of_block (a := ⟨J, i, none⟩) e, fun i hi => (World.frozen?_of_block (a := ⟨J, i, none⟩) e).trans (h.fz i hi)⟩
theorem ZB7.blk {J : Nat} {w w' : World} (h : ZB7 w J) (e : w'.heap[J]? = w.heap[J]?) : ZB7 w' J := by
  have hc : ∀ i, w'.cell? ⟨J, i, none⟩ = w.cell? ⟨J, i, none⟩ := fun i => World.cell?_of_block (a := ⟨J, i, none⟩) e
  have hf : ∀ i, w'.frozen? ⟨J, i, none⟩ = w.frozen? ⟨J, i, none⟩ := fun i => World.frozen?_of_block (a := ⟨J, i, none⟩) e
  obtain ⟨⟨h0, h1, h2, h3, h4, h5, h6⟩, f0, f1, f2, f3, f4, f5, f6⟩ := h
  exact ⟨⟨(hc _).trans h0, (hc _).trans h1, (hc _).trans h2, (hc _).trans h3, (hc _).trans h4, (hc _).trans h5, (hc _).trans h6⟩, (hf _).trans f0, (hf _).trans f1, (hf _).trans f2, (hf _).trans f3, (hf _).trans f4, (hf _).trans f5, (hf _).trans f6⟩
/-- Its types are no larger than copies are proved of. -/
def TT.csz : TT → Prop
  | ⟨_, _, t, f, _, _, l⟩ => t.sz ≤ 100000000 ∧ f.sz ≤ 100000000 ∧ ∀ y, y ∈ l → y.csz
theorem TT.csz_mk {k n : Int} {t f : Tr} {a : Option Addr} {c : Nat} {l : List TT} : (TT.mk k n t f a c l).csz ↔ t.sz ≤ 100000000 ∧ f.sz ≤ 100000000 ∧ ∀ y, y ∈ l → y.csz := by
  rw [TT.csz]
theorem TT.csz.t {x : TT} (h : x.csz) : x.t.sz ≤ 100000000 := by cases x; exact (TT.csz_mk.1 h).1
theorem TT.csz.f {x : TT} (h : x.csz) : x.f.sz ≤ 100000000 := by cases x; exact (TT.csz_mk.1 h).2.1
theorem TT.csz.mem {x y : TT} (h : x.csz) (hy : y ∈ x.l) : y.csz := by
  obtain ⟨k, n, t, f, a, c, l⟩ := x
  exact (TT.csz_mk.1 h).2.2 y hy
/-- While the parts are copied: j of them. -/
structure CT (S : Nat) (x : TT) (t f : Tr) (j : Nat) (v : Value) (cs : List TT) (w wr : World) : Prop where
  row : Row (S + 1 + 1) v cs wr
  tm : cs.map TT.tm = (x.l.take j).map TT.tm
  low : Below S w wr
  box : ∃ a c, v = .slice a cs.length c ∧ Box7 wr S ⟨x.k, x.n, t, f, a, c, cs⟩
  z : ZB7 wr (S + 1)
  tin : t.In wr ∧ t.Bl (fun b => S + 1 + 1 ≤ b ∧ some b ≠ v.ownBlock)
  fin : f.In wr ∧ f.Bl (fun b => S + 1 + 1 ≤ b ∧ some b ≠ v.ownBlock)
theorem CT.len {S : Nat} {x : TT} {t f : Tr} {j : Nat} {v : Value} {cs : List TT} {w wr : World} (h : CT S x t f j v cs w wr) (hj : j ≤ x.l.length) : cs.length = j := by
  have := congrArg List.length h.tm
  simpa [Nat.min_eq_left hj] using this
theorem CT.step {S : Nat} {x c : TT} {t f : Tr} {j gg cap1 : Nat} {v : Value} {cs : List TT} {w wr w1 w2 w3 : World} {X : Obj} (h : CT S x t f j v cs w wr) (hj : j < x.l.length) (hb1 : Below wr.heap.size wr w1) (ht : c.tm = x.l[j].tm) (hin : c.In w2) (hbl : c.Bl (w1.heap.size ≤ ·)) (hb2 : Below w1.heap.size w1 w2)
    (hown : w3.ownsRow (S + 1 + 1) 27 7 (.slice (some ⟨gg, 0, none⟩) (cs.length + 1) cap1) (cs.length + 1) (cells7 cs ++ [.int .i64 c.k, .int .i64 c.n, .int .i64 c.t.k, .slice c.t.a c.t.l.length c.t.c, .int .i64 c.f.k, .slice c.f.a c.f.l.length c.f.c, .slice c.a c.l.length c.c])) (hgrow : (w2.alloc X).grownBy w3 v.ownBlock) (hat : v.ownBlock = some gg ∨ gg = w2.heap.size + 1) :
    CT S x t f (j + 1) (.slice (some ⟨gg, 0, none⟩) (cs.length + 1) cap1) (cs ++ [c]) w (w3.setCell ⟨S, 6, none⟩ (.slice (some ⟨gg, 0, none⟩) (cs.length + 1) cap1)) := by
  have s1 := hb1.size
  have s2 := hb2.size
  have hlr : S + 1 < wr.heap.size := h.z.lt
  have hbr : Below wr.heap.size wr w2 := hb1.trans (hb2.mono s1)
  have hov := h.row.lt
  obtain ⟨hr3, hblk⟩ := (h.row.below hbr).step hin (hbl.mono fun b hb => ⟨by omega, fun e => by have := (hov b e.symm).2; omega⟩) (by simpa [cells7] using hown) hgrow hat
  have hno : ∀ k, k ≤ S + 1 → some k ≠ v.ownBlock := fun k hk e => by have := (hov k e.symm).1; omega
  have hold : ∀ k, k < wr.heap.size → some k ≠ v.ownBlock → w3.heap[k]? = wr.heap[k]? := fun k hk hn => (hblk k (by omega) hn).trans (hbr.block k hk)
  have hset : ∀ k i, k ≠ S → (w3.setCell ⟨S, 6, none⟩ (.slice (some ⟨gg, 0, none⟩) (cs.length + 1) cap1)).cell? ⟨k, i, none⟩ = w3.cell? ⟨k, i, none⟩ := by
    intro k i hk
    rw [World.cell?_setCell_other]
    intro e; simp only [Addr.mk.injEq] at e; omega
  have hty : ∀ q : Tr, (q.In wr ∧ q.Bl (fun b => S + 1 + 1 ≤ b ∧ some b ≠ v.ownBlock)) → (q.In (w3.setCell ⟨S, 6, none⟩ (.slice (some ⟨gg, 0, none⟩) (cs.length + 1) cap1)) ∧ q.Bl (fun b => S + 1 + 1 ≤ b ∧ some b ≠ (Value.slice (some ⟨gg, 0, none⟩) (cs.length + 1) cap1).ownBlock)) := by
    rintro q ⟨i1, i2⟩
    have i3 := i1.bl.and i2
    refine ⟨i1.congr (P := fun b => b < wr.heap.size ∧ S + 1 + 1 ≤ b ∧ some b ≠ v.ownBlock) (fun b hb i => ?_) i3, i3.mono fun b hb => ⟨hb.2.1, ?_⟩⟩
    · rw [hset b i (by omega)]
      exact World.cell?_of_block (a := ⟨b, i, none⟩) (hold b hb.1 hb.2.2)
    · show some b ≠ some gg
      rcases hat with e | e
      · rw [← e]; exact hb.2.2
      · simp only [ne_eq, Option.some.injEq]; omega
  refine ⟨hr3.kept (R := S) setR_kept (by omega), ?_, ?_, ?_, ?_, hty t h.tin, hty f h.fin⟩
  · rw [List.take_succ_eq_append_getElem hj, List.map_append, List.map_append, h.tm]
    simp [ht]
  · have hb3 : Below S (w2.alloc X) w3 := ⟨hgrow.os, hgrow.tape, hgrow.output, hgrow.size, fun k hk => hgrow.block k (by simp; omega) (hno k (by omega))⟩
    have hba : Below S w2 (w2.alloc X) := ((Below.refl _ _).alloc (Nat.le_refl _) _).mono (by omega)
    exact (((h.low.trans (hbr.mono (by omega))).trans hba).trans hb3).setCell (by simp) _
  · obtain ⟨a, c0, hv, hbx⟩ := h.box
    refine ⟨some ⟨gg, 0, none⟩, cap1, ?_, ?_⟩
    · rw [List.length_append, List.length_singleton]
    · have := (hbx.blk (hold S (by omega) (hno S (by omega)))).set6 (a' := some ⟨gg, 0, none⟩) (c' := cap1) (l' := cs ++ [c])
      rw [List.length_append, List.length_singleton] at this
      exact this
  · refine (h.z.blk (hold (S + 1) (by omega) (hno _ (by omega)))).kept (R := S) setR_kept (by omega)
/-- Four cells of a box written anew: the types; and the list emptied. -/
theorem Box7.copied {w : World} {J : Nat} {x : TT} {t f : Tr} (h : Box7 w J x) : Box7 (((((w.setCell ⟨J, 2, none⟩ (.int .i64 t.k)).setCell ⟨J, 3, none⟩ (.slice t.a t.l.length t.c)).setCell ⟨J, 4, none⟩ (.int .i64 f.k)).setCell ⟨J, 5, none⟩ (.slice f.a f.l.length f.c)).setCell ⟨J, 6, none⟩ (.slice none 0 0)) J ⟨x.k, x.n, t, f, none, 0, []⟩ := by
  have key : ∀ i u, w.cell? ⟨J, i, none⟩ = some u → (((((w.setCell ⟨J, 2, none⟩ (.int .i64 t.k)).setCell ⟨J, 3, none⟩ (.slice t.a t.l.length t.c)).setCell ⟨J, 4, none⟩ (.int .i64 f.k)).setCell ⟨J, 5, none⟩ (.slice f.a f.l.length f.c)).setCell ⟨J, 6, none⟩ (.slice none 0 0)).cell? ⟨J, i, none⟩ = some (if i = 6 then .slice none 0 0 else if i = 5 then .slice f.a f.l.length f.c else if i = 4 then .int .i64 f.k else if i = 3 then .slice t.a t.l.length t.c else if i = 2 then .int .i64 t.k else u) := fun i u hu => set_get (set_get (set_get (set_get (set_get hu))))
  obtain ⟨c0, c1, c2, c3, c4, c5, c6⟩ := h.at7
  simp only [Nat.zero_add] at c0 c1 c2 c3 c4 c5 c6
  refine ⟨⟨?_, ?_, ?_, ?_, ?_, ?_, ?_⟩, fun i hi => ?_⟩
  · simpa using key 0 _ c0
  · simpa using key 1 _ c1
  · simpa using key 2 _ c2
  · simpa using key 3 _ c3
  · simpa using key 4 _ c4
  · simpa using key 5 _ c5
  · simpa using key 6 _ c6
  · simp only [World.frozen?_setCell]
    exact h.fz i hi
theorem CT.start {x : TT} {t f : Tr} {w w1 : World} (hb : Below w.heap.size w w1) (hbx : Box7 w1 w.heap.size x) (hz : ZB7 w1 (w.heap.size + 1)) (ht : t.In w1) (hf : f.In w1) (bt : t.Bl (w.heap.size + 1 + 1 ≤ ·)) (bf : f.Bl (w.heap.size + 1 + 1 ≤ ·)) :
    CT w.heap.size x t f 0 (.slice none 0 0) [] w (((((w1.setCell ⟨w.heap.size, 2, none⟩ (.int .i64 t.k)).setCell ⟨w.heap.size, 3, none⟩ (.slice t.a t.l.length t.c)).setCell ⟨w.heap.size, 4, none⟩ (.int .i64 f.k)).setCell ⟨w.heap.size, 5, none⟩ (.slice f.a f.l.length f.c)).setCell ⟨w.heap.size, 6, none⟩ (.slice none 0 0)) := by
  have hk : Kept w.heap.size none w1 (((((w1.setCell ⟨w.heap.size, 2, none⟩ (.int .i64 t.k)).setCell ⟨w.heap.size, 3, none⟩ (.slice t.a t.l.length t.c)).setCell ⟨w.heap.size, 4, none⟩ (.int .i64 f.k)).setCell ⟨w.heap.size, 5, none⟩ (.slice f.a f.l.length f.c)).setCell ⟨w.heap.size, 6, none⟩ (.slice none 0 0)) :=
    setR_kept.trans (setR_kept.trans (setR_kept.trans (setR_kept.trans setR_kept)))
  refine ⟨Row.nil _ _, by simp, ?_, ⟨none, 0, rfl, hbx.copied⟩, hz.kept hk (by omega), ⟨ht.keptR hk (bt.mono fun b h => by omega), bt.mono fun b h => ⟨h, by simp [Value.ownBlock]⟩⟩, ⟨hf.keptR hk (bf.mono fun b h => by omega), bf.mono fun b h => ⟨h, by simp [Value.ownBlock]⟩⟩⟩
  exact ((((hb.setCell (by simp) _).setCell (by simp) _).setCell (by simp) _).setCell (by simp) _).setCell (by simp) _
end Go.Proofs.YtnddkmccagiclabGreatDoor

/-
  Two rows of types that a call makes longer, side by side; what the call of ref's withCasts leaves; no run of the program in it.
-/
namespace Go.Proofs.YtnddkmccagiclabGreatDoor
open Go.RowKit
/-- One of the two that may come up. -/
theorem twoH {P : Program} {md : Region.Mode} {ops : Array Oper} {Q : Exit → Act → World → Prop} {S : World → Prop} {i j : Nat} {o o' : Oper} {fuel : Nat} {listed : Array Bool} {a : Act} {w : World} (ho : ops.toList[i]? = some o) (ho' : ops.toList[j]? = some o') (hr : Region.ready md ops listed = [i, j])
    (h : ∀ K' : Act → World → Prop, Shut (∀ a w, S w → (S w → wpAnyH P md ops Q S fuel (listed.setIfInBounds i true) a w) → K' a w) → if Region.wanted o (yielded ops a.tmps) = true then Oper.wp P o a w K' Q else K' (a.put o.dst undef) w)
    (h' : ∀ K' : Act → World → Prop, Shut (∀ a w, S w → (S w → wpAnyH P md ops Q S fuel (listed.setIfInBounds j true) a w) → K' a w) → if Region.wanted o' (yielded ops a.tmps) = true then Oper.wp P o' a w K' Q else K' (a.put o'.dst undef) w) : wpAnyH P md ops Q S (fuel + 1) listed a w :=
  wpAnyH_ready hr (by simp) (AllReadyH.cons (o := o) (by simpa using ho) h (AllReadyH.cons (o := o') (by simpa using ho') h' AllReadyH.nil))
/-- Two rows of types, in blocks of their own, behind all that lay in W. -/
structure T2 (Q : Nat → Prop) (W : World) (vh vw : Value) (ts us : List Tr) (wr : World) : Prop where
  oh : wr.ownsRow W.heap.size 24 2 vh ts.length (cellsOf ts)
  ow : wr.ownsRow W.heap.size 24 2 vw us.length (cellsOf us)
  ne : ∀ k, vh.ownBlock = some k → vw.ownBlock ≠ some k
  ih : ∀ t, t ∈ ts → t.In wr ∧ t.Bl (fun b => Q b ∧ some b ≠ vh.ownBlock ∧ some b ≠ vw.ownBlock)
  iw : ∀ t, t ∈ us → t.In wr ∧ t.Bl (fun b => Q b ∧ some b ≠ vh.ownBlock ∧ some b ≠ vw.ownBlock)
  low : Below W.heap.size W wr
theorem T2.start (Q : Nat → Prop) (W : World) : T2 Q W (.slice none 0 0) (.slice none 0 0) [] [] W :=
  ⟨World.ownsRow_nil _ _ _ _, World.ownsRow_nil _ _ _ _, fun k h => (by simp [Value.ownBlock] at h), fun t h => (by cases h), fun t h => (by cases h), Below.refl _ _⟩
theorem T2.below {Q : Nat → Prop} {W wr w2 : World} {vh vw : Value} {ts us : List Tr} (h : T2 Q W vh vw ts us wr) (hb : Below wr.heap.size wr w2) : T2 Q W vh vw ts us w2 :=
  ⟨ownsRow_below h.oh hb, ownsRow_below h.ow hb, h.ne, fun t ht => ⟨(h.ih t ht).1.below hb, (h.ih t ht).2⟩, fun t ht => ⟨(h.iw t ht).1.below hb, (h.iw t ht).2⟩, h.low.trans (hb.mono h.low.size)⟩
theorem ownsRow_blk {w w' : World} {base : Nat} {e : TypeId} {size : Nat} {v : Value} {n : Nat} {xs : List Value} (h : w.ownsRow base e size v n xs) (hb : ∀ k, v.ownBlock = some k → w'.heap[k]? = w.heap[k]?) : w'.ownsRow base e size v n xs := by
  refine ⟨h.1, ?_⟩
  rcases h.2 with hn | ⟨g, cap, cur, rfl, h1, hgg, rest⟩
  · exact .inl hn
  · exact .inr ⟨g, cap, cur, rfl, h1, by rw [hb g rfl]; exact hgg, rest⟩
/-- Both rows, one longer each. -/
theorem T2.step {Q : Nat → Prop} {W wr V1 w3 V2 w4 : World} {vh vw : Value} {ts us : List Tr} {t : Tr} {g1 c1 g2 c2 : Nat} (h : T2 Q W vh vw ts us wr) (hb1 : Below wr.heap.size wr V1) (hin : t.In V1) (hbl : t.Bl (fun b => Q b ∧ some b ≠ vh.ownBlock ∧ some b ≠ vw.ownBlock))
    (hown1 : w3.ownsRow W.heap.size 24 2 (.slice (some ⟨g1, 0, none⟩) (ts.length + 1) c1) (ts.length + 1) (cellsOf ts ++ [.int .i64 t.k, .slice t.a t.l.length t.c])) (hgrow1 : V1.grownBy w3 vh.ownBlock) (hat1 : vh.ownBlock = some g1 ∨ V1.heap.size ≤ g1) (hg1 : g1 < w3.heap.size) (hb2 : Below w3.heap.size w3 V2)
    (hown2 : w4.ownsRow W.heap.size 24 2 (.slice (some ⟨g2, 0, none⟩) (us.length + 1) c2) (us.length + 1) (cellsOf us ++ [.int .i64 t.k, .slice t.a t.l.length t.c])) (hgrow2 : V2.grownBy w4 vw.ownBlock) (hat2 : vw.ownBlock = some g2 ∨ V2.heap.size ≤ g2) :
    T2 Q W (.slice (some ⟨g1, 0, none⟩) (ts.length + 1) c1) (.slice (some ⟨g2, 0, none⟩) (us.length + 1) c2) (ts ++ [t]) (us ++ [t]) w4 ∧ ∀ k, k < wr.heap.size → some k ≠ vh.ownBlock → some k ≠ vw.ownBlock → w4.heap[k]? = wr.heap[k]? := by
  have s1 := hb1.size
  have s2 := hgrow1.size
  have s3 := hb2.size
  have s4 := hgrow2.size
  have hoh := h.oh.lt
  have how := h.ow.lt
  have hnw : some g1 ≠ vw.ownBlock := fun e => by
    rcases hat1 with e1 | e1
    · exact h.ne g1 e1 e.symm
    · have := (how g1 e.symm).2; omega
  have hg12 : g1 ≠ g2 := fun e => by
    subst e
    rcases hat2 with e2 | e2
    · exact hnw e2.symm
    · omega
  have hV1 : ∀ k, k < V1.heap.size → some k ≠ vh.ownBlock → some k ≠ vw.ownBlock → w4.heap[k]? = V1.heap[k]? := fun k hk e1 e2 => by
    rw [hgrow2.block k (by omega) e2, hb2.block k (by omega), hgrow1.block k hk e1]
  have hold : ∀ k, k < wr.heap.size → some k ≠ vh.ownBlock → some k ≠ vw.ownBlock → w4.heap[k]? = wr.heap[k]? := fun k hk e1 e2 => by
    rw [hV1 k (by omega) e1 e2, hb1.block k hk]
  have hne : ∀ b, b < V1.heap.size → some b ≠ vh.ownBlock → some b ≠ vw.ownBlock → some b ≠ (Value.slice (some ⟨g1, 0, none⟩) (ts.length + 1) c1).ownBlock ∧ some b ≠ (Value.slice (some ⟨g2, 0, none⟩) (us.length + 1) c2).ownBlock := fun b hb e1 e2 => by
    constructor
    · show some b ≠ some g1
      rcases hat1 with e | e
      · rw [← e]; exact e1
      · simp only [ne_eq, Option.some.injEq]; omega
    · show some b ≠ some g2
      rcases hat2 with e | e
      · rw [← e]; exact e2
      · simp only [ne_eq, Option.some.injEq]; omega
  have keep : ∀ d : Tr, d.In V1 → d.Bl (fun b => Q b ∧ some b ≠ vh.ownBlock ∧ some b ≠ vw.ownBlock) → d.In w4 ∧ d.Bl (fun b => Q b ∧ some b ≠ (Value.slice (some ⟨g1, 0, none⟩) (ts.length + 1) c1).ownBlock ∧ some b ≠ (Value.slice (some ⟨g2, 0, none⟩) (us.length + 1) c2).ownBlock) := fun d h1 h2 => by
    have i3 := h1.bl.and h2
    refine ⟨h1.congr (P := fun b => b < V1.heap.size ∧ Q b ∧ some b ≠ vh.ownBlock ∧ some b ≠ vw.ownBlock) (fun b hb i => World.cell?_of_block (a := ⟨b, i, none⟩) (hV1 b hb.1 hb.2.2.1 hb.2.2.2)) i3, i3.mono fun b hb => ⟨hb.2.1, hne b hb.1 hb.2.2.1 hb.2.2.2⟩⟩
  refine ⟨⟨?_, ?_, ?_, ?_, ?_, ?_⟩, hold⟩
  · rw [cellsOf_append, List.length_append, List.length_singleton]
    refine ownsRow_blk hown1 fun k hk => ?_
    have : g1 = k := Option.some.inj hk
    subst this
    rw [hgrow2.block g1 (by omega) hnw, hb2.block g1 hg1]
  · rw [cellsOf_append, List.length_append, List.length_singleton]
    exact hown2
  · intro k hk e
    have e1 : g1 = k := Option.some.inj hk
    have e2 : g2 = k := Option.some.inj e
    omega
  · intro d hd
    rcases List.mem_append.1 hd with hd | hd
    · exact keep d ((h.ih d hd).1.below hb1) (h.ih d hd).2
    · rcases List.mem_singleton.1 hd with rfl
      exact keep d hin hbl
  · intro d hd
    rcases List.mem_append.1 hd with hd | hd
    · exact keep d ((h.iw d hd).1.below hb1) (h.iw d hd).2
    · rcases List.mem_singleton.1 hd with rfl
      exact keep d hin hbl
  · refine h.low.trans ⟨?_, ?_, ?_, by omega, fun k hk => hold k (by have := h.low.size; omega) (fun e => by have := (hoh k e.symm).1; omega) (fun e => by have := (how k e.symm).1; omega)⟩
    · rw [hgrow2.os, hb2.os, hgrow1.os, hb1.os]
    · rw [hgrow2.tape, hb2.tape, hgrow1.tape, hb1.tape]
    · rw [hgrow2.output, hb2.output, hgrow1.output, hb1.output]
/-- The second row, behind the growth of the first. -/
theorem T2.other {Q : Nat → Prop} {W wr V1 w3 : World} {vh vw : Value} {ts us : List Tr} (h : T2 Q W vh vw ts us wr) (hb1 : Below wr.heap.size wr V1) (hgrow1 : V1.grownBy w3 vh.ownBlock) : w3.ownsRow W.heap.size 24 2 vw us.length (cellsOf us) := by
  refine ownsRow_blk h.ow fun k hk => ?_
  have hl := h.ow.lt k hk
  rw [hgrow1.block k (by have := hb1.size; omega) (fun e => h.ne k e.symm hk), hb1.block k hl.2]
/-- The rows as trees' lists. -/
theorem ownsRow_tree {wr : World} {base : Nat} {v : Value} {ts : List Tr} (h : wr.ownsRow base 24 2 v ts.length (cellsOf ts)) (hin : ∀ t, t ∈ ts → t.In wr) : ∃ a c, v = .slice a ts.length c ∧ (Tr.mk 0 a c ts).In wr ∧ (∀ y, a = some y → base ≤ y.block ∧ v.ownBlock = some y.block ∧ y.off = 0) := by
  rcases h.2 with ⟨rfl, h0⟩ | ⟨g, cap, cur, rfl, hg, _⟩
  · have : ts = [] := List.length_eq_zero_iff.1 h0
    subst this
    exact ⟨none, 0, rfl, Tr.In_nil _ _ _ _, fun y hy => (by cases hy)⟩
  · refine ⟨_, _, rfl, Tr.In_mk.2 ⟨fun j hj => ⟨g, 0, rfl, ?_, ?_⟩, hin⟩, fun y hy => (by cases hy; exact ⟨hg, rfl, rfl⟩)⟩
    · rw [Nat.zero_add, h.cellAt (j * 2) (by omega), (cellsOf_at2 ts j hj).1]
    · rw [Nat.zero_add, h.cellAt (j * 2 + 1) (by omega), (cellsOf_at2 ts j hj).2]
/-- What a call that makes a term leaves. -/
def WcPost (Q : Nat → Prop) (T : Tm) (w : World) (e : Ending) (w' : World) : Prop :=
  ∃ y : TT, e = .returned (.agg #[.int .i64 y.k, .int .i64 y.n, .int .i64 y.t.k, .slice y.t.a y.t.l.length y.t.c, .int .i64 y.f.k, .slice y.f.a y.f.l.length y.f.c, .slice y.a y.l.length y.c]) ∧ y.tm = T ∧ y.In w' ∧ y.Bl Q ∧ Below w.heap.size w w'
/-- Behind the entry of withCasts: the boxes. -/
structure WB (x : TT) (w : World) (W : World) : Prop where
  low : Below w.heap.size w W
  box : Box7 W w.heap.size x
  z : ZB7 W (w.heap.size + 1)
  n0 : W.cell? ⟨w.heap.size + 1 + 1, 0, none⟩ = some (.int .i64 1)
  n1 : W.cell? ⟨w.heap.size + 1 + 1, 1, none⟩ = some (.slice none 0 0)
theorem WB.lt {x : TT} {w W : World} (h : WB x w W) : w.heap.size + 1 + 1 < W.heap.size := World.block_lt_of_cell? _ _ h.n0
theorem WB.blk {x : TT} {w W V : World} (h : WB x w W) (hb : Below w.heap.size w V) (e : ∀ k, k ≤ w.heap.size + 1 + 1 → V.heap[k]? = W.heap[k]?) : WB x w V :=
  ⟨hb, h.box.blk (e _ (by omega)), h.z.blk (e _ (by omega)), (World.cell?_of_block (a := ⟨w.heap.size + 1 + 1, 0, none⟩) (e _ (Nat.le_refl _))).trans h.n0, (World.cell?_of_block (a := ⟨w.heap.size + 1 + 1, 1, none⟩) (e _ (Nat.le_refl _))).trans h.n1⟩
theorem WB.below {x : TT} {w W V : World} (h : WB x w W) (hb : Below W.heap.size W V) : WB x w V :=
  h.blk (h.low.trans (hb.mono h.low.size)) fun k hk => hb.block k (by have := h.lt; omega)
/-- What the parts have and what they are wanted as: two rows of types; the second may yet be written. -/
structure P2 (x : TT) (w V0 : World) (Q : Nat → Prop) (ah : Option Addr) (ch : Nat) (ts : List Tr) (g cw : Nat) (uu : List Tr) (W : World) : Prop where
  hv : (Tr.mk 0 ah ch ts).In W
  hb : (Tr.mk 0 ah ch ts).Bl (fun b => Q b ∧ b ≠ g)
  wv : (Tr.mk 0 (some ⟨g, 0, none⟩) cw uu).In W
  wb : ∀ u, u ∈ uu → u.Bl (fun b => Q b ∧ b ≠ g)
  wf : ∀ i, W.frozen? ⟨g, i, none⟩ = false
  bx : WB x w W
  gl : V0.heap.size ≤ g ∧ w.heap.size + 1 + 1 < V0.heap.size ∧ g < W.heap.size
  low : Below V0.heap.size V0 W
/-- The same, when it is written no more. -/
structure P3 (x : TT) (w V0 : World) (Q : Nat → Prop) (ah : Option Addr) (ch : Nat) (ts : List Tr) (a : Option Addr) (c : Nat) (uu : List Tr) (W : World) : Prop where
  hv : (Tr.mk 0 ah ch ts).In W
  hb : (Tr.mk 0 ah ch ts).Bl Q
  wv : (Tr.mk 0 a c uu).In W
  wb : (Tr.mk 0 a c uu).Bl Q
  bx : WB x w W
  low : Below V0.heap.size V0 W
theorem P2.fin {x : TT} {w V0 W : World} {Q : Nat → Prop} {ah : Option Addr} {ch g cw : Nat} {ts uu : List Tr} (h : P2 x w V0 Q ah ch ts g cw uu W) (hQ : ∀ b, w.heap.size + 1 + 1 ≤ b → Q b) : P3 x w V0 Q ah ch ts (some ⟨g, 0, none⟩) cw uu W :=
  ⟨h.hv, h.hb.mono fun b hb => hb.1, h.wv, Tr.Bl_mk.2 ⟨fun _ y hy => by cases hy; exact hQ g (by have := h.gl; omega), fun u hu => (h.wb u hu).mono fun b hb => hb.1⟩, h.bx, h.low⟩
theorem P2.below {x : TT} {w V0 W V : World} {Q : Nat → Prop} {ah : Option Addr} {ch g cw : Nat} {ts uu : List Tr} (h : P2 x w V0 Q ah ch ts g cw uu W) (hb : Below W.heap.size W V) : P2 x w V0 Q ah ch ts g cw uu V :=
  ⟨h.hv.below hb, h.hb, h.wv.below hb, h.wb, fun i => (hb.frozen (p := ⟨g, i, none⟩) h.gl.2.2).trans (h.wf i), h.bx.below hb, ⟨h.gl.1, h.gl.2.1, Nat.lt_of_lt_of_le h.gl.2.2 hb.size⟩, h.low.trans (hb.mono h.low.size)⟩
/-- One of the second row's types is written anew. -/
theorem P2.set {x : TT} {w V0 W : World} {Q : Nat → Prop} {ah : Option Addr} {ch g cw j o o1 : Nat} {ts uu : List Tr} {u : Tr} (h : P2 x w V0 Q ah ch ts g cw uu W) (hj : j < uu.length) (ho : o = j * 2) (ho1 : o1 = j * 2 + 1) (hu : u.In W) (hub : u.Bl (fun b => Q b ∧ b ≠ g)) :
    P2 x w V0 Q ah ch ts g cw (uu.set j u) ((W.setCell ⟨g, o, none⟩ (.int .i64 u.k)).setCell ⟨g, o1, none⟩ (.slice u.a u.l.length u.c)) := by
  subst ho ho1
  have hk : Kept g none W ((W.setCell ⟨g, j * 2, none⟩ (.int .i64 u.k)).setCell ⟨g, j * 2 + 1, none⟩ (.slice u.a u.l.length u.c)) := setR_kept.trans setR_kept
  have hg := h.gl
  obtain ⟨b, oo, e, c0, c1, _⟩ := h.wv.part j hj
  obtain ⟨rfl, rfl⟩ : g = b ∧ 0 = oo := by simpa using e
  simp only [Nat.zero_add] at c0 c1
  have hc := set_cells (io := j * 2) (u := .int .i64 u.k) (v := .slice u.a u.l.length u.c) c0 c1
  refine ⟨h.hv.keptR hk (h.hb.mono fun b hb => hb.2), h.hb, ?_, ?_, fun i => ?_, ?_, ⟨hg.1, hg.2.1, by have := hk.size; omega⟩, ?_⟩
  · refine Tr.In_mk.2 ⟨fun q hq => ⟨g, 0, rfl, ?_⟩, fun t ht => ?_⟩
    · have hq' : q < uu.length := by simpa using hq
      by_cases hqj : q = j
      · subst hqj
        simp only [List.getElem_set_self, Tr.sl, Nat.zero_add]
        exact hc
      · obtain ⟨b, oo, e, d0, d1, _⟩ := h.wv.part q hq'
        obtain ⟨rfl, rfl⟩ : g = b ∧ 0 = oo := by simpa using e
        simp only [Nat.zero_add] at d0 d1
        rw [List.getElem_set_ne (fun e => hqj e.symm)]
        simp only [Tr.sl, Nat.zero_add]
        constructor
        · rw [World.cell?_setCell_other, World.cell?_setCell_other]
          · exact d0
          · intro e; simp only [Addr.mk.injEq] at e; omega
          · intro e; simp only [Addr.mk.injEq] at e; omega
        · rw [World.cell?_setCell_other, World.cell?_setCell_other]
          · exact d1
          · intro e; simp only [Addr.mk.injEq] at e; omega
          · intro e; simp only [Addr.mk.injEq] at e; omega
    · rcases List.mem_or_eq_of_mem_set ht with ht | rfl
      · exact ((Tr.In_mk.1 h.wv).2 t ht).keptR hk ((h.wb t ht).mono fun b hb => hb.2)
      · exact hu.keptR hk (hub.mono fun b hb => hb.2)
  · intro t ht
    rcases List.mem_or_eq_of_mem_set ht with ht | rfl
    · exact h.wb t ht
    · exact hub
  · simp only [World.frozen?_setCell]
    exact h.wf i
  · have hl := h.bx.lt
    exact h.bx.blk (h.bx.low.trans ((hk.below (by simp) (by omega)).mono (by omega))) fun k hk' => hk.block k (by omega) (by omega) (by simp)
  · exact h.low.trans ((hk.below (by simp) (by omega)).mono hg.1)
theorem P2.of {x : TT} {w V0 W : World} {Q : Nat → Prop} {vh vw : Value} {ts : List Tr} (h : T2 Q V0 vh vw ts ts W) (hw : WB x w V0) (hQ : ∀ b, w.heap.size + 1 + 1 ≤ b → Q b) (hn : 0 < ts.length) : ∃ ah ch g cw, vh = .slice ah ts.length ch ∧ vw = .slice (some ⟨g, 0, none⟩) ts.length cw ∧ P2 x w V0 Q ah ch ts g cw ts W := by
  obtain ⟨ah, ch, e1, i1, a1⟩ := ownsRow_tree h.oh fun t ht => (h.ih t ht).1
  obtain ⟨aw, cw, e2, i2, a2⟩ := ownsRow_tree h.ow fun t ht => (h.iw t ht).1
  obtain ⟨g, o, e, _⟩ := i2.part 0 hn
  simp only at e
  subst e
  obtain ⟨hg, how, hoff⟩ := a2 _ rfl
  simp only at hg how hoff
  subst hoff
  have hlg := h.ow.lt g how
  refine ⟨ah, ch, g, cw, e1, e2, ⟨i1, ?_, i2, fun u hu => (h.iw u hu).2.mono fun b hb => ⟨hb.1, fun e => hb.2.2 (by rw [how, e])⟩, fun i => ?_, hw.below h.low, ⟨hg, hw.lt, hlg.2⟩, h.low⟩⟩
  · refine Tr.Bl_mk.2 ⟨fun _ y hy => ?_, fun t ht => (h.ih t ht).2.mono fun b hb => ⟨hb.1, fun e => hb.2.2 (by rw [how, e])⟩⟩
    obtain ⟨h1, h2, _⟩ := a1 y hy
    exact ⟨hQ _ (by have := hw.lt; omega), fun e => h.ne y.block h2 (by rw [how, e])⟩
  · have := h.ow
    rw [e2] at this
    exact this.frozenAt i
theorem P3.of {x : TT} {w V0 W : World} {Q : Nat → Prop} {vh vw : Value} {ts : List Tr} (h : T2 Q V0 vh vw ts ts W) (hw : WB x w V0) (hQ : ∀ b, w.heap.size + 1 + 1 ≤ b → Q b) : ∃ ah ch aw cw, vh = .slice ah ts.length ch ∧ vw = .slice aw ts.length cw ∧ P3 x w V0 Q ah ch ts aw cw ts W := by
  obtain ⟨ah, ch, e1, i1, a1⟩ := ownsRow_tree h.oh fun t ht => (h.ih t ht).1
  obtain ⟨aw, cw, e2, i2, a2⟩ := ownsRow_tree h.ow fun t ht => (h.iw t ht).1
  refine ⟨ah, ch, aw, cw, e1, e2, ⟨i1, Tr.Bl_mk.2 ⟨fun _ y hy => ?_, fun t ht => (h.ih t ht).2.mono fun b hb => hb.1⟩, i2, Tr.Bl_mk.2 ⟨fun _ y hy => ?_, fun t ht => (h.iw t ht).2.mono fun b hb => hb.1⟩, hw.below h.low, h.low⟩⟩
  · exact hQ _ (by have := (a1 y hy).1; have := hw.lt; omega)
  · exact hQ _ (by have := (a2 y hy).1; have := hw.lt; omega)
theorem P3.below {x : TT} {w V0 W V : World} {Q : Nat → Prop} {ah a : Option Addr} {ch c : Nat} {ts uu : List Tr} (h : P3 x w V0 Q ah ch ts a c uu W) (hb : Below W.heap.size W V) : P3 x w V0 Q ah ch ts a c uu V :=
  ⟨h.hv.below hb, h.hb, h.wv.below hb, h.wb, h.bx.below hb, h.low.trans (hb.mono h.low.size)⟩
end Go.Proofs.YtnddkmccagiclabGreatDoor

/-
  What the call of chaperoneref.FitsOf answers at two right trees that lie in memory.
-/
namespace Go.Proofs.YtnddkmccagiclabGreatDoor
open Go.RowKit
theorem Tr.right.part {t : Tr} (h : t.right) (j : Nat) (hj : j < t.l.length) : t.l[j].right := by
  obtain ⟨k, a, c, l⟩ := t
  exact (Tr.right_mk.1 h).2 _ (List.getElem_mem hj)
theorem Tr.right.kinds {t : Tr} (h : t.right) : 0 ≤ t.k ∧ t.k ≤ 3 := by
  rcases h.cases with ⟨_, hk⟩ | ⟨_, _, _, hk, _⟩ <;> omega
theorem mul_esc (a b : Int) (a0 : 0 ≤ a) (a3 : a ≤ 3) (b0 : 0 ≤ b) (b3 : b ≤ 3) : (wrap64 (a * b) == 0) = escFits a b := by
  obtain rfl | rfl | rfl | rfl : a = 0 ∨ a = 1 ∨ a = 2 ∨ a = 3 := by omega
  all_goals
    obtain rfl | rfl | rfl | rfl : b = 0 ∨ b = 1 ∨ b = 2 ∨ b = 3 := by omega
    all_goals simp [wrap64, escFits]
set_option maxHeartbeats 1000000 in
theorem fitsOf_step (n : Nat) (x y : Tr) (w : World) (hx : x.In w) (hy : y.In w) (hh : x.hgt ≤ n + 1) (hs : x.sm) (rx : x.right) (ry : y.right) (hm : (wrap64 (x.k * y.k) == 0) = false) (he : Hid (escFits x.k y.k = false))
    (ih : Hid (∀ (x y : Tr) (w : World), x.In w → y.In w → x.hgt ≤ n → x.sm → x.right → y.right → Calls Tryz.prog 91 #[.agg #[.int .i64 x.k, .slice x.a x.l.length x.c], .agg #[.int .i64 y.k, .slice y.a y.l.length y.c]] w fun e w' => e = .returned (.bool (relY escFits x.ty y.ty)) ∧ Below w.heap.size w w')) :
    Calls Tryz.prog 91 #[.agg #[.int .i64 x.k, .slice x.a x.l.length x.c], .agg #[.int .i64 y.k, .slice y.a y.l.length y.c]] w fun e w' => e = .returned (.bool (relY escFits x.ty y.ty)) ∧ Below w.heap.size w w' := by
  have hlen := hs.len
  obtain ⟨tk, htk⟩ : ∃ b, (x.k == y.k) = b := ⟨_, rfl⟩
  obtain ⟨tl, htl⟩ : ∃ b, ((x.l.length : Int) == (y.l.length : Int)) = b := ⟨_, rfl⟩
  have HK : Hid ((x.k == y.k) = tk) := htk
  have HL : Hid (((x.l.length : Int) == (y.l.length : Int)) = tl) := htl
  have p1 : ((w.alloc (.cells #[.int .i64 x.k, .slice x.a x.l.length x.c] 24)).alloc (.cells #[.int .i64 y.k, .slice y.a y.l.length y.c] 24)).cell? ⟨w.heap.size, 1, none⟩ = some (.slice x.a x.l.length x.c) := by simp [go_sem]
  have p3 : ((w.alloc (.cells #[.int .i64 x.k, .slice x.a x.l.length x.c] 24)).alloc (.cells #[.int .i64 y.k, .slice y.a y.l.length y.c] 24)).cell? ⟨w.heap.size + 1, 1, none⟩ = some (.slice y.a y.l.length y.c) := by simp [go_sem]
  have HP : Hid (((w.alloc (.cells #[.int .i64 x.k, .slice x.a x.l.length x.c] 24)).alloc (.cells #[.int .i64 y.k, .slice y.a y.l.length y.c] 24)).cell? ⟨w.heap.size, 1, none⟩ = some (.slice x.a x.l.length x.c) ∧ ((w.alloc (.cells #[.int .i64 x.k, .slice x.a x.l.length x.c] 24)).alloc (.cells #[.int .i64 y.k, .slice y.a y.l.length y.c] 24)).cell? ⟨w.heap.size + 1, 1, none⟩ = some (.slice y.a y.l.length y.c)) := ⟨p1, p3⟩
  clear p1 p3
  have hb0 : Below w.heap.size w ((w.alloc (.cells #[.int .i64 x.k, .slice x.a x.l.length x.c] 24)).alloc (.cells #[.int .i64 y.k, .slice y.a y.l.length y.c] 24)) := ((Below.refl _ _).alloc (Nat.le_refl _) _).alloc (by simp) _
  cases tk
  · have HT : Hid ((x.k == y.k && (x.l.length : Int) == (y.l.length : Int)) = false) := by show _ = false; rw [HK.out]; rfl
    clear htl HL HK
    go_enter Tryz.func91, Tryz.ntmps91
    go_wp2_with fail
    go_loopw [5, 6] (fun b i wr => b = .bool false ∧ i = .int .i64 0 ∧ wr = ((w.alloc (.cells #[.int .i64 x.k, .slice x.a x.l.length x.c] 24)).alloc (.cells #[.int .i64 y.k, .slice y.a y.l.length y.c] 24))) (fun _ _ _ => 0)
    case atStart => exact ⟨rfl, rfl, rfl⟩
    case round =>
      obtain ⟨rfl, rfl, rfl⟩ := hrel
      go_wp2_with fail
      go_ret
      exact ⟨by rw [relY_top escFits x y he.out HT.out]; rfl, hb0⟩
  · cases tl
    · have HT : Hid ((x.k == y.k && (x.l.length : Int) == (y.l.length : Int)) = false) := by show _ = false; rw [HK.out, HL.out]; rfl
      clear HL HK
      go_enter Tryz.func91, Tryz.ntmps91
      go_wp2_with fail
      go_loopw [5, 6] (fun b i wr => b = .bool false ∧ i = .int .i64 0 ∧ wr = ((w.alloc (.cells #[.int .i64 x.k, .slice x.a x.l.length x.c] 24)).alloc (.cells #[.int .i64 y.k, .slice y.a y.l.length y.c] 24))) (fun _ _ _ => 0)
      case atStart => exact ⟨rfl, rfl, rfl⟩
      case round =>
        obtain ⟨rfl, rfl, rfl⟩ := hrel
        go_wp2_with fail
        go_ret
        exact ⟨by rw [relY_top escFits x y he.out HT.out]; rfl, hb0⟩
    · have hk : Hid (x.k = y.k) := by show x.k = y.k; have h := HK.out; simpa using h
      have hl : Hid (x.l.length = y.l.length) := by have h := HL.out; simp at h; exact Int.ofNat.inj h
      clear HL HK
      go_enter Tryz.func91, Tryz.ntmps91
      go_wp2_with fail
      clear htk htl
      go_loopg [5, 6] (x.l.length + 1) (fun g b i wr => ∃ (j : Nat) (c : Bool), j ≤ x.l.length ∧ g = (if c then x.l.length - j + 1 else 0) ∧ b = .bool c ∧ i = .int .i64 (j : Int) ∧ Below w.heap.size w wr ∧ wr.cell? ⟨w.heap.size, 1, none⟩ = some (.slice x.a x.l.length x.c) ∧ wr.cell? ⟨w.heap.size + 1, 1, none⟩ = some (.slice y.a y.l.length y.c) ∧
        Hid (c = true → ∀ q (h : q < x.l.length) (h' : q < y.l.length), q < j → relY escFits x.l[q].ty y.l[q].ty = true) ∧ Hid (c = false → relY escFits x.ty y.ty = false))
      case atStart => exact ⟨0, true, Nat.zero_le _, rfl, rfl, rfl, hb0, HP.out.1, HP.out.2, fun _ q _ _ h => absurd h (by omega), fun h => by cases h⟩
      case round =>
        obtain ⟨j, c, hj, hg, rfl, rfl, hbwr, p1, p3, HA, HB⟩ := hrel
        cases c
        · have HB1 : Hid (relY escFits x.ty y.ty = false) := HB.out rfl
          clear HA HB hg
          go_wp2_with fail
          go_ret
          exact ⟨by rw [HB1.out]; rfl, hbwr⟩
        · have HA1 : Hid (∀ q (h : q < x.l.length) (h' : q < y.l.length), q < j → relY escFits x.l[q].ty y.l[q].ty = true) := HA.out rfl
          clear HA HB
          by_cases hlt : j < x.l.length
          · have hlt' : j < y.l.length := hl.out ▸ hlt
            obtain ⟨b, o, ea, x0, x1, hxj⟩ := hx.part j hlt
            obtain ⟨b', o', eb, y0, y1, hyj⟩ := hy.part j hlt'
            have q1 : wr.cell? ⟨w.heap.size, 1, none⟩ = some (.slice (some ⟨b, o, none⟩) x.l.length x.c) := by rw [← ea]; exact p1
            have q3 : wr.cell? ⟨w.heap.size + 1, 1, none⟩ = some (.slice (some ⟨b', o', none⟩) y.l.length y.c) := by rw [← eb]; exact p3
            have HPP : Hid (wr.cell? ⟨w.heap.size, 1, none⟩ = some (.slice x.a x.l.length x.c) ∧ wr.cell? ⟨w.heap.size + 1, 1, none⟩ = some (.slice y.a y.l.length y.c)) := ⟨p1, p3⟩
            replace x0 := cell_later hbwr x0
            replace x1 := cell_later hbwr x1
            replace y0 := cell_later hbwr y0
            replace y1 := cell_later hbwr y1
            have i1 : (j : Int) < (x.l.length : Int) := by omega
            have i2 : (j : Int) < (y.l.length : Int) := by omega
            have i0 : (0 : Int) ≤ (j : Int) := by omega
            obtain ⟨r, hr⟩ : ∃ r, relY escFits x.l[j].ty y.l[j].ty = r := ⟨_, rfl⟩
            have HC : Hid (∀ (w : World), x.l[j].In w → y.l[j].In w → Calls Tryz.prog 91 #[.agg #[.int .i64 x.l[j].k, .slice x.l[j].a x.l[j].l.length x.l[j].c], .agg #[.int .i64 y.l[j].k, .slice y.l[j].a y.l[j].l.length y.l[j].c]] w fun e w' => e = .returned (.bool r) ∧ Below w.heap.size w w') := by
              intro w h1 h2
              have := ih.out x.l[j] y.l[j] w h1 h2 (Tr.hgt_part hh j hlt) (hs.part j hlt) (rx.part j hlt) (ry.part j hlt')
              rw [hr] at this
              exact this
            have HR : Hid (relY escFits x.l[j].ty y.l[j].ty = r) := hr
            have HG : Hid (gk = if true then x.l.length - j + 1 else 0) := hg
            clear hr p1 p3 ea eb hx hy hg
            go_wp2_with fail
            go_region_held3 (fun w' => w'.cell? ⟨w.heap.size, 1, none⟩ = some (.slice (some ⟨b, o, none⟩) x.l.length x.c) ∧ w'.cell? ⟨w.heap.size + 1, 1, none⟩ = some (.slice (some ⟨b', o', none⟩) y.l.length y.c) ∧ w'.cell? ⟨b, o + j * 2, none⟩ = some (.int .i64 x.l[j].k) ∧ w'.cell? ⟨b, o + j * 2 + 1, none⟩ = some (.slice x.l[j].a x.l[j].l.length x.l[j].c) ∧ w'.cell? ⟨b', o' + j * 2, none⟩ = some (.int .i64 y.l[j].k) ∧ w'.cell? ⟨b', o' + j * 2 + 1, none⟩ = some (.slice y.l[j].a y.l[j].l.length y.l[j].c))
              (first | exact ⟨cell_later hb2 q1, cell_later hb2 q3, cell_later hb2 x0, cell_later hb2 x1, cell_later hb2 y0, cell_later hb2 y1⟩ | go_keep)
              (first | (go_at_call 91; refine (HC.out _ (hxj.below hbwr.drew) (hyj.below hbwr.drew)).mono ?_; rintro e w2 ⟨rfl, hb2⟩))
            have hbr2 : Below w.heap.size w w2 := hbwr.drew.trans (hb2.mono hbwr.size)
            have s1 := cell_later hb2 HPP.out.1
            have s3 := cell_later hb2 HPP.out.2
            clear hb2 q1 q3 x0 x1 y0 y1 HC HPP
            go_wp2_with fail
            go_roundg (if r then x.l.length - (j + 1) + 1 else 0)
            case measure => rw [HG.out]; cases r <;> simp <;> omega
            case rel =>
              refine ⟨j + 1, r, by omega, rfl, rfl, by go_num, hbr2, s1, s3, fun h q h1 h2 hq => ?_, fun h => ?_⟩
              · by_cases e : q = j
                · subst e; rw [HR.out, h]
                · exact HA1.out q h1 h2 (by omega)
              · exact relY_part_not escFits x y he.out j hlt hlt' (by rw [HR.out, h])
          · go_wp2_with fail
            go_ret
            refine ⟨?_, hbwr⟩
            rw [relY_parts escFits x y hk.out hl.out fun q h h' => HA1.out q h h' (by omega)]
            rfl
set_option maxHeartbeats 400000 in
theorem fitsOf_esc (x y : Tr) (w : World) (hm : (wrap64 (x.k * y.k) == 0) = true) :
    Calls Tryz.prog 91 #[.agg #[.int .i64 x.k, .slice x.a x.l.length x.c], .agg #[.int .i64 y.k, .slice y.a y.l.length y.c]] w fun e w' => e = .returned (.bool true) ∧ Below w.heap.size w w' := by
  go_enter Tryz.func91, Tryz.ntmps91
  go_wp2_with fail
  go_ret
  exact ⟨rfl, ((Below.refl _ _).alloc (Nat.le_refl _) _).alloc (by simp) _⟩
/-- chaperoneref.FitsOf. -/
theorem fitsOf_any (n : Nat) : ∀ (x y : Tr) (w : World), x.In w → y.In w → x.hgt ≤ n → x.sm → x.right → y.right → Calls Tryz.prog 91 #[.agg #[.int .i64 x.k, .slice x.a x.l.length x.c], .agg #[.int .i64 y.k, .slice y.a y.l.length y.c]] w fun e w' => e = .returned (.bool (relY escFits x.ty y.ty)) ∧ Below w.heap.size w w' := by
  induction n with
  | zero =>
    intro x y w _ _ h
    have := x.hgt_pos
    omega
  | succ n ih =>
    intro x y w hx hy h hs rx ry
    obtain ⟨a0, a3⟩ := rx.kinds
    obtain ⟨b0, b3⟩ := ry.kinds
    have hm := mul_esc x.k y.k a0 a3 b0 b3
    cases he : escFits x.k y.k with
    | true =>
      rw [relY_esc escFits x y he]
      exact fitsOf_esc x y w (by rw [hm]; exact he)
    | false => exact fitsOf_step n x y w hx hy h hs rx ry (by rw [hm]; exact he) he (fun x y w hx hy h hs rx ry => ih x y w hx hy h hs rx ry)
end Go.Proofs.YtnddkmccagiclabGreatDoor
