/-
  What the call of chaperonekeep.checks answers.
-/
import Derived.Test.YtnddkmccagiclaaDoorLot9fa26ba0e6
import Derived.Test.YtnddkmccagiclaaDoorLot6fac8fe291
import Derived.Test.YtnddkmccagiclaaDoorLotf289ed7d19
import Derived.Deep.DeepCutAuto
import Derived.Test.YtnddkmccagiclaaDoorLot49da73b144
namespace Go.Proofs.YtnddkmccagiclaaDoor
open Go.RowKit

/-- (as any 7) -/
def C0 : Tm := ⟨9, 0, anyY, anyY, [⟨2, 7, anyY, anyY, []⟩]⟩
/-- (as any 7), the number cast. -/
def C1 : Tm := ⟨9, 0, anyY, anyY, [⟨10, 1, anyY, ⟨1, []⟩, [⟨2, 7, anyY, anyY, []⟩]⟩]⟩

theorem any_any : isAnyY anyY = true := by simp [isAnyY, anyY, relY_mk, relL]

theorem any_good : goodY 4 anyY = true := by simp [goodY, anyY]

theorem C0_step (n r : Nat) : goodS 0 (n + 1 + 1) 0 C0 (r + 1 + 1) = some r := by
  simp [C0, goodS, okTop, okTypes, okNum, tells, partsOf, bindL, any_any, any_good, insOf]
theorem C0_good : goodM 0 C0 = true := congrArg Option.isSome (C0_step 38 38)

theorem C0_read : readS C0 [] 0 = some (C1, anyY) := by
  simp [C0, C1, readS_mk, readL, takesIn, ruleY, fitL, castL, castY, relY_mk, relL, escFits, escSame, anyY]

theorem C1_sites : sitesM C1 = [(1, ⟨1, []⟩, anyY)] := by
  simp [C1, sitesM_mk]

theorem C1_sz : C1.sz = 3 := by simp [C1, Tm.sz_mk]

set_option maxRecDepth 20000 in
set_option maxHeartbeats 4000000 in
/-- checks. -/
theorem checks_any (w : World) (hg : Gp w) : Calls Tryd.prog 24 #[] w fun e w' => e = .returned (.bool true) ∧ Below w.heap.size w w' := by
  obtain ⟨W1, hW1⟩ : ∃ W1, W1 = w.alloc (.cells #[.int .i64 2, .int .i64 7, .int .i64 0, .slice none 0 0, .int .i64 0, .slice none 0 0, .slice none 0 0] 27) := ⟨_, rfl⟩
  have hb1 : Below w.heap.size w W1 := by rw [hW1]; exact (Below.refl _ _).alloc (Nat.le_refl _) _
  have hin : (TT.mk 9 0 (leaf 0) (leaf 0) (some ⟨w.heap.size, 0, none⟩) 1 [tleaf 2 7]).In W1 := by
    refine TT.In_mk.2 ⟨leaf_in _ _, leaf_in _ _, fun j hj => ⟨w.heap.size, 0, rfl, ?_⟩, fun x hx => ?_⟩
    · have hj0 : j = 0 := by simpa using hj
      subst hj0
      rw [hW1]
      simp only [Nat.zero_mul, Nat.add_zero, List.getElem_cons_zero]
      exact At7.new w (tleaf 2 7)
    · rcases List.mem_singleton.1 hx with rfl
      exact TT.In_mk.2 ⟨leaf_in _ _, leaf_in _ _, fun j hj => absurd hj (by simp), fun x hx => by cases hx⟩
  have htm : (TT.mk 9 0 (leaf 0) (leaf 0) (some ⟨w.heap.size, 0, none⟩) 1 [tleaf 2 7]).tm = C0 := by
    have h1 : (tleaf 2 7).tm = ⟨2, 7, anyY, anyY, []⟩ := tleaf_tm 2 7
    rw [TT.tm_mk, leaf_ty, List.map_cons, List.map_nil, h1]
    rfl
  have HC : Hid (Calls Tryd.prog 13 #[.agg #[.int .i64 9, .int .i64 0, .int .i64 0, .slice none 0 0, .int .i64 0, .slice none 0 0, .slice (some ⟨w.heap.size, 0, none⟩) 1 1]] W1 fun e w2 => ∃ (y z : TT) (i : Tr) (b o : Nat), e = .returned (.tuple #[.agg #[.int .i64 y.k, .int .i64 y.n, .int .i64 y.t.k, .slice y.t.a y.t.l.length y.t.c, .int .i64 y.f.k, .slice y.f.a y.f.l.length y.f.c, .slice (some ⟨b, o, none⟩) 1 y.c], .agg #[.int .i64 0, .slice i.a i.l.length i.c], .int .i64 0]) ∧ Hid (y.tm = C1 ∧ y.In w2 ∧ y.a = some ⟨b, o, none⟩ ∧ y.l.length = 1) ∧ w2.cell? ⟨b, o, none⟩ = some (.int .i64 10) ∧ Below W1.heap.size W1 w2) := by
    have := check_any (TT.mk 9 0 (leaf 0) (leaf 0) (some ⟨w.heap.size, 0, none⟩) 1 [tleaf 2 7]) W1 (hg.below hb1) hin (TT.nb_mk.2 ⟨by omega, fun x hx => by rcases List.mem_singleton.1 hx with rfl; exact TT.nb_mk.2 ⟨by omega, fun y hy => by cases hy⟩⟩)
    refine this.mono ?_
    rintro e w2 ⟨hb, ⟨hn, _⟩ | ⟨_, hn, _⟩ | ⟨_, y, i, hy, rfl, hyi, hii, _⟩⟩
    · rw [htm, C0_good] at hn; cases hn
    · rw [htm, C0_read] at hn; cases hn
    · rw [htm, C0_read] at hy
      have e1 : y.tm = C1 := (congrArg Prod.fst (Option.some.inj hy)).symm
      have e2 : i.ty = anyY := (congrArg Prod.snd (Option.some.inj hy)).symm
      have hik : i.k = 0 := by rw [← Tr.ty_k, e2]; rfl
      have hyl : y.l.map TT.tm = [⟨10, 1, anyY, ⟨1, []⟩, [⟨2, 7, anyY, anyY, []⟩]⟩] := by
        have := congrArg Tm.l e1
        rw [TT.tm_l] at this
        exact this
      obtain ⟨z, hz⟩ : ∃ z, y.l = [z] := by
        have : y.l.length = 1 := by have := congrArg List.length hyl; simpa using this
        exact List.length_eq_one_iff.1 this
      have hzk : z.k = 10 := by
        rw [hz] at hyl
        have := congrArg Tm.k (List.head_eq_of_cons_eq hyl)
        rw [TT.tm_k] at this
        exact this
      obtain ⟨b, o, ea, h7, _⟩ := hyi.part 0 (by rw [hz]; simp)
      have h70 := h7.c0
      simp only [hz, List.getElem_cons_zero, hzk, Nat.zero_mul, Nat.add_zero] at h70
      refine ⟨y, z, i, b, o, by rw [ea, hz, hik]; rfl, ⟨e1, hyi, ea, by rw [hz]; rfl⟩, h70, hb⟩
  have HB1 : Hid (Below w.heap.size w W1) := hb1
  clear hin htm hb1 hg
  go_enter Tryd.func24, Tryd.ntmps24
  go_wp2_with fail
  rw [← hW1]
  clear hW1
  refine HC.out.mono ?_
  rintro e w2 ⟨y, z, i, b, o, rfl, HY, hz0, hb2⟩
  have hB2 : Below w.heap.size w w2 := HB1.out.trans (hb2.mono HB1.out.size)
  have hsz : y.sz ≤ 1000 := by rw [y.sz_tm, HY.out.1, C1_sz]; omega
  have hcok : y.cok := cok_of 44 (by omega) y fun s hs => by
    rw [HY.out.1, C1_sites] at hs
    rcases List.mem_singleton.1 hs with rfl
    exact ⟨goodY_num _, goodY_any _⟩
  obtain ⟨W3, hW3⟩ : ∃ W3, W3 = (w2.alloc (.cells #[.int .i64 y.k, .int .i64 y.n, .int .i64 y.t.k, .slice y.t.a y.t.l.length y.t.c, .int .i64 y.f.k, .slice y.f.a y.f.l.length y.f.c, .slice (some ⟨b, o, none⟩) 1 y.c] 27)).alloc (.cells #[.int .i64 0, .slice i.a i.l.length i.c] 24) := ⟨_, rfl⟩
  have hA : Below w2.heap.size w2 W3 := by rw [hW3]; exact ((Below.refl _ _).alloc (Nat.le_refl _) _).alloc (by simp) _
  have h0 : W3.cell? ⟨b, o, none⟩ = some (.int .i64 10) := cell_later hA hz0
  have HSI : Hid (Calls Tryd.prog 19 #[.agg #[.int .i64 y.k, .int .i64 y.n, .int .i64 y.t.k, .slice y.t.a y.t.l.length y.t.c, .int .i64 y.f.k, .slice y.f.a y.f.l.length y.f.c, .slice (some ⟨b, o, none⟩) 1 y.c]] W3 fun e w' => ∃ (a : Option Addr) (c : Nat), e = .returned (.slice a 1 c) ∧ Below W3.heap.size W3 w') := by
    have := sites_any y W3 (HY.out.2.1.below hA) hsz hcok
    rw [HY.out.2.2.1, HY.out.2.2.2] at this
    refine this.mono ?_
    rintro e w' ⟨ss, a, c, rfl, _, hm, hb⟩
    have hl : ss.length = 1 := by
      have := congrArg List.length hm
      rw [HY.out.1, C1_sites] at this
      simpa using this
    exact ⟨a, c, by rw [hl], hb⟩
  have q0 : W3.cell? ⟨w2.heap.size + 1, 0, none⟩ = some (.int .i64 0) := by rw [hW3]; simp [go_sem]
  have HE : Hid (Below w.heap.size w W3) := hB2.trans (hA.mono hB2.size)
  have r0 : W3.cell? ⟨w2.heap.size, 0, none⟩ = some (.int .i64 y.k) := by rw [hW3]; simp [go_sem]
  have r1 : W3.cell? ⟨w2.heap.size, 1, none⟩ = some (.int .i64 y.n) := by rw [hW3]; simp [go_sem]
  have r2 : W3.cell? ⟨w2.heap.size, 2, none⟩ = some (.int .i64 y.t.k) := by rw [hW3]; simp [go_sem]
  have r3 : W3.cell? ⟨w2.heap.size, 3, none⟩ = some (.slice y.t.a y.t.l.length y.t.c) := by rw [hW3]; simp [go_sem]
  have r4 : W3.cell? ⟨w2.heap.size, 4, none⟩ = some (.int .i64 y.f.k) := by rw [hW3]; simp [go_sem]
  have r5 : W3.cell? ⟨w2.heap.size, 5, none⟩ = some (.slice y.f.a y.f.l.length y.f.c) := by rw [hW3]; simp [go_sem]
  have r6 : W3.cell? ⟨w2.heap.size, 6, none⟩ = some (.slice (some ⟨b, o, none⟩) 1 y.c) := by rw [hW3]; simp [go_sem]
  clear hsz hcok hA hB2 hb2 HY HC HB1 hz0
  go_upto_region 2 with fail
  rw [← hW3]
  clear hW3
  go_wp2_with fail
  refine HSI.out.mono ?_
  rintro e w4 ⟨a, c, rfl, hb4⟩
  have HN : Hid (Below w.heap.size w w4) := HE.out.trans (hb4.mono HE.out.size)
  clear hb4 HSI HE h0 q0
  go_wp2_with fail
  go_ret
  exact ⟨rfl, HN.out⟩
end Go.Proofs.YtnddkmccagiclaaDoor

/-
  Rows of terms that a call makes longer, in blocks of a kind; the frame of chaperonekeep.loose; no program's run in it.
-/
namespace Go.Proofs.YtnddkmccagiclaaDoor
open Go.RowKit

structure RowT (Q : Nat → Prop) (base : Nat) (v : Value) (cs : List TT) (w : World) : Prop where
  own : w.ownsRow base 27 7 v cs.length (cells7 cs)
  ins : ∀ c, c ∈ cs → c.In w ∧ c.Bl (fun b => Q b ∧ some b ≠ v.ownBlock)

theorem RowT.nil (Q : Nat → Prop) (base : Nat) (w : World) : RowT Q base (.slice none 0 0) [] w := ⟨World.ownsRow_nil _ _ _ _, fun c h => by cases h⟩

theorem RowT.below {Q : Nat → Prop} {base : Nat} {v : Value} {cs : List TT} {w w' : World} (h : RowT Q base v cs w) (hb : Below w.heap.size w w') : RowT Q base v cs w' := by
  refine ⟨⟨h.own.1, ?_⟩, fun c hc => ⟨(h.ins c hc).1.below hb, (h.ins c hc).2⟩⟩
  rcases h.own.2 with hn | ⟨g, cap, cur, hv, hb', hg, rest⟩
  · exact .inl hn
  · exact .inr ⟨g, cap, cur, hv, hb', (hb.block g (Array.getElem?_eq_some_iff.1 hg).1).trans hg, rest⟩

theorem RowT.lt {Q : Nat → Prop} {base : Nat} {v : Value} {cs : List TT} {w : World} (h : RowT Q base v cs w) (k : Nat) (hk : v.ownBlock = some k) : base ≤ k ∧ k < w.heap.size := h.own.lt k hk

/-- One more. -/
theorem RowT.step {Q : Nat → Prop} {base : Nat} {v : Value} {cs : List TT} {w2 w3 : World} {c : TT} {gg cap1 : Nat} {X : Obj} (h : RowT Q base v cs w2) (hi : c.In w2) (hb : c.Bl (fun b => Q b ∧ some b ≠ v.ownBlock))
    (hown : w3.ownsRow base 27 7 (.slice (some ⟨gg, 0, none⟩) (cs.length + 1) cap1) (cs.length + 1) (cells7 cs ++ cells7 [c])) (hgrow : (w2.alloc X).grownBy w3 v.ownBlock) (hat : v.ownBlock = some gg ∨ gg = w2.heap.size + 1) :
    RowT Q base (.slice (some ⟨gg, 0, none⟩) (cs.length + 1) cap1) (cs ++ [c]) w3 ∧ ∀ k, k < w2.heap.size → some k ≠ v.ownBlock → w3.heap[k]? = w2.heap[k]? := by
  have hblk : ∀ k, k < w2.heap.size → some k ≠ v.ownBlock → w3.heap[k]? = w2.heap[k]? := fun k hk hn => by
    rw [hgrow.block k (by simp; omega) hn]
    exact ((Below.refl _ w2).alloc (Nat.le_refl _) X).block k hk
  refine ⟨⟨by rw [cells7_append, List.length_append, List.length_singleton]; exact hown, fun d hd => ?_⟩, hblk⟩
  have key : d.In w2 ∧ d.Bl (fun b => Q b ∧ some b ≠ v.ownBlock) := by
    rcases List.mem_append.1 hd with hd | hd
    · exact h.ins d hd
    · rcases List.mem_singleton.1 hd with rfl
      exact ⟨hi, hb⟩
  have hne : ∀ b, b < w2.heap.size ∧ (Q b ∧ some b ≠ v.ownBlock) → Q b ∧ some b ≠ (Value.slice (some ⟨gg, 0, none⟩) (cs.length + 1) cap1).ownBlock := by
    intro b hb
    refine ⟨hb.2.1, ?_⟩
    show some b ≠ some gg
    rcases hat with e | e
    · rw [← e]; exact hb.2.2
    · simp only [ne_eq, Option.some.injEq]; omega
  have hsame : ∀ b, b < w2.heap.size ∧ (Q b ∧ some b ≠ v.ownBlock) → ∀ i, w3.cell? ⟨b, i, none⟩ = w2.cell? ⟨b, i, none⟩ := fun b hb i =>
    World.cell?_of_block (a := ⟨b, i, none⟩) (hblk b hb.1 hb.2.2)
  have y3 := key.1.bl.and key.2
  exact ⟨key.1.congr (P := fun b => b < w2.heap.size ∧ (Q b ∧ some b ≠ v.ownBlock)) hsame y3, y3.mono hne⟩

/-- A row that the call owns is a term's list. -/
theorem RowT.list {Q : Nat → Prop} {base : Nat} {v : Value} {cs : List TT} {w : World} (h : RowT Q base v cs w) : ∃ a c, v = .slice a cs.length c ∧ (∀ j (hj : j < cs.length), ∃ b o, a = some ⟨b, o, none⟩ ∧ At7 w b (o + j * 7) cs[j]) ∧ (∀ y, cs ≠ [] → a = some y → base ≤ y.block) := by
  rcases h.own.2 with ⟨rfl, h0⟩ | ⟨g, cap, cur, rfl, hg, _⟩
  · have : cs = [] := List.length_eq_zero_iff.1 h0
    subst this
    exact ⟨none, 0, rfl, fun j hj => absurd hj (by simp), fun y h => absurd rfl h⟩
  · refine ⟨_, _, rfl, fun j hj => ⟨g, 0, rfl, ?_⟩, fun y _ hy => by cases hy; exact hg⟩
    have hc : ∀ i, i < 7 → w.cell? ⟨g, 0 + j * 7 + i, none⟩ = _ := fun i hi => by rw [Nat.zero_add, h.own.cellAt (j * 7 + i) (by omega), cells7_at cs j hj i hi]
    exact ⟨hc 0 (by omega), hc 1 (by omega), hc 2 (by omega), hc 3 (by omega), hc 4 (by omega), hc 5 (by omega), hc 6 (by omega)⟩

/-- The frame of loose: the term's box, the place of the answer. -/
structure LF (H : Nat) (x : TT) (W : World) : Prop where
  b : Box7 W H x
  z : ZB7 W (H + 1)

theorem LF.lt {H : Nat} {x : TT} {W : World} (h : LF H x W) : H + 1 < W.heap.size := h.z.lt
theorem LF.below {H : Nat} {x : TT} {W W' : World} (h : LF H x W) (hb : Below W.heap.size W W') : LF H x W' := ⟨h.b.below hb, h.z.later hb⟩
theorem LF.far {H : Nat} {x : TT} {W W' : World} (h : LF H x W) (h1 : W'.heap[H]? = W.heap[H]?) (h2 : W'.heap[H + 1]? = W.heap[H + 1]?) : LF H x W' := by
  have c1 : ∀ i, W'.cell? ⟨H, i, none⟩ = W.cell? ⟨H, i, none⟩ := fun i => World.cell?_of_block (a := ⟨H, i, none⟩) h1
  have c2 : ∀ i, W'.cell? ⟨H + 1, i, none⟩ = W.cell? ⟨H + 1, i, none⟩ := fun i => World.cell?_of_block (a := ⟨H + 1, i, none⟩) h2
  have f1 : ∀ i, W'.frozen? ⟨H, i, none⟩ = W.frozen? ⟨H, i, none⟩ := fun i => World.frozen?_of_block (a := ⟨H, i, none⟩) h1
  have f2 : ∀ i, W'.frozen? ⟨H + 1, i, none⟩ = W.frozen? ⟨H + 1, i, none⟩ := fun i => World.frozen?_of_block (a := ⟨H + 1, i, none⟩) h2
  obtain ⟨⟨y0, y1, y2, y3, y4, y5, y6⟩, g0, g1, g2, g3, g4, g5, g6⟩ := h.z
  exact ⟨⟨h.b.at7.of c1, fun i hi => (f1 i).trans (h.b.fz i hi)⟩, ⟨(c2 0).trans y0, (c2 1).trans y1, (c2 2).trans y2, (c2 3).trans y3, (c2 4).trans y4, (c2 5).trans y5, (c2 6).trans y6⟩, (f2 0).trans g0, (f2 1).trans g1, (f2 2).trans g2, (f2 3).trans g3, (f2 4).trans g4, (f2 5).trans g5, (f2 6).trans g6⟩

theorem LF.start (x : TT) (w : World) : LF w.heap.size x ((w.alloc (.cells #[.int .i64 x.k, .int .i64 x.n, .int .i64 x.t.k, .slice x.t.a x.t.l.length x.t.c, .int .i64 x.f.k, .slice x.f.a x.f.l.length x.f.c, .slice x.a x.l.length x.c] 27)).alloc (.cells #[.int .i64 0, .int .i64 0, .int .i64 0, .slice none 0 0, .int .i64 0, .slice none 0 0, .slice none 0 0] 27)) := by
  refine ⟨⟨⟨?_, ?_, ?_, ?_, ?_, ?_, ?_⟩, fun i _ => ?_⟩, ⟨?_, ?_, ?_, ?_, ?_, ?_, ?_⟩, ?_, ?_, ?_, ?_, ?_, ?_, ?_⟩ <;> simp [go_sem]

/-- What loose answers. -/
def LoPost (Q : Nat → Prop) (x : TT) (w : World) (e : Ending) (w' : World) : Prop :=
  ∃ (u : TT) (m : Int), e = .returned (.tuple #[.agg #[.int .i64 u.k, .int .i64 u.n, .int .i64 u.t.k, .slice u.t.a u.t.l.length u.t.c, .int .i64 u.f.k, .slice u.f.a u.f.l.length u.f.c, .slice u.a u.l.length u.c], .int .i64 m]) ∧ looser x.tm u.tm ∧ u.In w' ∧ u.Bl Q ∧ u.nb ∧ Below w.heap.size w w'
end Go.Proofs.YtnddkmccagiclaaDoor

/-
  What the call of chaperonekeep.loose answers: a term that tells less, or as much.
-/
namespace Go.Proofs.YtnddkmccagiclaaDoor
open Go.RowKit

/-- No list is longer than what memory holds. -/
def TT.lw : TT → Prop
  | ⟨_, _, _, _, _, _, l⟩ => l.length ≤ 1353245080300 ∧ ∀ y, y ∈ l → y.lw
theorem TT.lw_mk {k n : Int} {t f : Tr} {a : Option Addr} {c : Nat} {l : List TT} : (TT.mk k n t f a c l).lw ↔ l.length ≤ 1353245080300 ∧ ∀ y, y ∈ l → y.lw := by
  rw [TT.lw]
theorem TT.lw.len {x : TT} (h : x.lw) : x.l.length ≤ 1353245080300 := by cases x; exact (TT.lw_mk.1 h).1
theorem TT.lw.mem {x y : TT} (h : x.lw) (hy : y ∈ x.l) : y.lw := by
  obtain ⟨k, n, t, f, a, c, l⟩ := x
  exact (TT.lw_mk.1 h).2 y hy

def withT (x : TT) (t : Tr) : TT := ⟨x.k, x.n, t, x.f, x.a, x.c, x.l⟩
theorem withT_self (x : TT) : withT x x.t = x := by cases x; rfl
def toldT (x : TT) (t : Tr) : Prop := t = x.t ∨ tells x.k = true ∧ t = leaf 0

theorem ZB7.kept {R b : Nat} {w w' : World} (h : ZB7 w b) (hk : Kept R none w w') (hb : b ≠ R) : ZB7 w' b := by
  have hl := h.lt
  obtain ⟨⟨h0, h1, h2, h3, h4, h5, h6⟩, f0, f1, f2, f3, f4, f5, f6⟩ := h
  exact ⟨⟨hk.cell h0 hb, hk.cell h1 hb, hk.cell h2 hb, hk.cell h3 hb, hk.cell h4 hb, hk.cell h5 hb, hk.cell h6 hb⟩, hk.fz f0 hl hb, hk.fz f1 hl hb, hk.fz f2 hl hb, hk.fz f3 hl hb, hk.fz f4 hl hb, hk.fz f5 hl hb, hk.fz f6 hl hb⟩

set_option maxRecDepth 20000 in
set_option maxHeartbeats 8000000 in
theorem loose_step (Q : Nat → Prop) (x : TT) (k : Int) (w : World) (hx : x.In w) (hnb : x.nb) (hlw : x.lw) (xb : x.Bl Q) (nw : ∀ b, w.heap.size ≤ b → Q b) (ih : ∀ y, y ∈ x.l → ∀ (Q' : Nat → Prop) (k' : Int) (W : World), y.In W → y.Bl Q' → (∀ b, W.heap.size ≤ b → Q' b) → Calls Tryd.prog 30 #[.agg #[.int .i64 y.k, .int .i64 y.n, .int .i64 y.t.k, .slice y.t.a y.t.l.length y.t.c, .int .i64 y.f.k, .slice y.f.a y.f.l.length y.f.c, .slice y.a y.l.length y.c], .int .i64 k'] W (LoPost Q' y W)) :
    Calls Tryd.prog 30 #[.agg #[.int .i64 x.k, .int .i64 x.n, .int .i64 x.t.k, .slice x.t.a x.t.l.length x.t.c, .int .i64 x.f.k, .slice x.f.a x.f.l.length x.f.c, .slice x.a x.l.length x.c], .int .i64 k] w (LoPost Q x w) := by
  obtain ⟨i0, hi0, hz0, hz1, hz2⟩ := info_parts Tryd.info27c
  have hxl : x.l.length ≤ 1353245080300 := hlw.len
  obtain ⟨W1, hW1⟩ : ∃ W1, W1 = ((w.alloc (.cells #[.int .i64 x.k, .int .i64 x.n, .int .i64 x.t.k, .slice x.t.a x.t.l.length x.t.c, .int .i64 x.f.k, .slice x.f.a x.f.l.length x.f.c, .slice x.a x.l.length x.c] 27)).alloc (.cells #[.int .i64 0, .int .i64 0, .int .i64 0, .slice none 0 0, .int .i64 0, .slice none 0 0, .slice none 0 0] 27)) := ⟨_, rfl⟩
  have hb1 : Below w.heap.size w W1 := by rw [hW1]; exact ((Below.refl _ _).alloc (Nat.le_refl _) _).alloc (by simp) _
  have hlf : LF w.heap.size x W1 := by rw [hW1]; exact LF.start x w
  have HX : Hid (x.In w ∧ x.nb ∧ x.Bl Q ∧ (∀ b, w.heap.size ≤ b → Q b) ∧ Below w.heap.size w W1 ∧ LF w.heap.size x W1) := ⟨hx, hnb, xb, nw, hb1, hlf⟩
  have HIH : Hid (∀ y, y ∈ x.l → ∀ (Q' : Nat → Prop) (k' : Int) (W : World), y.In W → y.Bl Q' → (∀ b, W.heap.size ≤ b → Q' b) → Calls Tryd.prog 30 #[.agg #[.int .i64 y.k, .int .i64 y.n, .int .i64 y.t.k, .slice y.t.a y.t.l.length y.t.c, .int .i64 y.f.k, .slice y.f.a y.f.l.length y.f.c, .slice y.a y.l.length y.c], .int .i64 k'] W (LoPost Q' y W)) := ih
  obtain ⟨⟨p0, p1, p2, p3, p4, p5, p6⟩, fz⟩ := hlf.b
  simp only [Nat.zero_add] at p0 p1 p2 p3 p4 p5 p6
  have g2 := fz 2 (by omega)
  have g3 := fz 3 (by omega)
  clear hx hnb hlw xb nw ih hb1 hlf fz
  go_enter Tryd.func30, Tryd.ntmps30
  go_upto_region 2 with fail
  rw [← hW1]
  clear hW1
  go_cut [19] (fun s19 wx => s19 = .bool (tells x.k) ∧ wx = W1)
  case first =>
    by_cases k7 : x.k = 7
    · have e7 : (x.k == 7) = true := by simpa using k7
      have HT : Hid (tells x.k = true) := by simp [Hid, tells, k7]
      clear k7
      go_wp2_with fail
      go_meet
      case rel => exact ⟨by rw [HT.out], rfl⟩
    · have e7 : (x.k == 7) = false := by simpa using k7
      by_cases k9 : x.k = 9
      · have e9 : (x.k == 9) = true := by simpa using k9
        have HT : Hid (tells x.k = true) := by simp [Hid, tells, k9]
        clear k7 k9
        go_wp2_with fail
        go_meet
        case rel => exact ⟨by rw [HT.out], rfl⟩
      · have e9 : (x.k == 9) = false := by simpa using k9
        have HT : Hid (tells x.k = false) := by simp [Hid, tells, k7, k9]
        clear k7 k9
        go_wp2_with fail
        go_meet
        case rel => exact ⟨by rw [HT.out], rfl⟩
  case rest =>
  obtain ⟨rfl, rfl⟩ := hcut
  obtain ⟨tb, htb⟩ : ∃ tb, tells x.k = tb := ⟨_, rfl⟩
  have HTB : Hid (tells x.k = tb) := htb
  rw [htb]
  clear htb
  go_upto_if 19 with fail
  go_cut [6] (fun s6 wx => ∃ (m : Int) (t' : Tr), s6 = .int .i64 m ∧ Hid (LF w.heap.size (withT x t') wx ∧ Below w.heap.size w wx ∧ toldT x t'))
  case first =>
    cases tb
    · have HN : Hid (LF w.heap.size (withT x x.t) wc ∧ Below w.heap.size w wc ∧ toldT x x.t) := ⟨by rw [withT_self]; exact HX.out.2.2.2.2.2, HX.out.2.2.2.2.1, .inl rfl⟩
      go_wp2_with fail
      go_meet
      case rel => exact ⟨0, x.t, rfl, HN⟩
    · by_cases hk0 : k = 0
      · have hk' : (k == 0) = true := by simpa using hk0
        have HN : Hid (LF w.heap.size (withT x (leaf 0)) ((wc.setCell ⟨w.heap.size, 2, none⟩ (.int .i64 0)).setCell ⟨w.heap.size, 3, none⟩ (.slice none 0 0)) ∧ Below w.heap.size w ((wc.setCell ⟨w.heap.size, 2, none⟩ (.int .i64 0)).setCell ⟨w.heap.size, 3, none⟩ (.slice none 0 0)) ∧ toldT x (leaf 0)) := by
          obtain ⟨_, _, _, _, h5, h6⟩ := HX.out
          refine ⟨⟨h6.b.set23 (t := leaf 0), ?_⟩, (h5.setCell (Nat.le_refl _) _).setCell (Nat.le_refl _) _, .inr ⟨HTB.out, rfl⟩⟩
          exact h6.z.kept (set23_kept (u := .int .i64 0) (v := .slice none 0 0)) (by omega)
        clear hk0
        go_wp2_with fail
        go_meet
        case rel => exact ⟨1, leaf 0, rfl, HN⟩
      · have hk' : (k == 0) = false := by simpa using hk0
        have HN : Hid (LF w.heap.size (withT x x.t) wc ∧ Below w.heap.size w wc ∧ toldT x x.t) := ⟨by rw [withT_self]; exact HX.out.2.2.2.2.2, HX.out.2.2.2.2.1, .inl rfl⟩
        clear hk0
        go_wp2_with fail
        go_meet
        case rel => exact ⟨1, x.t, rfl, HN⟩
  case rest =>
  obtain ⟨m0, t', rfl, HT0⟩ := hcut
  have q6 := HT0.out.1.b.at7.c6
  simp only [Nat.zero_add, withT] at q6
  have hxk : x.l.length ≤ 1353245080300 := hxl
  have HL0 : Hid (Below w.heap.size w wc ∧ LF w.heap.size (withT x t') wc ∧ RowT (fun b => Q b ∧ b ≠ w.heap.size ∧ b ≠ w.heap.size + 1) (w.heap.size + 1 + 1) (Value.slice none 0 0) ([] : List TT) wc ∧ ([] : List TT).length = 0 ∧ looserL ((x.l.take 0).map TT.tm) (([] : List TT).map TT.tm) ∧ (∀ c, c ∈ ([] : List TT) → c.nb)) := ⟨HT0.out.2.1, HT0.out.1, RowT.nil _ _ _, rfl, by simp [looserL], fun c h => by cases h⟩
  have HTT : Hid (toldT x t') := HT0.out.2.2
  clear HT0 p0 p1 p2 p3 p4 p5 p6 g2 g3 HTB
  go_wp2_with fail
  clear q6
  go_loopg [6, 7, 27] x.l.length (fun g s6 s7 s27 wr => ∃ (j : Nat) (m : Int) (v : Value) (cs : List TT), g + j = x.l.length ∧ s6 = .int .i64 m ∧ v = s7 ∧ s27 = .int .i64 (j : Int) ∧ Hid (Below w.heap.size w wr ∧ LF w.heap.size (withT x t') wr ∧ RowT (fun b => Q b ∧ b ≠ w.heap.size ∧ b ≠ w.heap.size + 1) (w.heap.size + 1 + 1) v cs wr ∧ cs.length = j ∧ looserL ((x.l.take j).map TT.tm) (cs.map TT.tm) ∧ (∀ c, c ∈ cs → c.nb)))
  case atStart => exact ⟨0, m0, _, [], by omega, rfl, rfl, rfl, HL0⟩
  case round =>
    obtain ⟨j, m, v, cs, hj, rfl, hv, rfl, HQ⟩ := hrel
    subst hv
    clear HL0
    by_cases hlt : j < x.l.length
    · obtain ⟨b, o, ea, hX, hyi⟩ := HX.out.1.part j hlt
      have hym : x.l[j] ∈ x.l := List.getElem_mem hlt
      obtain ⟨y, hye⟩ : ∃ y, x.l[j] = y := ⟨_, rfl⟩
      have hyb := HX.out.2.2.1.mem hym
      rw [hye] at hX hyi hym hyb
      obtain ⟨d0, d1, d2, d3, d4, d5, d6⟩ := hX.below HQ.out.1
      have i1 : (j : Int) < (x.l.length : Int) := by omega
      have i0' : (0 : Int) ≤ (j : Int) := by omega
      have HEA : Hid (x.a = some ⟨b, o, none⟩) := ea
      rw [ea]
      obtain ⟨OX, hOX⟩ : ∃ O, O = Obj.cells #[.int .i64 y.k, .int .i64 y.n, .int .i64 y.t.k, .slice y.t.a y.t.l.length y.t.c, .int .i64 y.f.k, .slice y.f.a y.f.l.length y.f.c, .slice y.a y.l.length y.c] 27 := ⟨_, rfl⟩
      have hbA : Below wr.heap.size wr (wr.alloc OX) := (Below.refl _ _).alloc (Nat.le_refl _) _
      have hbE := HQ.out.1.trans (hbA.mono HQ.out.1.size)
      have hrow := HQ.out.2.2.1
      have hlfr := HQ.out.2.1
      have hltw := hlfr.lt
      have HC : Hid (∀ k' : Int, Calls Tryd.prog 30 #[.agg #[.int .i64 y.k, .int .i64 y.n, .int .i64 y.t.k, .slice y.t.a y.t.l.length y.t.c, .int .i64 y.f.k, .slice y.f.a y.f.l.length y.f.c, .slice y.a y.l.length y.c], .int .i64 k'] (wr.alloc OX) (LoPost (fun b => (Q b ∧ b ≠ w.heap.size ∧ b ≠ w.heap.size + 1) ∧ some b ≠ v.ownBlock) y (wr.alloc OX))) := by
        intro k'
        refine HIH.out y hym _ k' _ (hyi.below hbE) ((hyb.and hyi.bl).mono fun b hb => ⟨⟨hb.1, by omega, by omega⟩, fun e => by have := (hrow.lt b e.symm).1; omega⟩) fun b hb => ?_
        simp only [World.size_alloc] at hb
        exact ⟨⟨HX.out.2.2.2.1 b (by omega), by omega, by omega⟩, fun e => by have := (hrow.lt b e.symm).2; omega⟩
      have HE : Hid (Below w.heap.size w (wr.alloc OX) ∧ LF w.heap.size (withT x t') (wr.alloc OX) ∧ RowT (fun b => Q b ∧ b ≠ w.heap.size ∧ b ≠ w.heap.size + 1) (w.heap.size + 1 + 1) v cs (wr.alloc OX) ∧ cs.length = j ∧ looserL ((x.l.take j).map TT.tm) (cs.map TT.tm) ∧ (∀ c, c ∈ cs → c.nb) ∧ x.l[j] = y) := ⟨hbE, hlfr.below hbA, hrow.below hbA, HQ.out.2.2.2.1, HQ.out.2.2.2.2.1, HQ.out.2.2.2.2.2, hye⟩
      have hcl : cs.length + 1 ≤ 1353245080300 := by have := HQ.out.2.2.2.1; omega
      clear ea hX hyi hym hyb hye hbA hbE hrow hlfr hltw HQ
      subst hOX
      go_wp2_with fail
      refine (HC.out _).mono ?_
      rintro e w2 ⟨u, m2, rfl, hlo, hui, hub, hunb, hb2⟩
      clear d0 d1 d2 d3 d4 d5 d6
      obtain ⟨OU, hOU⟩ : ∃ O, O = Obj.cells #[.int .i64 u.k, .int .i64 u.n, .int .i64 u.t.k, .slice u.t.a u.t.l.length u.t.c, .int .i64 u.f.k, .slice u.f.a u.f.l.length u.f.c, .slice u.a u.l.length u.c] 27 := ⟨_, rfl⟩
      have hbR : Below w2.heap.size w2 (w2.alloc OU) := (Below.refl _ _).alloc (Nat.le_refl _) _
      have hb3 := hb2.trans (hbR.mono hb2.size)
      have hrow2 := HE.out.2.2.1.below hb3
      obtain ⟨N, hN⟩ : ∃ N, cs.length = N := ⟨_, rfl⟩
      obtain ⟨xs, hxs⟩ : ∃ xs, cells7 cs = xs := ⟨_, rfl⟩
      have uo : (w2.alloc OU).ownsRow (w.heap.size + 1 + 1) 27 7 v N xs := by rw [← hN, ← hxs]; exact hrow2.own
      have hnew := heap_alloc_new (w2.alloc OU) OU
      simp only [World.size_alloc] at hnew
      have HW : Hid (Below w.heap.size w (w2.alloc OU) ∧ LF w.heap.size (withT x t') (w2.alloc OU) ∧ RowT (fun b => Q b ∧ b ≠ w.heap.size ∧ b ≠ w.heap.size + 1) (w.heap.size + 1 + 1) v cs (w2.alloc OU) ∧ u.In (w2.alloc OU) ∧ u.Bl (fun b => (Q b ∧ b ≠ w.heap.size ∧ b ≠ w.heap.size + 1) ∧ some b ≠ v.ownBlock) ∧ u.nb ∧ looser y.tm u.tm) := ⟨HE.out.1.trans (hb3.mono HE.out.1.size), HE.out.2.1.below hb3, hrow2, hui.below hbR, hub, hunb, hlo⟩
      have HNX : Hid (cs.length = N ∧ cells7 cs = xs) := ⟨hN, hxs⟩
      have hNb : N + 1 ≤ 1353245080300 := by omega
      have hw2 : w.heap.size + 1 + 1 ≤ w2.heap.size := by have h1 := HE.out.2.1.lt; have h2 := hb2.size; omega
      clear hlo hui hub hunb hb2 HC hbR hb3 hrow2 hN hxs
      subst hOU
      go_wp2_with (at_builtin; refine wpList_append_lies _ rfl _ _ _ rfl (w.heap.size + 1 + 1) 27 i0 _ 7 104 Tryd.underlying25 hi0 hz0 hz1 hz2 rfl (by omega) v N xs rfl (uo.alloc _) ⟨w2.heap.size + 1, 0, none⟩ 1 1 [.int .i64 u.k, .int .i64 u.n, .int .i64 u.t.k, .slice u.t.a u.t.l.length u.t.c, .int .i64 u.f.k, .slice u.f.a u.f.l.length u.f.c, .slice u.a u.l.length u.c] rfl rfl (World.news_of_block (cs := #[.int .i64 u.k, .int .i64 u.n, .int .i64 u.t.k, .slice u.t.a u.t.l.length u.t.c, .int .i64 u.f.k, .slice u.f.a u.f.l.length u.f.c, .slice u.a u.l.length u.c]) (t := 27) (fr := (0, 0)) hnew) (by simp [Value.oneCell']) (by omega) (by unfold maxLen; omega) (by omega) (by simp; omega) (w2.heap.size + 1 + 1) (by simp) ?_; intro gg cap1 w3 hown1 hgrow hat hlt3)
      obtain ⟨OU, hOU⟩ : ∃ O, O = Obj.cells #[.int .i64 u.k, .int .i64 u.n, .int .i64 u.t.k, .slice u.t.a u.t.l.length u.t.c, .int .i64 u.f.k, .slice u.f.a u.f.l.length u.f.c, .slice u.a u.l.length u.c] 27 := ⟨_, rfl⟩
      rw [← hOU] at hgrow HW
      have HN : Hid (Below w.heap.size w w3 ∧ LF w.heap.size (withT x t') w3 ∧ RowT (fun b => Q b ∧ b ≠ w.heap.size ∧ b ≠ w.heap.size + 1) (w.heap.size + 1 + 1) (Value.slice (some ⟨gg, 0, none⟩) (N + 1) cap1) (cs ++ [u]) w3 ∧ (cs ++ [u]).length = (j + 1) ∧ looserL ((x.l.take (j + 1)).map TT.tm) ((cs ++ [u]).map TT.tm) ∧ (∀ c, c ∈ (cs ++ [u]) → c.nb)) := by
        obtain ⟨hbw, hlfw, hrw, huw, hub, hunb, hlo⟩ := HW.out
        obtain ⟨eN, exs⟩ := HNX.out
        have hst := hrw.step (gg := gg) (cap1 := cap1) (w3 := w3) (X := OU) huw hub (by rw [eN, exs]; exact hown1) hgrow (by simpa using hat)
        have hs := hgrow.size
        simp only [World.size_alloc] at hs
        have hov : ∀ q, v.ownBlock = some q → w.heap.size + 1 + 1 ≤ q := fun q hq => (hrw.lt q hq).1
        have hst1 := hst.1
        rw [eN] at hst1
        have hll := hlfw.lt
        simp only [World.size_alloc] at hll
        refine ⟨?_, hlfw.far (hst.2 _ (by simp; omega) fun e => by have := hov _ e.symm; omega) (hst.2 _ (by simp; omega) fun e => by have := hov _ e.symm; omega), hst1, by rw [List.length_append, HE.out.2.2.2.1]; rfl, ?_, fun c hc => ?_⟩
        · refine ⟨(hgrow.os.trans rfl).trans hbw.os, (hgrow.tape.trans rfl).trans hbw.tape, (hgrow.output.trans rfl).trans hbw.output, by have := hbw.size; simp at this; omega, fun q hq => ?_⟩
          exact (hst.2 q (by simp; omega) fun e => by have := hov q e.symm; omega).trans (hbw.block q hq)
        · rw [take_snoc _ _ hlt, HE.out.2.2.2.2.2.2, List.map_append, List.map_append]
          exact looserL_snoc _ _ _ _ HE.out.2.2.2.2.1 hlo
        · rcases List.mem_append.1 hc with hc | hc
          · exact HE.out.2.2.2.2.2.1 c hc
          · rcases List.mem_singleton.1 hc with rfl
            exact hunb
      clear hown1 hgrow hat hlt3 HW uo hnew hOU HE HNX
      go_wp2_with fail
      rw [← HEA.out]
      go_roundg (x.l.length - (j + 1))
      case measure => omega
      case rel => exact ⟨j + 1, _, _, cs ++ [u], by omega, rfl, rfl, by go_num, HN⟩
    · have hje : j = x.l.length := by omega
      obtain ⟨a, cap, hv, hlist, hla⟩ := HQ.out.2.2.1.list
      have HF : Hid (Below w.heap.size w wr ∧ LF w.heap.size (withT x t') wr ∧ RowT (fun b => Q b ∧ b ≠ w.heap.size ∧ b ≠ w.heap.size + 1) (w.heap.size + 1 + 1) v cs wr ∧ cs.length = j ∧ looserL ((x.l.take j).map TT.tm) (cs.map TT.tm) ∧ (∀ c, c ∈ cs → c.nb)) := HQ
      have HVL : Hid (v = .slice a cs.length cap ∧ (∀ q (hq : q < cs.length), ∃ b o, a = some ⟨b, o, none⟩ ∧ At7 wr b (o + q * 7) cs[q]) ∧ (∀ y, cs ≠ [] → a = some y → w.heap.size + 1 + 1 ≤ y.block)) := ⟨hv, hlist, hla⟩
      have HJ : Hid (j = x.l.length) := hje
      clear HQ hlist hla hje
      subst hv
      have HN : Hid (LoPost Q x w (.returned (.tuple #[.agg #[.int .i64 x.k, .int .i64 x.n, .int .i64 t'.k, .slice t'.a t'.l.length t'.c, .int .i64 x.f.k, .slice x.f.a x.f.l.length x.f.c, .slice a cs.length cap], .int .i64 m])) (put7 (wr.setCell ⟨w.heap.size, 6, none⟩ (.slice a cs.length cap)) (w.heap.size + 1) (TT.mk x.k x.n t' x.f a cap cs))) := by
        obtain ⟨hbw, hlf, hrow, hlen, hlo, hcnb⟩ := HF.out
        obtain ⟨_, hlist, hla⟩ := HVL.out
        obtain ⟨hxi, hxn, hxb, hnw, _, _⟩ := HX.out
        have hk1 : Kept w.heap.size none wr (wr.setCell ⟨w.heap.size, 6, none⟩ (.slice a cs.length cap)) := setR_kept
        have hk2 : Kept (w.heap.size + 1) none (wr.setCell ⟨w.heap.size, 6, none⟩ (.slice a cs.length cap)) (put7 (wr.setCell ⟨w.heap.size, 6, none⟩ (.slice a cs.length cap)) (w.heap.size + 1) (TT.mk x.k x.n t' x.f a cap cs)) := put7_kept
        have hll := hlf.lt
        have ht' : t'.In wr ∧ t'.Bl (· < w.heap.size) ∧ t'.Bl Q := by
          rcases HTT.out with rfl | ⟨_, rfl⟩
          · exact ⟨hxi.t.below hbw, hxi.t.bl, hxb.t⟩
          · exact ⟨leaf_in _ _, leaf_bl _ _, leaf_bl _ _⟩
        have htm : looser x.tm (TT.mk x.k x.n t' x.f a cap cs).tm := by
          rw [TT.tm_mk]
          obtain ⟨kk, nn, tt, ff, aa, cc, ll⟩ := x
          rw [TT.tm_mk]
          refine looser_mk.2 ⟨rfl, rfl, rfl, ?_, ?_⟩
          · rcases HTT.out with rfl | ⟨h1, rfl⟩
            · exact .inl rfl
            · exact .inr ⟨h1, leaf_ty 0⟩
          · have := hlo
            rw [HJ.out, List.take_of_length_le (Nat.le_refl _)] at this
            exact this
        refine ⟨(TT.mk x.k x.n t' x.f a cap cs), m, rfl, htm, TT.In_mk.2 ⟨?_, ?_, fun q hq => ?_, fun c hc => ?_⟩, TT.Bl_mk.2 ⟨ht'.2.2, hxb.f, fun hne z hz => hnw _ (by have := hla z hne hz; omega), fun c hc => (hrow.ins c hc).2.mono fun b hb => hb.1.1⟩, TT.nb_mk.2 ⟨hxn.n, hcnb⟩, ?_⟩
        · exact (ht'.1.keptR hk1 (ht'.2.1.mono fun b hb => by omega)).keptR hk2 (ht'.2.1.mono fun b hb => by omega)
        · exact ((hxi.f.below hbw).keptR hk1 (hxi.f.bl.mono fun b hb => by omega)).keptR hk2 (hxi.f.bl.mono fun b hb => by omega)
        · obtain ⟨b, o, e, h7⟩ := hlist q hq
          have hb2 := hla _ (fun e => by rw [e] at hq; simp at hq) e
          simp only at hb2
          exact ⟨b, o, e, (h7.keptR hk1 (by omega)).keptR hk2 (by omega)⟩
        · obtain ⟨h1, h2⟩ := hrow.ins c hc
          exact (h1.keptR hk1 (h2.mono fun b hb => hb.1.2.1)).keptR hk2 (h2.mono fun b hb => hb.1.2.2)
        · refine (hbw.setCell (Nat.le_refl _) _).trans ((hk2.below (by simp) ?_).mono (by omega))
          have : (wr.setCell ⟨w.heap.size, 6, none⟩ (.slice a cs.length cap)).heap.size = wr.heap.size := by simp [World.setCell]
          omega
      have hbx := HF.out.2.1.b
      have hz7 := HF.out.2.1.z
      obtain ⟨e0, e1, e2, e3, e4, e5, e6⟩ := (put7_box (x := (TT.mk x.k x.n t' x.f a cap cs)) (hz7.kept (setR_kept (v := .slice a cs.length cap) (i := 6) (R := w.heap.size)) (by omega)).box).at7
      simp only [Nat.zero_add] at e0 e1 e2 e3 e4 e5 e6
      obtain ⟨⟨q0, q1, q2, q3, q4, q5, q6⟩, qf⟩ := hbx
      simp only [Nat.zero_add, withT] at q0 q1 q2 q3 q4 q5 q6
      have qf6 := qf 6 (by omega)
      obtain ⟨⟨y0, y1, y2, y3, y4, y5, y6⟩, f0, f1, f2, f3, f4, f5, f6⟩ := hz7
      clear qf HF HVL HTT HX HIH
      go_wp2_with fail
      refine bodyPost_ret (v := .tuple #[.agg #[.int .i64 x.k, .int .i64 x.n, .int .i64 t'.k, .slice t'.a t'.l.length t'.c, .int .i64 x.f.k, .slice x.f.a x.f.l.length x.f.c, .slice a cs.length cap], .int .i64 m]) ?_ rfl HN.out
      unfold put7 at e0 e1 e2 e3 e4 e5 e6
      simp [results, Tryd.results30, go_sem, e0, e1, e2, e3, e4, e5, e6]

theorem loose_any : ∀ (n : Nat) (Q : Nat → Prop) (x : TT) (k : Int) (w : World), x.sz ≤ n → x.In w → x.nb → x.lw → x.Bl Q → (∀ b, w.heap.size ≤ b → Q b) → Calls Tryd.prog 30 #[.agg #[.int .i64 x.k, .int .i64 x.n, .int .i64 x.t.k, .slice x.t.a x.t.l.length x.t.c, .int .i64 x.f.k, .slice x.f.a x.f.l.length x.f.c, .slice x.a x.l.length x.c], .int .i64 k] w (LoPost Q x w) := by
  intro n
  induction n with
  | zero => intro Q x k w h _ _ _ _ _; have := x.sz_pos; omega
  | succ n ih =>
    intro Q x k w h hx hnb hlw xb nw
    refine loose_step Q x k w hx hnb hlw xb nw fun y hy Q' k' W hyi hyb hnw => ih Q' y k' W ?_ hyi (hnb.mem hy) (hlw.mem hy) hyb hnw
    have h1 := x.sz_eq
    have h2 : y.sz ≤ (x.l.map TT.sz).sum := by
      have := sz_mem (x.l.map TT.tm) y.tm (List.mem_map.2 ⟨y, hy, rfl⟩)
      rw [sz_map, ← y.sz_tm] at this
      exact this
    omega
end Go.Proofs.YtnddkmccagiclaaDoor

/-
  What the call of kind.finer answers at two trees that lie in memory, where there is room for all levels of the first.
-/
namespace Go.Proofs.YtnddkmccagiclaaDoor
open Go.RowKit

set_option maxHeartbeats 400000 in
theorem finer_right (n : Nat) (hn : n ≤ 1000) (k : Int) (a a' : Option Addr) (m m' c c' : Nat) (rp : Option Addr) (w : World) :
    Calls Tryd.prog 49 #[.agg #[.int .i64 k, .slice a m c], .agg #[.int .i64 0, .slice a' m' c'], .int .i64 ((n : Int) + 1), .pointer rp] w fun e w' => e = .returned (.bool true) ∧ Below w.heap.size w w' := by
  have hz : (((n : Int) + 1) == 0) = false := by simp; omega
  go_enter Tryd.func49, Tryd.ntmps49
  go_wp2_with fail
  go_ret
  exact ⟨rfl, ((Below.refl _ _).alloc (Nat.le_refl _) _).alloc (by simp) _⟩

set_option maxHeartbeats 1000000 in
theorem finer_step (n : Nat) (hn : n ≤ 1000) (x y : Tr) (rp : Option Addr) (w : World) (hx : x.In w) (hy : y.In w) (hh : x.hgt ≤ n + 1) (hs : x.sm) (e2 : (y.k == 0) = false)
    (ih : Hid (∀ (x y : Tr) (w : World), x.In w → y.In w → x.hgt ≤ n → x.sm → Calls Tryd.prog 49 #[.agg #[.int .i64 x.k, .slice x.a x.l.length x.c], .agg #[.int .i64 y.k, .slice y.a y.l.length y.c], .int .i64 (n : Int), .pointer rp] w fun e w' => e = .returned (.bool (relY escFiner x.ty y.ty)) ∧ Below w.heap.size w w')) :
    Calls Tryd.prog 49 #[.agg #[.int .i64 x.k, .slice x.a x.l.length x.c], .agg #[.int .i64 y.k, .slice y.a y.l.length y.c], .int .i64 ((n : Int) + 1), .pointer rp] w fun e w' => e = .returned (.bool (relY escFiner x.ty y.ty)) ∧ Below w.heap.size w w' := by
  have hz : (((n : Int) + 1) == 0) = false := by simp; omega
  have hlen := hs.len
  by_cases ht0 : (x.k == y.k && (x.l.length : Int) == (y.l.length : Int)) = false
  · have ht : Hid ((x.k == y.k && (x.l.length : Int) == (y.l.length : Int)) = false) := ht0
    clear ht0
    go_enter Tryd.func49, Tryd.ntmps49
    go_wp2_with fail
    refine (alike_any _ _ _ _ _ _ _ _ false ht.out _).mono ?_
    rintro e w1 ⟨rfl, hb1⟩
    go_wp2_with fail
    go_ret
    refine ⟨?_, (((Below.refl _ _).alloc (Nat.le_refl _) _).alloc (by simp) _).trans (hb1.mono (by simp; omega))⟩
    rw [relY_top escFiner x y (by simp [escFiner, e2]) ht.out]
    rfl
  · have ht' : Hid ((x.k == y.k && (x.l.length : Int) == (y.l.length : Int)) = true) := by simpa [Hid] using ht0
    clear ht0
    have hk : Hid (x.k = y.k) := by have h := ht'.out; simp at h; exact h.1
    have hl : Hid (x.l.length = y.l.length) := by have h := ht'.out; simp at h; exact Int.ofNat.inj h.2
    go_enter Tryd.func49, Tryd.ntmps49
    go_wp2_with fail
    refine (alike_any _ _ _ _ _ _ _ _ true ht'.out _).mono ?_
    rintro e w1 ⟨rfl, hb1⟩
    have hbw : Below w.heap.size w w1 := (((Below.refl _ _).alloc (Nat.le_refl _) _).alloc (by simp) _).trans (hb1.mono (by simp; omega))
    have p1 : w1.cell? ⟨w.heap.size, 1, none⟩ = some (.slice x.a x.l.length x.c) := cell_later hb1 (by simp [go_sem])
    have p3 : w1.cell? ⟨w.heap.size + 1, 1, none⟩ = some (.slice y.a y.l.length y.c) := cell_later hb1 (by simp [go_sem])
    clear hb1
    go_wp2_with fail
    go_loopw [27] (fun i wr => ∃ j : Nat, j ≤ x.l.length ∧ i = .int .i64 (j : Int) ∧ Below w1.heap.size w1 wr ∧ ∀ q (h : q < x.l.length) (h' : q < y.l.length), q < j → relY escFiner x.l[q].ty y.l[q].ty = true) (fun i _ => x.l.length - (intOf i).toNat)
    case atStart => exact ⟨0, Nat.zero_le _, rfl, Below.refl _ _, fun q _ _ h => absurd h (by omega)⟩
    case round =>
      obtain ⟨j, hj, rfl, hbr, hall⟩ := hrel
      have HA : Hid (∀ q (h : q < x.l.length) (h' : q < y.l.length), q < j → relY escFiner x.l[q].ty y.l[q].ty = true) := hall
      clear hall
      have hbwr : Below w.heap.size w wr := hbw.trans (hbr.mono hbw.size)
      by_cases hlt : j < x.l.length
      · have hlt' : j < y.l.length := hl.out ▸ hlt
        obtain ⟨b, o, ea, x0, x1, hxj⟩ := hx.part j hlt
        obtain ⟨b', o', eb, y0, y1, hyj⟩ := hy.part j hlt'
        have q1 : wr.cell? ⟨w.heap.size, 1, none⟩ = some (.slice (some ⟨b, o, none⟩) x.l.length x.c) := by rw [← ea]; exact cell_later hbr p1
        have q3 : wr.cell? ⟨w.heap.size + 1, 1, none⟩ = some (.slice (some ⟨b', o', none⟩) y.l.length y.c) := by rw [← eb]; exact cell_later hbr p3
        replace x0 := cell_later hbwr x0
        replace x1 := cell_later hbwr x1
        replace y0 := cell_later hbwr y0
        replace y1 := cell_later hbwr y1
        have i1 : (j : Int) < (x.l.length : Int) := by omega
        have i2 : (j : Int) < (y.l.length : Int) := by omega
        have i0 : (0 : Int) ≤ (j : Int) := by omega
        clear p1 p3 ea eb hx hy ht'
        have hwr : IntKind.i64.wrap (n : Int) = (n : Int) := wrap_small n hn
        obtain ⟨r, hr⟩ : ∃ r, relY escFiner x.l[j].ty y.l[j].ty = r := ⟨_, rfl⟩
        have HC : Hid (∀ (w : World), x.l[j].In w → y.l[j].In w → Calls Tryd.prog 49 #[.agg #[.int .i64 x.l[j].k, .slice x.l[j].a x.l[j].l.length x.l[j].c], .agg #[.int .i64 y.l[j].k, .slice y.l[j].a y.l[j].l.length y.l[j].c], .int .i64 (n : Int), .pointer rp] w fun e w' => e = .returned (.bool r) ∧ Below w.heap.size w w') := by
          intro w h1 h2
          have := ih.out x.l[j] y.l[j] w h1 h2 (Tr.hgt_part hh j hlt) (hs.part j hlt)
          rw [hr] at this
          exact this
        have HR : Hid (relY escFiner x.l[j].ty y.l[j].ty = r) := hr
        clear hr
        cases r
        · go_wp2_with fail
          go_region_held3 (fun w' => w'.cell? ⟨w.heap.size, 1, none⟩ = some (.slice (some ⟨b, o, none⟩) x.l.length x.c) ∧ w'.cell? ⟨w.heap.size + 1, 1, none⟩ = some (.slice (some ⟨b', o', none⟩) y.l.length y.c) ∧ w'.cell? ⟨b, o + j * 2, none⟩ = some (.int .i64 x.l[j].k) ∧ w'.cell? ⟨b, o + j * 2 + 1, none⟩ = some (.slice x.l[j].a x.l[j].l.length x.l[j].c) ∧ w'.cell? ⟨b', o' + j * 2, none⟩ = some (.int .i64 y.l[j].k) ∧ w'.cell? ⟨b', o' + j * 2 + 1, none⟩ = some (.slice y.l[j].a y.l[j].l.length y.l[j].c)) (first | exact ⟨cell_later hb2 q1, cell_later hb2 q3, cell_later hb2 x0, cell_later hb2 x1, cell_later hb2 y0, cell_later hb2 y1⟩ | go_keep) (first | (go_at_call 49; refine (HC.out _ (hxj.below hbwr.drew) (hyj.below hbwr.drew)).mono ?_; rintro e w2 ⟨rfl, hb2⟩))
          have hbr2 : Below w1.heap.size w1 w2 := hbr.drew.trans (hb2.mono hbr.size)
          go_wp2_with fail
          go_ret
          refine ⟨?_, hbw.trans (hbr2.mono hbw.size)⟩
          rw [relY_part_not escFiner x y (by simp [escFiner, e2]) j hlt hlt' HR.out]
          rfl
        · go_wp2_with fail
          go_region_held3 (fun w' => w'.cell? ⟨w.heap.size, 1, none⟩ = some (.slice (some ⟨b, o, none⟩) x.l.length x.c) ∧ w'.cell? ⟨w.heap.size + 1, 1, none⟩ = some (.slice (some ⟨b', o', none⟩) y.l.length y.c) ∧ w'.cell? ⟨b, o + j * 2, none⟩ = some (.int .i64 x.l[j].k) ∧ w'.cell? ⟨b, o + j * 2 + 1, none⟩ = some (.slice x.l[j].a x.l[j].l.length x.l[j].c) ∧ w'.cell? ⟨b', o' + j * 2, none⟩ = some (.int .i64 y.l[j].k) ∧ w'.cell? ⟨b', o' + j * 2 + 1, none⟩ = some (.slice y.l[j].a y.l[j].l.length y.l[j].c)) (first | exact ⟨cell_later hb2 q1, cell_later hb2 q3, cell_later hb2 x0, cell_later hb2 x1, cell_later hb2 y0, cell_later hb2 y1⟩ | go_keep) (first | (go_at_call 49; refine (HC.out _ (hxj.below hbwr.drew) (hyj.below hbwr.drew)).mono ?_; rintro e w2 ⟨rfl, hb2⟩))
          have hbr2 : Below w1.heap.size w1 w2 := hbr.drew.trans (hb2.mono hbr.size)
          go_wp2_with fail
          go_roundw
          case rel =>
            refine ⟨j + 1, by omega, by go_num, hbr2, fun q h h' hq => ?_⟩
            by_cases e : q = j
            · subst e; exact HR.out
            · exact HA.out q h h' (by omega)
          case measure => simp [intOf]; omega
      · go_wp2_with fail
        go_ret
        refine ⟨?_, hbwr⟩
        rw [relY_parts escFiner x y hk.out hl.out fun q h h' => HA.out q h h' (by omega)]
        rfl

theorem finer_any (n : Nat) : n ≤ 1000 → ∀ (x y : Tr) (rp : Option Addr) (w : World), x.In w → y.In w → x.hgt ≤ n → x.sm → Calls Tryd.prog 49 #[.agg #[.int .i64 x.k, .slice x.a x.l.length x.c], .agg #[.int .i64 y.k, .slice y.a y.l.length y.c], .int .i64 (n : Int), .pointer rp] w fun e w' => e = .returned (.bool (relY escFiner x.ty y.ty)) ∧ Below w.heap.size w w' := by
  induction n with
  | zero =>
    intro _ x y rp w _ _ h
    have := x.hgt_pos
    omega
  | succ n ih =>
    intro hn x y rp w hx hy h hs
    have e : ((n + 1 : Nat) : Int) = (n : Int) + 1 := by omega
    rw [e]
    by_cases k2 : y.k = 0
    · rw [k2, relY_esc escFiner x y (by simp [escFiner, k2])]
      exact finer_right n (by omega) x.k x.a y.a _ _ _ _ rp w
    exact finer_step n (by omega) x y rp w hx hy h hs (by simpa using k2) (fun x y w hx hy h hs => ih (by omega) x y rp w hx hy h hs)
end Go.Proofs.YtnddkmccagiclaaDoor

/-
  What the calls of kind.holds (of kind.finer) and kind.Finer answer at two trees of which the first has at most a thousand levels.
-/
namespace Go.Proofs.YtnddkmccagiclaaDoor
open Go.RowKit

set_option maxHeartbeats 1000000 in
theorem holds_33 (x y : Tr) (r : Bool) (w : World) (hx : x.In w) (hy : y.In w)
    (HC : Hid (∀ (rp : Option Addr) (w : World), x.In w → y.In w → Calls Tryd.prog 49 #[.agg #[.int .i64 x.k, .slice x.a x.l.length x.c], .agg #[.int .i64 y.k, .slice y.a y.l.length y.c], .int .i64 1000, .pointer rp] w fun e w' => e = .returned (.bool r) ∧ Below w.heap.size w w')) :
    Calls Tryd.prog 46 #[.func (.func 49) #[] #[], .agg #[.int .i64 x.k, .slice x.a x.l.length x.c], .agg #[.int .i64 y.k, .slice y.a y.l.length y.c]] w fun e w' => e = .returned (.bool r) ∧ Below w.heap.size w w' := by
  go_enter Tryd.func46, Tryd.ntmps46
  go_wp2_with fail
  refine (put_any (w.heap.size + 1 + 1) (.slice none 0 0) 0 [] x.k y.k x.a y.a x.l.length y.l.length x.c y.c none _ (by simp [go_sem]) (by simp [go_sem]) (World.ownsRow_nil _ _ _ _) (by omega)).mono ?_
  rintro e w1 ⟨rfl, g, cap, hc1, hf1, ho1, _, hk1⟩
  have hbw : Below w.heap.size w w1 := ((((Below.refl _ _).alloc (Nat.le_refl _) _).alloc (by simp) _).alloc (by simp; omega) _).trans ((hk1.below (by simp [Value.ownBlock]) (by simp)).mono (by omega))
  have hsz : w.heap.size + 1 + 1 < w1.heap.size := World.block_lt_of_cell? _ _ hc1
  have HO : Hid (Off (w.heap.size + 1 + 1) x y r 1 w1) := ⟨hf1, .inl ⟨rfl, g, cap, by simpa using hc1, by simpa using ho1⟩⟩
  clear hc1 hf1 ho1 hk1
  go_wp2_with fail
  go_loopg [] 1 (fun k wr => Hid (Off (w.heap.size + 1 + 1) x y r k wr) ∧ Below w.heap.size w wr)
  case atStart => exact ⟨HO, hbw⟩
  case round =>
    obtain ⟨HR, hbr⟩ := hrel
    obtain ⟨hfr, ⟨rfl, g, cap, hc, ho⟩ | ⟨rfl, rfl, a, cap, hc⟩⟩ := HR.out
    · have c0 := ho.cellAt 0 (by omega)
      have c1 := ho.cellAt 1 (by omega)
      have c2 := ho.cellAt 2 (by omega)
      have c3 := ho.cellAt 3 (by omega)
      have c4 := ho.cellAt 4 (by omega)
      simp only [List.getElem?_cons_zero, List.getElem?_cons_succ] at c0 c1 c2 c3 c4
      have hcap : 1 ≤ cap := by
        rcases ho.2 with ⟨h, _⟩ | ⟨g', cap', cur, h, _, _, h1, _⟩
        · cases h
        · cases h; exact h1
      have hgr : w.heap.size + 1 + 1 < g := by
        rcases ho.2 with ⟨h, _⟩ | ⟨g', cap', cur, h, h1, _⟩
        · cases h
        · cases h; exact h1
      have hlr : w.heap.size + 1 + 1 < wr.heap.size := World.block_lt_of_cell? _ _ hc
      clear ho HR HO
      go_wp2_with fail
      refine (empty_any (w.heap.size + 1 + 1) (some ⟨g, 0, none⟩) 1 cap _ hc).mono ?_
      rintro e w' ⟨rfl, rfl⟩
      go_wp2_with fail
      refine (take_any (w.heap.size + 1 + 1) g 0 cap x.k y.k x.a y.a x.l.length y.l.length x.c y.c none _ (by simpa using hc) hfr (by omega) (by omega) (by simpa using c0) (by simpa using c1) (by simpa using c2) (by simpa using c3) (by simpa using c4)).mono ?_
      rintro e w' ⟨rfl, rfl⟩
      go_wp2_with fail
      have hb3 : Below w.heap.size w (((w'.setCell ⟨w.heap.size + 1 + 1, 0, none⟩ (.slice (some ⟨g, 0, none⟩) 0 cap)).alloc (.cells #[.int .i64 x.k, .slice x.a x.l.length x.c, .int .i64 y.k, .slice y.a y.l.length y.c, .pointer none] 118)).alloc (.cells #[.int .i64 x.k, .slice x.a x.l.length x.c, .int .i64 y.k, .slice y.a y.l.length y.c, .pointer none] 118)) :=
        ((hbr.setCell (by simp; omega) _).alloc (by simp [World.setCell]; omega) _).alloc (by simp [World.setCell]; omega) _
      have hb4 := hb3.alloc (by simp [World.setCell]; omega) (.cells #[.int .i64 x.k, .slice x.a x.l.length x.c, .int .i64 y.k, .slice y.a y.l.length y.c, .pointer none] 118)
      refine (HC.out _ _ (hx.below hb4) (hy.below hb4)).mono ?_
      rintro e w5 ⟨rfl, hb5⟩
      have hb6 : Below w.heap.size w w5 := hb4.trans (hb5.mono (by simp [World.setCell]; omega))
      have hcR : w5.cell? ⟨w.heap.size + 1 + 1, 0, none⟩ = some (.slice (some ⟨g, 0, none⟩) 0 cap) := by
        refine cell_later hb5 (cell_later ((((Below.refl _ (w'.setCell ⟨w.heap.size + 1 + 1, 0, none⟩ (.slice (some ⟨g, 0, none⟩) 0 cap))).alloc (Nat.le_refl _) _).alloc (by simp) _).alloc (by simp; omega) _) ?_)
        exact World.cell?_setCell_same _ _ _ hc
      have hfR : w5.frozen? ⟨w.heap.size + 1 + 1, 0, none⟩ = false := by
        rw [hb5.frozen (p := ⟨w.heap.size + 1 + 1, 0, none⟩) (by simp [World.setCell]; omega)]
        simp [frozen?_alloc_cells, hfr]
      clear hb5 hb4 hb3 hc hfr c0 c1 c2 c3 c4
      cases r
      · go_wp2_with fail
        go_ret
        exact ⟨rfl, hb6⟩
      · go_wp2_with fail
        go_roundg 0
        case measure => omega
        case rel => exact ⟨⟨hfR, .inr ⟨rfl, rfl, _, _, hcR⟩⟩, hb6⟩
    · go_wp2_with fail
      refine (empty_any (w.heap.size + 1 + 1) a 0 cap _ hc).mono ?_
      rintro e w' ⟨rfl, rfl⟩
      go_wp2_with fail
      go_ret
      exact ⟨rfl, hbr⟩
set_option maxHeartbeats 400000 in
/-- kind.Finer. -/
theorem finer_whole (x y : Tr) (w : World) (hx : x.In w) (hy : y.In w) (hh : x.hgt ≤ 1000) (hs : x.sm) :
    Calls Tryd.prog 31 #[.agg #[.int .i64 x.k, .slice x.a x.l.length x.c], .agg #[.int .i64 y.k, .slice y.a y.l.length y.c]] w fun e w' => e = .returned (.bool (relY escFiner x.ty y.ty)) ∧ Below w.heap.size w w' := by
  obtain ⟨r, hr⟩ : ∃ r, relY escFiner x.ty y.ty = r := ⟨_, rfl⟩
  have HC : Hid (∀ (rp : Option Addr) (w : World), x.In w → y.In w → Calls Tryd.prog 49 #[.agg #[.int .i64 x.k, .slice x.a x.l.length x.c], .agg #[.int .i64 y.k, .slice y.a y.l.length y.c], .int .i64 1000, .pointer rp] w fun e w' => e = .returned (.bool r) ∧ Below w.heap.size w w') := by
    intro rp w h1 h2
    have h := finer_any 1000 (Nat.le_refl _) x y rp w h1 h2 hh hs
    rw [hr] at h
    exact h
  rw [hr]
  clear hr
  have HH : Hid (∀ (w : World), x.In w → y.In w → Calls Tryd.prog 46 #[.func (.func 49) #[] #[], .agg #[.int .i64 x.k, .slice x.a x.l.length x.c], .agg #[.int .i64 y.k, .slice y.a y.l.length y.c]] w fun e w' => e = .returned (.bool r) ∧ Below w.heap.size w w') := fun w h1 h2 => holds_33 x y r w h1 h2 HC
  clear HC
  go_enter Tryd.func31, Tryd.ntmps31
  go_wp2_with fail
  have hb0 : Below w.heap.size w ((w.alloc (Obj.cells #[.int .i64 x.k, .slice x.a x.l.length x.c] 24)).alloc (Obj.cells #[.int .i64 y.k, .slice y.a y.l.length y.c] 24)) := ((Below.refl _ _).alloc (Nat.le_refl _) _).alloc (by simp) _
  refine (HH.out _ (hx.below hb0) (hy.below hb0)).mono ?_
  rintro e w1 ⟨rfl, hb1⟩
  have hb2 := hb0.trans (hb1.mono (by simp; omega))
  clear hb0 hb1
  go_wp2_with fail
  go_ret
  exact ⟨rfl, hb2⟩

end Go.Proofs.YtnddkmccagiclaaDoor
