/-
  What the call of term.Same answers at two terms that are alike.
-/
import Derived.Test.YtnddkmccagiclaaGreatDoorLotfd21d846ae
import Derived.Test.YtnddkmccagiclaaGreatDoorLot24e9133cd1
import Derived.Test.YtnddkmccagiclaaGreatDoorLotdfd9329f6e
import Derived.Test.YtnddkmccagiclaaGreatDoorLotce5b4f1487
import Derived.Test.YtnddkmccagiclaaGreatDoorLot112ae7bf11
namespace Go.Proofs.YtnddkmccagiclaaGreatDoor
open Go.RowKit

/-- A list of one term that lies in a block of its own. -/
def oneOf (g : Nat) (x : TT) : TT := ⟨0, 0, leaf 0, leaf 0, some ⟨g, 0, none⟩, 1, [x]⟩

theorem oneOf_in {w : World} {g : Nat} {x : TT} (h : At7 w g 0 x) (hx : x.In w) : (oneOf g x).In w := by
  refine TT.In_mk.2 ⟨leaf_in _ _, leaf_in _ _, fun j hj => ⟨g, 0, rfl, ?_⟩, fun y hy => ?_⟩
  · obtain rfl : j = 0 := by simp at hj; omega
    exact h
  · rcases List.mem_singleton.1 hy with rfl
    exact hx

theorem oneOf_bl {P : Nat → Prop} {g : Nat} {x : TT} (h : P g) (hx : x.Bl P) : (oneOf g x).Bl P := by
  refine TT.Bl_mk.2 ⟨leaf_bl _ _, leaf_bl _ _, fun _ y hy => by cases hy; exact h, fun y hy => ?_⟩
  rcases List.mem_singleton.1 hy with rfl
  exact hx

theorem leaf_tok (k : Int) : (leaf k).hgt ≤ 1000 ∧ (leaf k).sm := by
  refine ⟨?_, Tr.sm_mk.2 ⟨by simp, fun t h => by cases h⟩⟩
  rw [leaf, Tr.hgt_mk]; simp

theorem oneOf_tok {g : Nat} {x : TT} (hx : x.tok) : (oneOf g x).tok := by
  refine TT.tok_mk.2 ⟨leaf_tok 0, leaf_tok 0, fun y hy => ?_⟩
  rcases List.mem_singleton.1 hy with rfl
  exact hx

theorem tleaf_tok (k n : Int) : (tleaf k n).tok := TT.tok_mk.2 ⟨leaf_tok 0, leaf_tok 0, fun y hy => by cases hy⟩

set_option maxRecDepth 20000 in
set_option maxHeartbeats 8000000 in
/-- term.Same, of two that are alike. -/
theorem sameTm_yes (x y : TT) (w : World) (hx : x.In w) (hy : y.In w) (htm : x.tm = y.tm) (hto : x.tok) (hsz : x.sz ≤ 1000000) :
    Calls Tryz.prog 13 #[.agg #[.int .i64 x.k, .int .i64 x.n, .int .i64 x.t.k, .slice x.t.a x.t.l.length x.t.c, .int .i64 x.f.k, .slice x.f.a x.f.l.length x.f.c, .slice x.a x.l.length x.c], .agg #[.int .i64 y.k, .int .i64 y.n, .int .i64 y.t.k, .slice y.t.a y.t.l.length y.t.c, .int .i64 y.f.k, .slice y.f.a y.f.l.length y.f.c, .slice y.a y.l.length y.c]] w fun e w' => e = .returned (.bool true) ∧ Below w.heap.size w w' := by
  obtain ⟨i0, hi0, hz0, hz1, hz2⟩ := info_parts Tryz.info53
  obtain ⟨OX, hOX⟩ : ∃ O, O = Obj.cells #[.int .i64 x.k, .int .i64 x.n, .int .i64 x.t.k, .slice x.t.a x.t.l.length x.t.c, .int .i64 x.f.k, .slice x.f.a x.f.l.length x.f.c, .slice x.a x.l.length x.c] 27 := ⟨_, rfl⟩
  obtain ⟨OY, hOY⟩ : ∃ O, O = Obj.cells #[.int .i64 y.k, .int .i64 y.n, .int .i64 y.t.k, .slice y.t.a y.t.l.length y.t.c, .int .i64 y.f.k, .slice y.f.a y.f.l.length y.f.c, .slice y.a y.l.length y.c] 27 := ⟨_, rfl⟩
  have HL : Hid (Stk (w.heap.size + 1 + 1 + 1 + 1) (.slice (some ⟨w.heap.size + 1 + 1 + 1 + 1, 0, none⟩) 1 1) [(oneOf (w.heap.size + 1 + 1) x, oneOf (w.heap.size + 1 + 1 + 1) y)] (((((w.alloc OX).alloc OY).alloc OX).alloc OY).alloc (.cells #[.slice (some ⟨w.heap.size + 1 + 1, 0, none⟩) 1 1, .slice (some ⟨w.heap.size + 1 + 1 + 1, 0, none⟩) 1 1] 53)) ∧ Below w.heap.size w (((((w.alloc OX).alloc OY).alloc OX).alloc OY).alloc (.cells #[.slice (some ⟨w.heap.size + 1 + 1, 0, none⟩) 1 1, .slice (some ⟨w.heap.size + 1 + 1 + 1, 0, none⟩) 1 1] 53)) ∧ mass [(oneOf (w.heap.size + 1 + 1) x, oneOf (w.heap.size + 1 + 1 + 1) y)] ≤ 1000001) := by
    have hb : Below w.heap.size w (((((w.alloc OX).alloc OY).alloc OX).alloc OY).alloc (.cells #[.slice (some ⟨w.heap.size + 1 + 1, 0, none⟩) 1 1, .slice (some ⟨w.heap.size + 1 + 1 + 1, 0, none⟩) 1 1] 53)) := (((((Below.refl _ _).alloc (Nat.le_refl _) _).alloc (by simp) _).alloc (by simp; omega) _).alloc (by simp; omega) _).alloc (by simp; omega) _
    have hh := heap_alloc_new ((((w.alloc OX).alloc OY).alloc OX).alloc OY) (.cells #[.slice (some ⟨w.heap.size + 1 + 1, 0, none⟩) 1 1, .slice (some ⟨w.heap.size + 1 + 1 + 1, 0, none⟩) 1 1] 53)
    simp only [World.size_alloc] at hh
    refine ⟨⟨⟨rfl, .inr ⟨_, 1, _, rfl, Nat.le_refl _, hh, Nat.le_refl _, by unfold maxLen; omega, rfl, rfl⟩⟩, fun p hp => ?_⟩, hb, ?_⟩
    · rcases List.mem_singleton.1 hp with rfl
      refine ⟨oneOf_in ?_ (hx.below hb), oneOf_in ?_ (hy.below hb), oneOf_bl (by omega) (hx.bl.mono fun b h => by omega), oneOf_bl (by omega) (hy.bl.mono fun b h => by omega), oneOf_tok hto, ?_⟩
      · subst hOX hOY; constructor <;> simp [go_sem]
      · subst hOX hOY; constructor <;> simp [go_sem]
      · simp [oneOf, htm]
    · simp [mass, oneOf, TT.sz_mk]; omega
  obtain ⟨B, hB⟩ : ∃ B, w.heap.size + 1 + 1 + 1 + 1 = B := ⟨_, rfl⟩
  have hBw : w.heap.size < B := by omega
  subst hOX hOY
  clear hx hy htm hto hsz
  go_enter Tryz.func13, Tryz.ntmps13
  go_wp2_with fail
  go_loopg [5] (mass [(oneOf (w.heap.size + 1 + 1) x, oneOf (w.heap.size + 1 + 1 + 1) y)]) (fun k v wr => ∃ (u : Value) (ps : List (TT × TT)), u = v ∧ k = mass ps ∧ Hid (Stk B u ps wr ∧ Below w.heap.size w wr ∧ mass ps ≤ 1000001))
  case atStart => exact ⟨_, _, rfl, rfl, by rw [← hB]; exact HL⟩
  case round =>
    obtain ⟨v, ps, hv, hk, HR⟩ := hrel
    subst hv
    have HK : Hid (gk = mass ps) := hk
    clear hk HL hB
    by_cases hne : ps = []
    · subst hne
      obtain ⟨a, c, rfl⟩ : ∃ a c, v = .slice a 0 c := by
        rcases HR.out.1.own.2 with ⟨rfl, _⟩ | ⟨g, cap, cur, rfl, _⟩
        · exact ⟨_, _, rfl⟩
        · exact ⟨_, _, rfl⟩
      have HF : Hid (Below w.heap.size w wr) := HR.out.2.1
      clear HR HK
      go_wp2_with fail
      go_ret
      exact ⟨rfl, HF.out⟩
    · obtain ⟨us, p, rfl⟩ : ∃ us p, ps = us ++ [p] := ⟨ps.dropLast, ps.getLast hne, (List.dropLast_concat_getLast hne).symm⟩
      have ho := HR.out.1.own
      have hlen : (us ++ [p]).length = us.length + 1 := by simp
      rw [hlen, cells2_append] at ho
      obtain ⟨g, cap, rfl, hg, hgl⟩ := ho.form (by omega)
      have c0 := ho.cellAt (us.length * 2) (by omega)
      have c1 := ho.cellAt (us.length * 2 + 1) (by omega)
      rw [List.getElem?_append_right (by rw [cells2_length]; exact Nat.le_refl _), cells2_length, Nat.sub_self] at c0
      rw [List.getElem?_append_right (by rw [cells2_length]; omega), cells2_length, show us.length * 2 + 1 - us.length * 2 = 1 by omega] at c1
      simp only [cells2, List.flatMap_cons, List.flatMap_nil, List.append_nil, List.getElem?_cons_zero, List.getElem?_cons_succ] at c0 c1
      have hcap : us.length + 1 ≤ cap := by
        rcases ho.2 with ⟨h, _⟩ | ⟨g', cap', cur, h, _, _, h1, _⟩
        · cases h
        · cases h; exact h1
      have hop : wr.ownsRow B 53 2 (.slice (some ⟨g, 0, none⟩) us.length cap) us.length (cells2 us) := ownsRow_pop (cells2_length us) ho
      have hpr : Pr B wr p := HR.out.1.ins p (by simp)
      have hms : mass (us ++ [p]) = mass us + p.1.sz := by simp [mass]
      have hus := Stk.len (ps := us)
      have hml := HR.out.2.2
      have i1 : (us.length : Int) < ((us.length : Int) + 1) := by omega
      have n1 : (us.length : Int) ≤ 1000001 := by omega
      have n2 : (us.length : Int) ≤ (cap : Int) := by omega
      have n3 : (0 : Int) ≤ (us.length : Int) := by omega
      have hgne : g ≠ wr.heap.size := by omega
      have hpl : p.1.l.length ≤ 1000001 := by
        have h1 := p.1.sz_eq
        have h2 : p.1.l.length ≤ (p.1.l.map TT.sz).sum := by
          generalize p.1.l = l
          induction l with
          | nil => simp
          | cons u r ih => have := u.sz_pos; simp only [List.length_cons, List.map_cons, List.sum_cons]; omega
        omega
      have hszB : B ≤ wr.heap.size := by omega
      have HI : Hid (Stk B (.slice (some ⟨g, 0, none⟩) us.length cap) us wr ∧ Below w.heap.size w wr ∧ Pr B wr p ∧ g < wr.heap.size) := ⟨⟨hop, fun q hq => HR.out.1.ins q (by simp [hq])⟩, HR.out.2.1, hpr, hgl⟩
      have HM : Hid (gk = mass us + p.1.sz ∧ mass us + p.1.sz ≤ 1000001) := ⟨HK.out.trans hms, by rw [← hms]; exact hml⟩
      clear ho hop hpr HR HK hms hml hne hlen hus
      go_wp2_with fail
      obtain ⟨W0, hW0⟩ : ∃ W, W = wr := ⟨_, rfl⟩
      subst hW0
      have hb0 : ∀ o, Below W0.heap.size W0 (W0.alloc o) := fun o => (Below.refl _ _).alloc (Nat.le_refl _) _
      have HI0 : Hid (∀ o, Stk B (.slice (some ⟨g, 0, none⟩) us.length cap) us (W0.alloc o) ∧ Below w.heap.size w (W0.alloc o) ∧ Pr B (W0.alloc o) p) := fun o =>
        ⟨⟨HI.out.1.own.alloc _, fun q hq => (HI.out.1.ins q hq).low ((hb0 o).mono hszB)⟩, HI.out.2.1.trans ((hb0 o).mono (by omega)), HI.out.2.2.1.low ((hb0 o).mono hszB)⟩
      clear hb0 c0 c1
      go_loopg [5, 33] p.1.l.length (fun q v i wx => ∃ (j : Nat) (u : Value), q + j = p.1.l.length ∧ i = .int .i64 (j : Int) ∧ u = v ∧ Hid (Stk B u (us ++ kids (p.1.l.take j) (p.2.l.take j)) wx ∧ Below w.heap.size w wx ∧ Pr B wx p ∧ wx.cell? ⟨W0.heap.size, 1, none⟩ = some (.slice p.2.a p.2.l.length p.2.c) ∧ u.ownBlock ≠ some W0.heap.size))
      case atStart => exact ⟨0, _, by omega, rfl, rfl, by simp [kids]; exact (HI0.out _).1, (HI0.out _).2.1, (HI0.out _).2.2, by simp [go_sem], by simp [Value.ownBlock]; omega⟩
      case round =>
        obtain ⟨j, v, hj, rfl, hv, HQ⟩ := hrel
        subst hv
        have HJ : Hid (gk + j = p.1.l.length) := hj
        clear hj HI0
        have hll : p.1.l.length = p.2.l.length := by have := congrArg List.length HQ.out.2.2.1.2.2.2.2.2; simpa using this
        have HLL : Hid (p.1.l.length = p.2.l.length) := hll
        clear hll
        by_cases hlt : j < p.1.l.length
        · have hlt2 : j < p.2.l.length := by rw [← HLL.out]; exact hlt
          obtain ⟨hp1, hp2, hb1, hb2, hto, htm⟩ := HQ.out.2.2.1
          obtain ⟨b, o, ea, hX, hxj⟩ := hp1.part j hlt
          obtain ⟨b', o', ea', hY, hyj⟩ := hp2.part j hlt2
          have c1 := HQ.out.2.2.2.1
          rw [ea'] at c1
          have hxy : p.1.l[j].tm = p.2.l[j].tm := by
            have h1 : (p.1.l.map TT.tm)[j]? = some p.1.l[j].tm := by simp [hlt]
            have h2 : (p.2.l.map TT.tm)[j]? = some p.2.l[j].tm := by simp [hlt2]
            rw [htm, h2] at h1
            exact (Option.some.inj h1).symm
          obtain ⟨qk, qn, ql, qt, qf, qm⟩ := tm_parts hxy
          have htoj : p.1.l[j].tok := hto.mem (List.getElem_mem hlt)
          have hblj : p.1.l[j].Bl (· < B) ∧ p.2.l[j].Bl (· < B) := ⟨hb1.mem (List.getElem_mem hlt), hb2.mem (List.getElem_mem hlt2)⟩
          obtain ⟨X, hXe⟩ : ∃ X, p.1.l[j] = X := ⟨_, rfl⟩
          obtain ⟨Y, hYe⟩ : ∃ Y, p.2.l[j] = Y := ⟨_, rfl⟩
          rw [hXe] at hX hxj qk qn ql qt qf qm htoj hblj
          rw [hYe] at hY hyj qk qn ql qt qf qm hblj
          have HXY : Hid (p.1.l[j] = X ∧ p.2.l[j] = Y) := ⟨hXe, hYe⟩
          have d0 := hX.c0
          have d1 := hX.c1
          have d2 := hX.c2
          have d3 := hX.c3
          have d4 := hX.c4
          have d5 := hX.c5
          have d6 := hX.c6
          have e0 := hY.c0
          have e1 := hY.c1
          have e2 := hY.c2
          have e3 := hY.c3
          have e4 := hY.c4
          have e5 := hY.c5
          have e6 := hY.c6
          have lb : b < wr.heap.size := hX.lt
          have lb' : b' < wr.heap.size := hY.lt
          have lN : W0.heap.size < wr.heap.size := World.block_lt_of_cell? _ _ c1
          have HA : Hid (∀ W, Below wr.heap.size wr W → Calls Tryz.prog 26 #[.agg #[.int .i64 X.k, .int .i64 X.n, .int .i64 X.t.k, .slice X.t.a X.t.l.length X.t.c, .int .i64 X.f.k, .slice X.f.a X.f.l.length X.f.c, .slice X.a X.l.length X.c], .agg #[.int .i64 Y.k, .int .i64 Y.n, .int .i64 Y.t.k, .slice Y.t.a Y.t.l.length Y.t.c, .int .i64 Y.f.k, .slice Y.f.a Y.f.l.length Y.f.c, .slice Y.a Y.l.length Y.c]] W fun e w' => e = .returned (.bool true) ∧ Below W.heap.size W w') := fun W hW => alikeTm_yes X Y W (hxj.below hW) (hyj.below hW) qk qn ql qt qf htoj
          have HP : Hid (Pr B wr (X, Y)) := ⟨hxj, hyj, hblj.1, hblj.2, htoj, qm⟩
          have HQL : Hid (X.l.length = Y.l.length) := ql
          have i5 : (j : Int) < (p.1.l.length : Int) := by omega
          have i6 : (j : Int) < (p.2.l.length : Int) := by omega
          have i7 : (0 : Int) ≤ (j : Int) := by omega
          have HEA : Hid (p.1.a = some ⟨b, o, none⟩) := ea
          rw [ea]
          have hb2 : ∀ o o', Below wr.heap.size wr ((wr.alloc o).alloc o') := fun o o' => ((Below.refl _ _).alloc (Nat.le_refl _) _).alloc (by simp) _
          have HB2 : Hid (∀ o o', Below wr.heap.size wr ((wr.alloc o).alloc o')) := hb2
          clear hp1 hp2 hb1 hto htm ea ea' hX hY hxj hyj hxy qk qn ql qt qf qm htoj hblj hXe hYe hb2
          go_wp2_with fail
          refine (HA.out _ (HB2.out _ _)).mono ?_
          rintro e w2 ⟨rfl, hbz⟩
          have hbw : Below wr.heap.size wr w2 := (HB2.out _ _).trans (hbz.mono (by simp; omega))
          have m6 : w2.cell? ⟨wr.heap.size, 6, none⟩ = some (.slice X.a X.l.length X.c) := cell_later hbz (by simp [go_sem])
          have k6 : w2.cell? ⟨wr.heap.size + 1, 6, none⟩ = some (.slice Y.a Y.l.length Y.c) := cell_later hbz (by simp [go_sem])
          have lw2 : wr.heap.size + 1 < w2.heap.size := World.block_lt_of_cell? _ _ k6
          have HW2 : Hid (Stk B v (us ++ kids (p.1.l.take j) (p.2.l.take j)) w2 ∧ Below w.heap.size w w2 ∧ Pr B w2 p ∧ w2.cell? ⟨W0.heap.size, 1, none⟩ = some (.slice p.2.a p.2.l.length p.2.c) ∧ v.ownBlock ≠ some W0.heap.size ∧ Pr B w2 (X, Y)) := by
            have hlow : Below B wr w2 := hbw.mono (by omega)
            refine ⟨⟨?_, fun q hq => (HQ.out.1.ins q hq).low hlow⟩, HQ.out.2.1.trans (hbw.mono HQ.out.2.1.size), HQ.out.2.2.1.low hlow, cell_later hbw HQ.out.2.2.2.1, HQ.out.2.2.2.2, HP.out.low hlow⟩
            exact ownsRow_low HQ.out.1.own hbw
          have HSN : Hid (kids (p.1.l.take (j + 1)) (p.2.l.take (j + 1)) = kids (p.1.l.take j) (p.2.l.take j) ++ (if X.l.length = 0 then [] else [(X, Y)])) := by
            have := kids_snoc p.1.l p.2.l j hlt hlt2
            rw [HXY.out.1, HXY.out.2] at this
            exact this
          clear hbz hbw HQ HA HP c1 d0 d1 d2 d3 d4 d5 d6 e0 e1 e2 e3 e4 e5 e6
          by_cases hz : X.l.length = 0
          · have i8 : ¬ (0 : Int) < (X.l.length : Int) := by omega
            have HN : Hid (Stk B v (us ++ kids (p.1.l.take (j + 1)) (p.2.l.take (j + 1))) w2 ∧ Below w.heap.size w w2 ∧ Pr B w2 p ∧ w2.cell? ⟨W0.heap.size, 1, none⟩ = some (.slice p.2.a p.2.l.length p.2.c) ∧ v.ownBlock ≠ some W0.heap.size) := by
              show _ ∧ _
              rw [HSN.out, if_pos hz, List.append_nil]
              exact ⟨HW2.out.1, HW2.out.2.1, HW2.out.2.2.1, HW2.out.2.2.2.1, HW2.out.2.2.2.2.1⟩
            clear hz HW2
            go_wp2_with fail
            rw [← HEA.out]
            go_roundg (p.1.l.length - (j + 1))
            case measure => have := HJ.out; omega
            case rel => exact ⟨j + 1, _, by have := HJ.out; omega, by go_num, rfl, HN⟩
          · have i8 : (0 : Int) < (X.l.length : Int) := by omega
            obtain ⟨N, hN⟩ : ∃ N, (us ++ kids (p.1.l.take j) (p.2.l.take j)).length = N := ⟨_, rfl⟩
            obtain ⟨xs, hxs⟩ : ∃ xs, cells2 (us ++ kids (p.1.l.take j) (p.2.l.take j)) = xs := ⟨_, rfl⟩
            have hNb : N ≤ 1000001 := by
              have h1 := Stk.len (ps := us ++ kids (p.1.l.take j) (p.2.l.take j))
              have h2 := kids_mass (p.1.l.take j) (p.2.l.take j)
              have h3 := sum_take_le TT.sz p.1.l j
              have h4 := p.1.sz_eq
              have h5 := HM.out.2
              have h6 : mass (us ++ kids (p.1.l.take j) (p.2.l.take j)) = mass us + mass (kids (p.1.l.take j) (p.2.l.take j)) := by simp [mass]
              omega
            have uo : w2.ownsRow B 53 2 v N xs := by rw [← hN, ← hxs]; exact HW2.out.1.own
            have hnew := heap_alloc_new w2 (.cells #[.slice X.a X.l.length X.c, .slice Y.a Y.l.length Y.c] 53)
            have HNX : Hid ((us ++ kids (p.1.l.take j) (p.2.l.take j)).length = N ∧ cells2 (us ++ kids (p.1.l.take j) (p.2.l.take j)) = xs) := ⟨hN, hxs⟩
            have HZ : Hid (X.l.length ≠ 0) := hz
            clear hN hxs hz
            go_wp2_with (at_builtin; refine wpList_append_lies _ rfl _ _ _ rfl B 53 i0 _ 2 48 Tryz.underlying54 hi0 hz0 hz1 hz2 rfl (by omega) v N xs rfl (uo.alloc _) ⟨w2.heap.size, 0, none⟩ 1 1 [.slice X.a X.l.length X.c, .slice Y.a Y.l.length Y.c] rfl rfl (World.news_of_block (cs := #[.slice X.a X.l.length X.c, .slice Y.a Y.l.length Y.c]) (t := 53) (fr := (0, 0)) hnew) (by simp [Value.oneCell']) (by omega) (by unfold maxLen; omega) (by omega) (by simp; omega) (w2.heap.size + 1) (by simp) ?_; intro gg cap1 w3 hown1 hgrow hat hlt3)
            have hov : ∀ q, v.ownBlock = some q → B ≤ q ∧ q < w2.heap.size := uo.lt
            have hlow : Below B w2 w3 := by
              refine ⟨hgrow.os.trans rfl, hgrow.tape.trans rfl, hgrow.output.trans rfl, by have := hgrow.size; simp at this; omega, fun q hq => ?_⟩
              rw [hgrow.block q (by simp; omega) (fun e => by have := (hov q e.symm).1; omega)]
              exact ((Below.refl _ w2).alloc (Nat.le_refl _) _).block q (by omega)
            have hcN : w3.cell? ⟨W0.heap.size, 1, none⟩ = some (.slice p.2.a p.2.l.length p.2.c) := by
              rw [hgrow.cell_far _ (by simp; omega) (Ne.symm HW2.out.2.2.2.2.1)]
              exact cell_later ((Below.refl _ _).alloc (Nat.le_refl _) _) HW2.out.2.2.2.1
            have HN : Hid (Stk B (.slice (some ⟨gg, 0, none⟩) (N + 1) cap1) (us ++ kids (p.1.l.take (j + 1)) (p.2.l.take (j + 1))) w3 ∧ Below w.heap.size w w3 ∧ Pr B w3 p ∧ w3.cell? ⟨W0.heap.size, 1, none⟩ = some (.slice p.2.a p.2.l.length p.2.c) ∧ (Value.slice (some ⟨gg, 0, none⟩) (N + 1) cap1).ownBlock ≠ some W0.heap.size) := by
              show _ ∧ _
              rw [HSN.out, if_neg HZ.out, ← List.append_assoc]
              refine ⟨⟨?_, fun q hq => ?_⟩, HW2.out.2.1.trans (hlow.mono (by omega)), HW2.out.2.2.1.low hlow, hcN, ?_⟩
              · rw [cells2_append, List.length_append, List.length_singleton, HNX.out.1, HNX.out.2]
                exact hown1
              · rcases List.mem_append.1 hq with hq | hq
                · exact (HW2.out.1.ins q hq).low hlow
                · rcases List.mem_singleton.1 hq with rfl
                  exact HW2.out.2.2.2.2.2.low hlow
              · show some gg ≠ some W0.heap.size
                rcases hat with e | e
                · rw [← e]; exact HW2.out.2.2.2.2.1
                · simp only [ne_eq, Option.some.injEq]; omega
            clear hown1 hgrow hat hlt3 hov hlow hcN HW2 uo hnew m6 k6
            go_wp2_with fail
            rw [← HEA.out]
            go_roundg (p.1.l.length - (j + 1))
            case measure => have := HJ.out; omega
            case rel => exact ⟨j + 1, _, by have := HJ.out; omega, by go_num, rfl, HN⟩
        · have HN : Hid (Stk B v (us ++ kids p.1.l p.2.l) wr ∧ Below w.heap.size w wr ∧ mass (us ++ kids p.1.l p.2.l) ≤ 1000001) := by
            have h1 := HQ.out.1
            rw [List.take_of_length_le (by omega), List.take_of_length_le (by have := HLL.out; omega)] at h1
            have h2 := kids_mass p.1.l p.2.l
            have h4 := p.1.sz_eq
            have h5 := HM.out.2
            have h6 : mass (us ++ kids p.1.l p.2.l) = mass us + mass (kids p.1.l p.2.l) := by simp [mass]
            exact ⟨h1, HQ.out.2.1, by omega⟩
          clear HQ
          go_wp2_with fail
          go_roundg (mass (us ++ kids p.1.l p.2.l))
          case measure =>
            have h2 := kids_mass p.1.l p.2.l
            have h4 := p.1.sz_eq
            have h5 := HM.out.1
            have h6 : mass (us ++ kids p.1.l p.2.l) = mass us + mass (kids p.1.l p.2.l) := by simp [mass]
            omega
          case rel => exact ⟨_, _, rfl, rfl, HN⟩
end Go.Proofs.YtnddkmccagiclaaGreatDoor

/-
  What the call of term.Nodes answers.
-/
namespace Go.Proofs.YtnddkmccagiclaaGreatDoor
open Go.RowKit

def cells1 (ps : List TT) : List Value := ps.map fun p => .slice p.a p.l.length p.c

/-- Those that have parts. -/
def kids1 : List TT → List TT
  | x :: xs => (if x.l.length = 0 then [] else [x]) ++ kids1 xs
  | [] => []

def mass1 (ps : List TT) : Nat := (ps.map TT.sz).sum
/-- How many terms are still to be counted. -/
def pend (ps : List TT) : Nat := (ps.map fun p => (p.l.map TT.sz).sum).sum

theorem kids1_mass : ∀ xs : List TT, mass1 (kids1 xs) ≤ (xs.map TT.sz).sum
  | [] => by simp [kids1, mass1]
  | x :: xs => by
    have := kids1_mass xs
    simp only [kids1, mass1, List.map_append, List.sum_append_nat, List.map_cons, List.sum_cons] at this ⊢
    split
    · simp; omega
    · simp; omega

theorem kids1_pend : ∀ xs : List TT, pend (kids1 xs) + xs.length = (xs.map TT.sz).sum
  | [] => by simp [kids1, pend]
  | x :: xs => by
    have := kids1_pend xs
    have h := x.sz_eq
    simp only [kids1, pend, List.map_append, List.sum_append_nat, List.map_cons, List.sum_cons, List.length_cons] at this ⊢
    split
    · rename_i h0
      have : x.l = [] := List.length_eq_zero_iff.1 h0
      rw [this] at h
      simp at h ⊢
      omega
    · simp; omega

theorem kids1_snoc : ∀ (l : List TT) (j : Nat) (hj : j < l.length), kids1 (l.take (j + 1)) = kids1 (l.take j) ++ (if l[j].l.length = 0 then [] else [l[j]])
  | x :: l, 0, _ => by simp [kids1]
  | x :: l, j + 1, hj => by
    have := kids1_snoc l j (by simpa using hj)
    simp only [List.take_succ_cons, kids1, List.getElem_cons_succ]
    rw [this, List.append_assoc]
  | [], j, hj => by simp at hj

def Pr1 (B : Nat) (w : World) (p : TT) : Prop := p.In w ∧ p.Bl (· < B)
theorem Pr1.low {B : Nat} {w w' : World} {p : TT} (h : Pr1 B w p) (hb : Below B w w') : Pr1 B w' p :=
  ⟨h.1.congr (P := (· < B)) (fun b hb' o => hb.cell (p := ⟨b, o, none⟩) hb') h.2, h.2⟩

structure Stk1 (B : Nat) (v : Value) (ps : List TT) (w : World) : Prop where
  own : w.ownsRow B 25 1 v ps.length (cells1 ps)
  ins : ∀ p, p ∈ ps → Pr1 B w p

theorem Stk1.len {ps : List TT} : ps.length ≤ mass1 ps := by
  induction ps with
  | nil => simp
  | cons p r ih => have := p.sz_pos; simp only [mass1, List.map_cons, List.sum_cons, List.length_cons] at ih ⊢; omega

theorem Tryz.info25 : (Tryz.prog.info? 25).map (fun i => (i.zero, i.size, i.bytes)) = some (some (.slice none 0 0), 1, 24) := by kernel_rfl

theorem len_sum : ∀ l : List TT, l.length ≤ (l.map TT.sz).sum
  | [] => by simp
  | u :: r => by have := u.sz_pos; have := len_sum r; simp only [List.length_cons, List.map_cons, List.sum_cons]; omega

set_option maxRecDepth 20000 in
set_option maxHeartbeats 8000000 in
/-- term.Nodes. -/
theorem nodes_any (x : TT) (w : World) (hx : x.In w) (hsz : x.sz ≤ 1000000) :
    Calls Tryz.prog 11 #[.agg #[.int .i64 x.k, .int .i64 x.n, .int .i64 x.t.k, .slice x.t.a x.t.l.length x.t.c, .int .i64 x.f.k, .slice x.f.a x.f.l.length x.f.c, .slice x.a x.l.length x.c]] w fun e w' => e = .returned (.int .i64 (x.sz : Int)) ∧ Below w.heap.size w w' := by
  obtain ⟨i0, hi0, hz0, hz1, hz2⟩ := info_parts Tryz.info25
  obtain ⟨OX, hOX⟩ : ∃ O, O = Obj.cells #[.int .i64 x.k, .int .i64 x.n, .int .i64 x.t.k, .slice x.t.a x.t.l.length x.t.c, .int .i64 x.f.k, .slice x.f.a x.f.l.length x.f.c, .slice x.a x.l.length x.c] 27 := ⟨_, rfl⟩
  have HL : Hid (Stk1 (w.heap.size + 1) (.slice (some ⟨w.heap.size + 1, 0, none⟩) 1 1) [x] ((w.alloc OX).alloc (.cells #[.slice x.a x.l.length x.c] 25)) ∧ Below w.heap.size w ((w.alloc OX).alloc (.cells #[.slice x.a x.l.length x.c] 25)) ∧ mass1 [x] ≤ 1000000 ∧ 1 + pend [x] = x.sz) := by
    have hb : Below w.heap.size w ((w.alloc OX).alloc (.cells #[.slice x.a x.l.length x.c] 25)) := ((Below.refl _ _).alloc (Nat.le_refl _) _).alloc (by simp) _
    have hh := heap_alloc_new (w.alloc OX) (.cells #[.slice x.a x.l.length x.c] 25)
    simp only [World.size_alloc] at hh
    refine ⟨⟨⟨rfl, .inr ⟨_, 1, _, rfl, Nat.le_refl _, hh, Nat.le_refl _, by unfold maxLen; omega, rfl, rfl⟩⟩, fun p hp => ?_⟩, hb, by simpa [mass1] using hsz, ?_⟩
    · rcases List.mem_singleton.1 hp with rfl
      exact ⟨hx.below hb, hx.bl.mono fun b h => by omega⟩
    · have := x.sz_eq; simp [pend]; omega
  obtain ⟨B, hB⟩ : ∃ B, w.heap.size + 1 = B := ⟨_, rfl⟩
  have hBw : w.heap.size < B := by omega
  obtain ⟨S, hS⟩ : ∃ S, x.sz = S := ⟨_, rfl⟩
  have hSb : S ≤ 1000000 := by omega
  rw [hS] at HL ⊢
  subst hOX
  clear hx hsz hS
  go_enter Tryz.func11, Tryz.ntmps11
  go_wp2_with fail
  go_loopg [3, 4] (mass1 [x]) (fun k cn v wr => ∃ (u : Value) (ps : List TT) (c : Nat), u = v ∧ cn = .int .i64 (c : Int) ∧ k = mass1 ps ∧ Hid (Stk1 B u ps wr ∧ Below w.heap.size w wr ∧ mass1 ps ≤ 1000000 ∧ c + pend ps = S))
  case atStart => exact ⟨_, _, 1, rfl, rfl, rfl, by rw [← hB]; exact HL⟩
  case round =>
    obtain ⟨v, ps, c, hv, rfl, hk, HR⟩ := hrel
    subst hv
    have HK : Hid (gk = mass1 ps) := hk
    clear hk HL hB
    by_cases hne : ps = []
    · subst hne
      obtain ⟨a, c', rfl⟩ : ∃ a c, v = .slice a 0 c := by
        rcases HR.out.1.own.2 with ⟨rfl, _⟩ | ⟨g, cap, cur, rfl, _⟩
        · exact ⟨_, _, rfl⟩
        · exact ⟨_, _, rfl⟩
      have HF : Hid (Below w.heap.size w wr ∧ c = S) := ⟨HR.out.2.1, by have := HR.out.2.2.2; simpa [pend] using this⟩
      clear HR HK
      go_wp2_with fail
      go_ret
      exact ⟨by rw [← HF.out.2]; rfl, HF.out.1⟩
    · obtain ⟨us, p, rfl⟩ : ∃ us p, ps = us ++ [p] := ⟨ps.dropLast, ps.getLast hne, (List.dropLast_concat_getLast hne).symm⟩
      have ho := HR.out.1.own
      have hlen : (us ++ [p]).length = us.length + 1 := by simp
      have hca : cells1 (us ++ [p]) = cells1 us ++ [.slice p.a p.l.length p.c] := by simp [cells1]
      rw [hlen, hca] at ho
      obtain ⟨g, cap, rfl, hg, hgl⟩ := ho.form (by omega)
      have c0 := ho.cellAt us.length (by omega)
      rw [List.getElem?_append_right (by simp [cells1]), show (cells1 us).length = us.length by simp [cells1], Nat.sub_self] at c0
      simp only [List.getElem?_cons_zero] at c0
      have hcap : us.length + 1 ≤ cap := by
        rcases ho.2 with ⟨h, _⟩ | ⟨g', cap', cur, h, _, _, h1, _⟩
        · cases h
        · cases h; exact h1
      have hop : wr.ownsRow B 25 1 (.slice (some ⟨g, 0, none⟩) us.length cap) us.length (cells1 us) := ownsRow_pop (by simp [cells1]) ho
      have hpr : Pr1 B wr p := HR.out.1.ins p (by simp)
      have hms : mass1 (us ++ [p]) = mass1 us + p.sz := by simp [mass1]
      have hpd : pend (us ++ [p]) = pend us + (p.l.map TT.sz).sum := by simp [pend]
      have hus := Stk1.len (ps := us)
      have hml := HR.out.2.2.1
      have hcs := HR.out.2.2.2
      have i1 : (us.length : Int) < ((us.length : Int) + 1) := by omega
      have n1 : (us.length : Int) ≤ 1000001 := by omega
      have n2 : (us.length : Int) ≤ (cap : Int) := by omega
      have n3 : (0 : Int) ≤ (us.length : Int) := by omega
      have hpl : p.l.length ≤ 1000001 := by have h1 := p.sz_eq; have h2 := len_sum p.l; omega
      have hc1 : (c : Int) ≤ 1000001 := by omega
      have hszB : B ≤ wr.heap.size := by omega
      have HI : Hid (Stk1 B (.slice (some ⟨g, 0, none⟩) us.length cap) us wr ∧ Below w.heap.size w wr ∧ Pr1 B wr p ∧ g < wr.heap.size) := ⟨⟨hop, fun q hq => HR.out.1.ins q (by simp [hq])⟩, HR.out.2.1, hpr, hgl⟩
      have HM : Hid (gk = mass1 us + p.sz ∧ mass1 us + p.sz ≤ 1000000 ∧ c + (pend us + (p.l.map TT.sz).sum) = S) := ⟨HK.out.trans hms, by rw [← hms]; exact hml, by rw [← hpd]; exact hcs⟩
      clear ho hop hpr HR HK hms hml hne hlen hus hca hpd hcs
      go_wp2_with fail
      obtain ⟨W0, hW0⟩ : ∃ W, W = wr := ⟨_, rfl⟩
      subst hW0
      clear c0
      go_loopg [4, 31] p.l.length (fun q v i wx => ∃ (j : Nat) (u : Value), q + j = p.l.length ∧ i = .int .i64 (j : Int) ∧ u = v ∧ Hid (Stk1 B u (us ++ kids1 (p.l.take j)) wx ∧ Below w.heap.size w wx ∧ Pr1 B wx p ∧ B ≤ wx.heap.size))
      case atStart => exact ⟨0, _, by omega, rfl, rfl, by simp [kids1]; exact HI.out.1, HI.out.2.1, HI.out.2.2.1, hszB⟩
      case round =>
        obtain ⟨j, v, hj, rfl, hv, HQ⟩ := hrel
        subst hv
        have HJ : Hid (gk + j = p.l.length) := hj
        clear hj HI
        by_cases hlt : j < p.l.length
        · obtain ⟨hp1, hb1⟩ := HQ.out.2.2.1
          obtain ⟨b, o, ea, hX, hxj⟩ := hp1.part j hlt
          have hblj : p.l[j].Bl (· < B) := hb1.mem (List.getElem_mem hlt)
          obtain ⟨X, hXe⟩ : ∃ X, p.l[j] = X := ⟨_, rfl⟩
          rw [hXe] at hX hxj hblj
          have HXY : Hid (p.l[j] = X) := hXe
          have d0 := hX.c0
          have d1 := hX.c1
          have d2 := hX.c2
          have d3 := hX.c3
          have d4 := hX.c4
          have d5 := hX.c5
          have d6 := hX.c6
          have hszx : B ≤ wr.heap.size := HQ.out.2.2.2
          have i5 : (j : Int) < (p.l.length : Int) := by omega
          have i7 : (0 : Int) ≤ (j : Int) := by omega
          have HEA : Hid (p.a = some ⟨b, o, none⟩) := ea
          rw [ea]
          have hbw : ∀ o, Below wr.heap.size wr (wr.alloc o) := fun o => (Below.refl _ _).alloc (Nat.le_refl _) _
          have HW2 : Hid (∀ o, Stk1 B v (us ++ kids1 (p.l.take j)) (wr.alloc o) ∧ Below w.heap.size w (wr.alloc o) ∧ Pr1 B (wr.alloc o) p ∧ Pr1 B (wr.alloc o) X) := by
            intro o
            have hlow : Below B wr (wr.alloc o) := (hbw o).mono hszx
            exact ⟨⟨ownsRow_low HQ.out.1.own (hbw o), fun q hq => (HQ.out.1.ins q hq).low hlow⟩, HQ.out.2.1.trans ((hbw o).mono HQ.out.2.1.size), HQ.out.2.2.1.low hlow, Pr1.low ⟨hxj, hblj⟩ hlow⟩
          have HSN : Hid (kids1 (p.l.take (j + 1)) = kids1 (p.l.take j) ++ (if X.l.length = 0 then [] else [X])) := by
            have := kids1_snoc p.l j hlt
            rw [HXY.out] at this
            exact this
          clear hp1 hb1 ea hX hxj hblj hXe hbw HQ
          obtain ⟨OX, hOX⟩ : ∃ O, O = Obj.cells #[.int .i64 X.k, .int .i64 X.n, .int .i64 X.t.k, .slice X.t.a X.t.l.length X.t.c, .int .i64 X.f.k, .slice X.f.a X.f.l.length X.f.c, .slice X.a X.l.length X.c] 27 := ⟨_, rfl⟩
          by_cases hz : X.l.length = 0
          · have i8 : ¬ (0 : Int) < (X.l.length : Int) := by omega
            have HN : Hid (Stk1 B v (us ++ kids1 (p.l.take (j + 1))) (wr.alloc OX) ∧ Below w.heap.size w (wr.alloc OX) ∧ Pr1 B (wr.alloc OX) p ∧ B ≤ (wr.alloc OX).heap.size) := by
              show _ ∧ _
              rw [HSN.out, if_pos hz, List.append_nil]
              exact ⟨(HW2.out _).1, (HW2.out _).2.1, (HW2.out _).2.2.1, by simp; omega⟩
            subst hOX
            clear hz HW2
            go_wp2_with fail
            rw [← HEA.out]
            go_roundg (p.l.length - (j + 1))
            case measure => have := HJ.out; omega
            case rel => exact ⟨j + 1, _, by have := HJ.out; omega, by go_num, rfl, HN⟩
          · have i8 : (0 : Int) < (X.l.length : Int) := by omega
            obtain ⟨N, hN⟩ : ∃ N, (us ++ kids1 (p.l.take j)).length = N := ⟨_, rfl⟩
            obtain ⟨xs, hxs⟩ : ∃ xs, cells1 (us ++ kids1 (p.l.take j)) = xs := ⟨_, rfl⟩
            have hNb : N ≤ 1000001 := by
              have h1 := Stk1.len (ps := us ++ kids1 (p.l.take j))
              have h2 := kids1_mass (p.l.take j)
              have h3 := sum_take_le TT.sz p.l j
              have h4 := p.sz_eq
              have h5 := HM.out.2.1
              have h6 : mass1 (us ++ kids1 (p.l.take j)) = mass1 us + mass1 (kids1 (p.l.take j)) := by simp [mass1]
              omega
            have uo : (wr.alloc OX).ownsRow B 25 1 v N xs := by rw [← hN, ← hxs]; exact (HW2.out _).1.own
            have hnew := heap_alloc_new (wr.alloc OX) (.cells #[.slice X.a X.l.length X.c] 25)
            simp only [World.size_alloc] at hnew
            have HNX : Hid ((us ++ kids1 (p.l.take j)).length = N ∧ cells1 (us ++ kids1 (p.l.take j)) = xs) := ⟨hN, hxs⟩
            have HZ : Hid (X.l.length ≠ 0) := hz
            have HWX : Hid (Stk1 B v (us ++ kids1 (p.l.take j)) (wr.alloc OX) ∧ Below w.heap.size w (wr.alloc OX) ∧ Pr1 B (wr.alloc OX) p ∧ Pr1 B (wr.alloc OX) X) := HW2.out _
            subst hOX
            clear hN hxs hz HW2
            go_wp2_with (at_builtin; refine wpList_append_lies _ rfl _ _ _ rfl B 25 i0 _ 1 24 Tryz.underlying51 hi0 hz0 hz1 hz2 rfl (by omega) v N xs rfl (uo.alloc _) ⟨wr.heap.size + 1, 0, none⟩ 1 1 [.slice X.a X.l.length X.c] rfl rfl (World.news_of_block (cs := #[.slice X.a X.l.length X.c]) (t := 25) (fr := (0, 0)) hnew) (by simp [Value.oneCell']) (by omega) (by unfold maxLen; omega) (by omega) (by simp; omega) (wr.heap.size + 1 + 1) (by simp) ?_; intro gg cap1 w3 hown1 hgrow hat hlt3)
            have hov : ∀ q, v.ownBlock = some q → B ≤ q := fun q hq => (uo.lt q hq).1
            obtain ⟨OX, hOX⟩ : ∃ O, O = Obj.cells #[.int .i64 X.k, .int .i64 X.n, .int .i64 X.t.k, .slice X.t.a X.t.l.length X.t.c, .int .i64 X.f.k, .slice X.f.a X.f.l.length X.f.c, .slice X.a X.l.length X.c] 27 := ⟨_, rfl⟩
            rw [← hOX] at hgrow HWX
            have hlow : Below B (wr.alloc OX) w3 := by
              refine ⟨hgrow.os.trans rfl, hgrow.tape.trans rfl, hgrow.output.trans rfl, by have := hgrow.size; simp at this ⊢; omega, fun q hq => ?_⟩
              rw [hgrow.block q (by simp; omega) (fun e => by have := hov q e.symm; omega)]
              exact ((Below.refl _ (wr.alloc OX)).alloc (Nat.le_refl _) _).block q (by simp; omega)
            have HN : Hid (Stk1 B (.slice (some ⟨gg, 0, none⟩) (N + 1) cap1) (us ++ kids1 (p.l.take (j + 1))) w3 ∧ Below w.heap.size w w3 ∧ Pr1 B w3 p ∧ B ≤ w3.heap.size) := by
              show _ ∧ _
              rw [HSN.out, if_neg HZ.out, ← List.append_assoc]
              refine ⟨⟨?_, fun q hq => ?_⟩, HWX.out.2.1.trans (hlow.mono (by omega)), HWX.out.2.2.1.low hlow, by have := hlow.size; simp at this; omega⟩
              · have e : cells1 (us ++ kids1 (p.l.take j) ++ [X]) = cells1 (us ++ kids1 (p.l.take j)) ++ [.slice X.a X.l.length X.c] := by simp [cells1]
                rw [e, List.length_append, List.length_singleton, HNX.out.1, HNX.out.2]
                exact hown1
              · rcases List.mem_append.1 hq with hq | hq
                · exact (HWX.out.1.ins q hq).low hlow
                · rcases List.mem_singleton.1 hq with rfl
                  exact HWX.out.2.2.2.low hlow
            clear hown1 hgrow hat hlt3 hov hlow HWX uo hnew hOX
            go_wp2_with fail
            rw [← HEA.out]
            go_roundg (p.l.length - (j + 1))
            case measure => have := HJ.out; omega
            case rel => exact ⟨j + 1, _, by have := HJ.out; omega, by go_num, rfl, HN⟩
        · have HN : Hid (Stk1 B v (us ++ kids1 p.l) wr ∧ Below w.heap.size w wr ∧ mass1 (us ++ kids1 p.l) ≤ 1000000 ∧ c + p.l.length + pend (us ++ kids1 p.l) = S) := by
            have h1 := HQ.out.1
            rw [List.take_of_length_le (by omega)] at h1
            have h2 := kids1_mass p.l
            have h3 := kids1_pend p.l
            have h4 := p.sz_eq
            have h5 := HM.out.2
            have h6 : mass1 (us ++ kids1 p.l) = mass1 us + mass1 (kids1 p.l) := by simp [mass1]
            have h7 : pend (us ++ kids1 p.l) = pend us + pend (kids1 p.l) := by simp [pend]
            exact ⟨h1, HQ.out.2.1, by omega, by omega⟩
          clear HQ
          go_wp2_with fail
          go_roundg (mass1 (us ++ kids1 p.l))
          case measure =>
            have h2 := kids1_mass p.l
            have h4 := p.sz_eq
            have h5 := HM.out.1
            have h6 : mass1 (us ++ kids1 p.l) = mass1 us + mass1 (kids1 p.l) := by simp [mass1]
            omega
          case rel => exact ⟨_, _, c + p.l.length, rfl, by go_num, rfl, HN⟩
end Go.Proofs.YtnddkmccagiclaaGreatDoor

/-
  What the call of ref's NodesOf answers.
-/
namespace Go.Proofs.YtnddkmccagiclaaGreatDoor
open Go.RowKit

theorem cells7_len (l : List TT) : (cells7 l).length = l.length * 7 := by
  induction l with
  | nil => rfl
  | cons a r ih => simp [cells7] at ih ⊢; omega

theorem cells7_one : ∀ (l : List TT) (u : Value), u ∈ cells7 l → u.oneCell' = true
  | [], u, h => by simp [cells7] at h
  | y :: r, u, h => by
    have e : cells7 (y :: r) = cells7 [y] ++ cells7 r := by simp [cells7]
    rw [e] at h
    rcases List.mem_append.1 h with h | h
    · simp [cells7] at h
      rcases h with rfl | rfl | rfl | rfl | rfl | rfl | rfl <;> rfl
    · exact cells7_one r u h

/-- The cells of a term's parts, one behind the other. -/
theorem parts_cells {w : World} {x : TT} (h : x.In w) {b o : Nat} (ha : x.a = some ⟨b, o, none⟩) : ∀ j u, (cells7 x.l)[j]? = some u → w.cell? ((⟨b, o, none⟩ : Addr).add j) = some u := by
  intro j u hj
  have hlt : j < (cells7 x.l).length := (List.getElem?_eq_some_iff.1 hj).1
  rw [cells7_len] at hlt
  have hq : j / 7 < x.l.length := by omega
  obtain ⟨b', o', ea, h7, _⟩ := h.part (j / 7) hq
  rw [ha] at ea
  cases ea
  have e := cells7_at x.l (j / 7) hq (j % 7) (by omega)
  rw [show j / 7 * 7 + j % 7 = j by omega, hj] at e
  have hr : j % 7 = 0 ∨ j % 7 = 1 ∨ j % 7 = 2 ∨ j % 7 = 3 ∨ j % 7 = 4 ∨ j % 7 = 5 ∨ j % 7 = 6 := by omega
  obtain ⟨a0, a1, a2, a3, a4, a5, a6⟩ := h7
  have ad : ∀ i, j % 7 = i → ((⟨b, o, none⟩ : Addr).add j) = ⟨b, o + j / 7 * 7 + i, none⟩ := fun i hi => by
    have : o + j = o + j / 7 * 7 + i := by omega
    simp [Addr.add, this]
    intro h
    omega
  rcases hr with hr | hr | hr | hr | hr | hr | hr
  all_goals
    rw [hr] at e
    simp at e
    rw [ad _ hr, e]
    assumption

structure StkN (B : Nat) (v : Value) (ps : List TT) (w : World) : Prop where
  own : w.ownsRow B 27 7 v ps.length (cells7 ps)
  ins : ∀ p, p ∈ ps → Pr1 B w p

set_option maxRecDepth 20000 in
set_option maxHeartbeats 4000000 in
/-- NodesOf. -/
theorem nodesOf_any (x : TT) (w : World) (hx : x.In w) (hsz : x.sz ≤ 2000000) :
    Calls Tryz.prog 12 #[.agg #[.int .i64 x.k, .int .i64 x.n, .int .i64 x.t.k, .slice x.t.a x.t.l.length x.t.c, .int .i64 x.f.k, .slice x.f.a x.f.l.length x.f.c, .slice x.a x.l.length x.c]] w fun e w' => e = .returned (.int .i64 (x.sz : Int)) ∧ Below w.heap.size w w' := by
  obtain ⟨i0, hi0, hz0, hz1, hz2⟩ := info_parts Tryz.info27c
  obtain ⟨OX, hOX⟩ : ∃ O, O = Obj.cells #[.int .i64 x.k, .int .i64 x.n, .int .i64 x.t.k, .slice x.t.a x.t.l.length x.t.c, .int .i64 x.f.k, .slice x.f.a x.f.l.length x.f.c, .slice x.a x.l.length x.c] 27 := ⟨_, rfl⟩
  have HL0 : Hid (∀ W, W = ((w.alloc OX).drew.alloc OX) ∨ W = ((w.alloc OX).alloc OX) ∨ W = ((w.alloc OX).alloc OX).drew → StkN (w.heap.size + 1) (.slice (some ⟨w.heap.size + 1, 0, none⟩) 1 1) [x] W ∧ Below w.heap.size w W) := by
    intro W hW
    have hb : Below w.heap.size w W := by
      rcases hW with rfl | rfl | rfl
      · exact (((Below.refl _ _).alloc (Nat.le_refl _) _).drew).alloc (by simp) _
      · exact ((Below.refl _ _).alloc (Nat.le_refl _) _).alloc (by simp) _
      · exact (((Below.refl _ _).alloc (Nat.le_refl _) _).alloc (by simp) _).drew
    have hh : W.heap[w.heap.size + 1]? = some OX := by
      rcases hW with rfl | rfl | rfl
      · have := heap_alloc_new ((w.alloc OX).drew) OX
        simpa using this
      · have := heap_alloc_new (w.alloc OX) OX
        simpa using this
      · have := heap_alloc_new (w.alloc OX) OX
        show ((w.alloc OX).alloc OX).heap[w.heap.size + 1]? = _
        simpa using this
    rw [hOX] at hh
    refine ⟨⟨⟨rfl, .inr ⟨_, 1, _, rfl, Nat.le_refl _, hh, Nat.le_refl _, by unfold maxLen; omega, rfl, rfl⟩⟩, fun p hp => ?_⟩, hb⟩
    rcases List.mem_singleton.1 hp with rfl
    exact ⟨hx.below hb, hx.bl.mono fun b h => by omega⟩
  obtain ⟨B, hB⟩ : ∃ B, w.heap.size + 1 = B := ⟨_, rfl⟩
  have hBw : w.heap.size < B := by omega
  obtain ⟨S, hS⟩ : ∃ S, x.sz = S := ⟨_, rfl⟩
  have hSb : S ≤ 2000000 := by omega
  have hm1 : mass1 [x] = S := by simp [mass1, hS]
  rw [hS]
  subst hOX
  clear hx hsz hS
  go_enter Tryz.func12, Tryz.ntmps12
  go_wp2_with fail
  go_region
  go_wp2_with fail
  go_loopg [3, 4] S (fun k cn v wr => ∃ (u : Value) (ps : List TT) (c : Nat), u = v ∧ cn = .int .i64 (c : Int) ∧ k = mass1 ps ∧ Hid (StkN B u ps wr ∧ Below w.heap.size w wr ∧ c + mass1 ps = S))
  case atStart =>
    refine ⟨_, [x], 0, rfl, rfl, hm1.symm, ?_⟩
    rw [← hB]
    first
      | exact ⟨(HL0.out _ (.inl rfl)).1, (HL0.out _ (.inl rfl)).2, by omega⟩
      | exact ⟨(HL0.out _ (.inr (.inl rfl))).1, (HL0.out _ (.inr (.inl rfl))).2, by omega⟩
      | exact ⟨(HL0.out _ (.inr (.inr rfl))).1, (HL0.out _ (.inr (.inr rfl))).2, by omega⟩
  case round =>
    obtain ⟨v, ps, c, hv, rfl, hk, HR⟩ := hrel
    subst hv
    have HK : Hid (gk = mass1 ps) := hk
    clear hk HL0 hB
    by_cases hne : ps = []
    · subst hne
      obtain ⟨a, c', rfl⟩ : ∃ a c, v = .slice a 0 c := by
        rcases HR.out.1.own.2 with ⟨rfl, _⟩ | ⟨g, cap, cur, rfl, _⟩
        · exact ⟨_, _, rfl⟩
        · exact ⟨_, _, rfl⟩
      have HF : Hid (Below w.heap.size w wr ∧ c = S) := ⟨HR.out.2.1, by have := HR.out.2.2; simpa [mass1] using this⟩
      clear HR HK
      go_wp2_with fail
      go_ret
      exact ⟨by rw [← HF.out.2]; rfl, HF.out.1⟩
    · obtain ⟨us, p, rfl⟩ : ∃ us p, ps = us ++ [p] := ⟨ps.dropLast, ps.getLast hne, (List.dropLast_concat_getLast hne).symm⟩
      have ho := HR.out.1.own
      have hlen : (us ++ [p]).length = us.length + 1 := by simp
      have h7l := cells7_len us
      rw [hlen] at ho
      obtain ⟨g, cap, rfl, hg, hgl⟩ := ho.form (by omega)
      have hc : ∀ i, i < 7 → wr.cell? ⟨g, us.length * 7 + i, none⟩ = (#[.int .i64 p.k, .int .i64 p.n, .int .i64 p.t.k, .slice p.t.a p.t.l.length p.t.c, .int .i64 p.f.k, .slice p.f.a p.f.l.length p.f.c, .slice p.a p.l.length p.c] : Array Value)[i]? := by
        intro i hi
        rw [ho.cellAt (us.length * 7 + i) (by omega)]
        have := cells7_at (us ++ [p]) us.length (by simp) i hi
        rw [this]
        simp
      have c0 : wr.cell? ⟨g, us.length * 7, none⟩ = some (.int .i64 p.k) := (hc 0 (by omega)).trans rfl
      have c1 : wr.cell? ⟨g, us.length * 7 + 1, none⟩ = some (.int .i64 p.n) := (hc 1 (by omega)).trans rfl
      have c2 : wr.cell? ⟨g, us.length * 7 + 2, none⟩ = some (.int .i64 p.t.k) := (hc 2 (by omega)).trans rfl
      have c3 : wr.cell? ⟨g, us.length * 7 + 3, none⟩ = some (.slice p.t.a p.t.l.length p.t.c) := (hc 3 (by omega)).trans rfl
      have c4 : wr.cell? ⟨g, us.length * 7 + 4, none⟩ = some (.int .i64 p.f.k) := (hc 4 (by omega)).trans rfl
      have c5 : wr.cell? ⟨g, us.length * 7 + 5, none⟩ = some (.slice p.f.a p.f.l.length p.f.c) := (hc 5 (by omega)).trans rfl
      have c6 : wr.cell? ⟨g, us.length * 7 + 6, none⟩ = some (.slice p.a p.l.length p.c) := (hc 6 (by omega)).trans rfl
      have hcap : us.length + 1 ≤ cap := by
        rcases ho.2 with ⟨h, _⟩ | ⟨g', cap', cur, h, _, _, h1, _⟩
        · cases h
        · cases h; exact h1
      have hop : wr.ownsRow B 27 7 (.slice (some ⟨g, 0, none⟩) us.length cap) us.length (cells7 us) := by
        rw [cells7_append] at ho
        exact ownsRow_pop h7l ho
      have hms : mass1 (us ++ [p]) = mass1 us + p.sz := by simp [mass1]
      have hml := HR.out.2.2
      have hus := Stk1.len (ps := us)
      have hps : p.sz = (p.l.map TT.sz).sum + 1 := p.sz_eq
      have hpl := len_sum p.l
      have i1 : (us.length : Int) < ((us.length : Int) + 1) := by omega
      have n1 : (us.length : Int) ≤ 2000000 := by omega
      have n2 : (us.length : Int) ≤ (cap : Int) := by omega
      have n3 : (0 : Int) ≤ (us.length : Int) := by omega
      have cb : (c : Int) ≤ 2000000 := by omega
      have hwr : IntKind.i64.wrap (us.length : Int) = (us.length : Int) := by rw [IntKind.wrap_i64]; omega
      have hpp := HR.out.1.ins p (by simp)
      have HT : Hid (∀ q, q ∈ us → Pr1 B wr q) := fun q hq => HR.out.1.ins q (by simp [hq])
      have hgne : g ≠ wr.heap.size := by omega
      have hbr := HR.out.2.1
      have hBr : B ≤ wr.heap.size := by have := hbr.size; omega
      have HM : Hid (gk = mass1 us + p.sz ∧ c + (mass1 us + p.sz) = S) := ⟨HK.out.trans hms, by rw [← hms]; exact hml⟩
      have HW : Hid (Below w.heap.size w wr) := hbr
      clear ho HR HK hms hml hne hlen hc hbr
      by_cases hl0 : p.l.length = 0
      · have hnil : p.l = [] := List.length_eq_zero_iff.1 hl0
        have hs1 : p.sz = 1 := by rw [hps, hnil]; rfl
        rw [hl0] at c6
        have HO : Hid (StkN B (.slice (some ⟨g, 0, none⟩) us.length cap) us (wr.alloc (.cells #[.int .i64 p.k, .int .i64 p.n, .int .i64 p.t.k, .slice p.t.a p.t.l.length p.t.c, .int .i64 p.f.k, .slice p.f.a p.f.l.length p.f.c, .slice p.a 0 p.c] 27)).drew ∧ Below w.heap.size w (wr.alloc (.cells #[.int .i64 p.k, .int .i64 p.n, .int .i64 p.t.k, .slice p.t.a p.t.l.length p.t.c, .int .i64 p.f.k, .slice p.f.a p.f.l.length p.f.c, .slice p.a 0 p.c] 27)).drew ∧ (c + 1) + mass1 us = S) := by
          refine ⟨⟨(hop.alloc _).drew, fun q hq => (HT.out q hq).low ((((Below.refl _ _).alloc hBr _)).drew)⟩, (HW.out.alloc HW.out.size _).drew, ?_⟩
          have := HM.out.2
          omega
        clear hpp HT HW hop
        go_wp2_with fail
        go_region_law ((refine step_append_void (by rfl) _ _ _ (by rfl) 27 i0 Tryz.underlying25 hi0 g us.length cap (by rfl) p.a p.c (by rfl) (by omega) ?_))
        go_wp2_with fail
        go_roundg (mass1 us)
        case measure => have := HM.out.1; omega
        case rel => exact ⟨_, us, c + 1, rfl, by go_num, rfl, HO⟩
      · obtain ⟨xb, xo, xa, _, _⟩ := hpp.1.part 0 (by omega)
        have hbb : Below wr.heap.size wr (wr.alloc (.cells #[.int .i64 p.k, .int .i64 p.n, .int .i64 p.t.k, .slice p.t.a p.t.l.length p.t.c, .int .i64 p.f.k, .slice p.f.a p.f.l.length p.f.c, .slice (some ⟨xb, xo, none⟩) p.l.length p.c] 27)).drew := ((Below.refl _ _).alloc (Nat.le_refl _) _).drew
        have HN : Hid (∀ j u, (cells7 p.l)[j]? = some u → (wr.alloc (.cells #[.int .i64 p.k, .int .i64 p.n, .int .i64 p.t.k, .slice p.t.a p.t.l.length p.t.c, .int .i64 p.f.k, .slice p.f.a p.f.l.length p.f.c, .slice (some ⟨xb, xo, none⟩) p.l.length p.c] 27)).drew.cell? ((⟨xb, xo, none⟩ : Addr).add j) = some u) := parts_cells (hpp.1.below hbb) xa
        have HP : Hid (Pr1 B wr p) := hpp
        rw [xa] at c6
        have hl1 : 0 < p.l.length := by omega
        have hsum : us.length + p.l.length ≤ 2000000 := by have := HM.out.2; omega
        clear hpp hbb
        go_wp2_with fail
        go_region_law
          ((refine step_append_lies _ (by rfl) _ _ _ (by rfl) B 27 i0 _ 7 104 Tryz.underlying25 hi0 hz0 hz1 hz2 rfl (by omega) (.slice (some ⟨g, 0, none⟩) us.length cap) us.length (cells7 us) (by rfl) ((hop.alloc _).drew)
              ⟨xb, xo, none⟩ p.l.length p.c (cells7 p.l) (by rfl) (cells7_len p.l) HN.out (cells7_one p.l)
              hl1 (by unfold maxLen; omega) (by omega) (by simp; omega) (wr.heap.size + 1) (by simp) ?_; intro gg cap1 w1 hown1 hgrow hat hlt))
        have hbg : Below B wr w1 := (((Below.refl _ _).alloc hBr _).drew).grown hgrow (by simp; omega) (fun k hk => by simp [Value.ownBlock] at hk; omega)
        have hma : mass1 (us ++ p.l) + 1 = mass1 us + p.sz := by
          rw [hps]
          simp only [mass1, List.map_append, List.sum_append_nat]
          omega
        have HO : Hid (StkN B (.slice (some ⟨gg, 0, none⟩) (us.length + p.l.length) cap1) (us ++ p.l) w1 ∧ Below w.heap.size w w1 ∧ (c + 1) + mass1 (us ++ p.l) = S) := by
          refine ⟨⟨?_, fun q hq => ?_⟩, HW.out.trans (hbg.mono (by omega)), ?_⟩
          · rw [cells7_append, List.length_append]
            exact hown1
          · rcases List.mem_append.1 hq with hq | hq
            · exact (HT.out q hq).low hbg
            · obtain ⟨j, hj, rfl⟩ := List.getElem_of_mem hq
              obtain ⟨_, _, _, _, hin⟩ := HP.out.1.part j hj
              exact (show Pr1 B wr p.l[j] from ⟨hin, HP.out.2.mem (List.getElem_mem hj)⟩).low hbg
          · have := HM.out.2
            omega
        have hmm : mass1 (us ++ p.l) < gk := by have := HM.out.1; omega
        clear hown1 hgrow hat hbg HT HW hop HN HP hma hlt
        go_wp2_with fail
        go_roundg (mass1 (us ++ p.l))
        case measure => exact hmm
        case rel => exact ⟨_, us ++ p.l, c + 1, rfl, by go_num, rfl, HO⟩
end Go.Proofs.YtnddkmccagiclaaGreatDoor

/-
  What a call that makes a type leaves.
-/
namespace Go.Proofs.YtnddkmccagiclaaGreatDoor
open Go.RowKit

/-- What a call that makes a tree leaves. -/
def Made (T : Ty) (w : World) (e : Ending) (w' : World) : Prop :=
  ∃ t : Tr, e = .returned (.agg #[.int .i64 t.k, .slice t.a t.l.length t.c]) ∧ t.ty = T ∧ t.In w' ∧ t.Bl (w.heap.size ≤ ·) ∧ Below w.heap.size w w'
end Go.Proofs.YtnddkmccagiclaaGreatDoor
