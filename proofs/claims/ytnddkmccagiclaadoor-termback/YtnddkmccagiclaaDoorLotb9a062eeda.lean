/-
  What the call of term.Same answers at two terms that are alike.
-/
import Derived.Test.YtnddkmccagiclaaDoorLota236a337f3
import Derived.Test.YtnddkmccagiclaaDoorLot6084a0127f
namespace Go.Proofs.YtnddkmccagiclaaDoor
open Go.RowKit

/-- A list of one term that lies in a block of its own. -/
def oneOf (g : Nat) (x : TT) : TT := ⟨0, 0, leaf 0, leaf 0, some ⟨g, 0, none⟩, 1, [x]⟩

theorem oneOf_in {w : World} {g : Nat} {x : TT} (h : At7 w g 0 x) (hx : x.In w) : (oneOf g x).In w := by
  refine TT.In_mk.2 ⟨leaf_in _ _, leaf_in _ _, fun j hj => ⟨g, 0, rfl, ?_⟩, fun y hy => ?_⟩
  · obtain rfl : j = 0 := by simp at hj; omega
    exact h
  · rcases List.mem_singleton.1 hy with rfl
    exact hx

theorem oneOf_bl {P : Nat → Prop} {g : Nat} {x : TT} (h : P g) (hx : x.Bl P) : (oneOf g x).Bl P := by
  refine TT.Bl_mk.2 ⟨leaf_bl _ _, leaf_bl _ _, fun _ y hy => by cases hy; exact h, fun y hy => ?_⟩
  rcases List.mem_singleton.1 hy with rfl
  exact hx

theorem leaf_tok (k : Int) : (leaf k).hgt ≤ 1000 ∧ (leaf k).sm := by
  refine ⟨?_, Tr.sm_mk.2 ⟨by simp, fun t h => by cases h⟩⟩
  rw [leaf, Tr.hgt_mk]; simp

theorem oneOf_tok {g : Nat} {x : TT} (hx : x.tok) : (oneOf g x).tok := by
  refine TT.tok_mk.2 ⟨leaf_tok 0, leaf_tok 0, fun y hy => ?_⟩
  rcases List.mem_singleton.1 hy with rfl
  exact hx

theorem tleaf_tok (k n : Int) : (tleaf k n).tok := TT.tok_mk.2 ⟨leaf_tok 0, leaf_tok 0, fun y hy => by cases hy⟩

set_option maxRecDepth 20000 in
set_option maxHeartbeats 8000000 in
/-- term.Same, of two that are alike. -/
theorem sameTm_yes (x y : TT) (w : World) (hx : x.In w) (hy : y.In w) (htm : x.tm = y.tm) (hto : x.tok) (hsz : x.sz ≤ 1000000) :
    Calls Tryd.prog 10 #[.agg #[.int .i64 x.k, .int .i64 x.n, .int .i64 x.t.k, .slice x.t.a x.t.l.length x.t.c, .int .i64 x.f.k, .slice x.f.a x.f.l.length x.f.c, .slice x.a x.l.length x.c], .agg #[.int .i64 y.k, .int .i64 y.n, .int .i64 y.t.k, .slice y.t.a y.t.l.length y.t.c, .int .i64 y.f.k, .slice y.f.a y.f.l.length y.f.c, .slice y.a y.l.length y.c]] w fun e w' => e = .returned (.bool true) ∧ Below w.heap.size w w' := by
  obtain ⟨i0, hi0, hz0, hz1, hz2⟩ := info_parts Tryd.info59
  obtain ⟨OX, hOX⟩ : ∃ O, O = Obj.cells #[.int .i64 x.k, .int .i64 x.n, .int .i64 x.t.k, .slice x.t.a x.t.l.length x.t.c, .int .i64 x.f.k, .slice x.f.a x.f.l.length x.f.c, .slice x.a x.l.length x.c] 27 := ⟨_, rfl⟩
  obtain ⟨OY, hOY⟩ : ∃ O, O = Obj.cells #[.int .i64 y.k, .int .i64 y.n, .int .i64 y.t.k, .slice y.t.a y.t.l.length y.t.c, .int .i64 y.f.k, .slice y.f.a y.f.l.length y.f.c, .slice y.a y.l.length y.c] 27 := ⟨_, rfl⟩
  have HL : Hid (Stk (w.heap.size + 1 + 1 + 1 + 1) (.slice (some ⟨w.heap.size + 1 + 1 + 1 + 1, 0, none⟩) 1 1) [(oneOf (w.heap.size + 1 + 1) x, oneOf (w.heap.size + 1 + 1 + 1) y)] (((((w.alloc OX).alloc OY).alloc OX).alloc OY).alloc (.cells #[.slice (some ⟨w.heap.size + 1 + 1, 0, none⟩) 1 1, .slice (some ⟨w.heap.size + 1 + 1 + 1, 0, none⟩) 1 1] 59)) ∧ Below w.heap.size w (((((w.alloc OX).alloc OY).alloc OX).alloc OY).alloc (.cells #[.slice (some ⟨w.heap.size + 1 + 1, 0, none⟩) 1 1, .slice (some ⟨w.heap.size + 1 + 1 + 1, 0, none⟩) 1 1] 59)) ∧ mass [(oneOf (w.heap.size + 1 + 1) x, oneOf (w.heap.size + 1 + 1 + 1) y)] ≤ 1000001) := by
    have hb : Below w.heap.size w (((((w.alloc OX).alloc OY).alloc OX).alloc OY).alloc (.cells #[.slice (some ⟨w.heap.size + 1 + 1, 0, none⟩) 1 1, .slice (some ⟨w.heap.size + 1 + 1 + 1, 0, none⟩) 1 1] 59)) := (((((Below.refl _ _).alloc (Nat.le_refl _) _).alloc (by simp) _).alloc (by simp; omega) _).alloc (by simp; omega) _).alloc (by simp; omega) _
    have hh := heap_alloc_new ((((w.alloc OX).alloc OY).alloc OX).alloc OY) (.cells #[.slice (some ⟨w.heap.size + 1 + 1, 0, none⟩) 1 1, .slice (some ⟨w.heap.size + 1 + 1 + 1, 0, none⟩) 1 1] 59)
    simp only [World.size_alloc] at hh
    refine ⟨⟨⟨rfl, .inr ⟨_, 1, _, rfl, Nat.le_refl _, hh, Nat.le_refl _, by unfold maxLen; omega, rfl, rfl⟩⟩, fun p hp => ?_⟩, hb, ?_⟩
    · rcases List.mem_singleton.1 hp with rfl
      refine ⟨oneOf_in ?_ (hx.below hb), oneOf_in ?_ (hy.below hb), oneOf_bl (by omega) (hx.bl.mono fun b h => by omega), oneOf_bl (by omega) (hy.bl.mono fun b h => by omega), oneOf_tok hto, ?_⟩
      · subst hOX hOY; constructor <;> simp [go_sem]
      · subst hOX hOY; constructor <;> simp [go_sem]
      · simp [oneOf, htm]
    · simp [mass, oneOf, TT.sz_mk]; omega
  obtain ⟨B, hB⟩ : ∃ B, w.heap.size + 1 + 1 + 1 + 1 = B := ⟨_, rfl⟩
  have hBw : w.heap.size < B := by omega
  subst hOX hOY
  clear hx hy htm hto hsz
  go_enter Tryd.func10, Tryd.ntmps10
  go_wp2_with fail
  go_loopg [5] (mass [(oneOf (w.heap.size + 1 + 1) x, oneOf (w.heap.size + 1 + 1 + 1) y)]) (fun k v wr => ∃ (u : Value) (ps : List (TT × TT)), u = v ∧ k = mass ps ∧ Hid (Stk B u ps wr ∧ Below w.heap.size w wr ∧ mass ps ≤ 1000001))
  case atStart => exact ⟨_, _, rfl, rfl, by rw [← hB]; exact HL⟩
  case round =>
    obtain ⟨v, ps, hv, hk, HR⟩ := hrel
    subst hv
    have HK : Hid (gk = mass ps) := hk
    clear hk HL hB
    by_cases hne : ps = []
    · subst hne
      obtain ⟨a, c, rfl⟩ : ∃ a c, v = .slice a 0 c := by
        rcases HR.out.1.own.2 with ⟨rfl, _⟩ | ⟨g, cap, cur, rfl, _⟩
        · exact ⟨_, _, rfl⟩
        · exact ⟨_, _, rfl⟩
      have HF : Hid (Below w.heap.size w wr) := HR.out.2.1
      clear HR HK
      go_wp2_with fail
      go_ret
      exact ⟨rfl, HF.out⟩
    · obtain ⟨us, p, rfl⟩ : ∃ us p, ps = us ++ [p] := ⟨ps.dropLast, ps.getLast hne, (List.dropLast_concat_getLast hne).symm⟩
      have ho := HR.out.1.own
      have hlen : (us ++ [p]).length = us.length + 1 := by simp
      rw [hlen, cells2_append] at ho
      obtain ⟨g, cap, rfl, hg, hgl⟩ := ho.form (by omega)
      have c0 := ho.cellAt (us.length * 2) (by omega)
      have c1 := ho.cellAt (us.length * 2 + 1) (by omega)
      rw [List.getElem?_append_right (by rw [cells2_length]; exact Nat.le_refl _), cells2_length, Nat.sub_self] at c0
      rw [List.getElem?_append_right (by rw [cells2_length]; omega), cells2_length, show us.length * 2 + 1 - us.length * 2 = 1 by omega] at c1
      simp only [cells2, List.flatMap_cons, List.flatMap_nil, List.append_nil, List.getElem?_cons_zero, List.getElem?_cons_succ] at c0 c1
      have hcap : us.length + 1 ≤ cap := by
        rcases ho.2 with ⟨h, _⟩ | ⟨g', cap', cur, h, _, _, h1, _⟩
        · cases h
        · cases h; exact h1
      have hop : wr.ownsRow B 59 2 (.slice (some ⟨g, 0, none⟩) us.length cap) us.length (cells2 us) := ownsRow_pop (cells2_length us) ho
      have hpr : Pr B wr p := HR.out.1.ins p (by simp)
      have hms : mass (us ++ [p]) = mass us + p.1.sz := by simp [mass]
      have hus := Stk.len (ps := us)
      have hml := HR.out.2.2
      have i1 : (us.length : Int) < ((us.length : Int) + 1) := by omega
      have n1 : (us.length : Int) ≤ 1000001 := by omega
      have n2 : (us.length : Int) ≤ (cap : Int) := by omega
      have n3 : (0 : Int) ≤ (us.length : Int) := by omega
      have hgne : g ≠ wr.heap.size := by omega
      have hpl : p.1.l.length ≤ 1000001 := by
        have h1 := p.1.sz_eq
        have h2 : p.1.l.length ≤ (p.1.l.map TT.sz).sum := by
          generalize p.1.l = l
          induction l with
          | nil => simp
          | cons u r ih => have := u.sz_pos; simp only [List.length_cons, List.map_cons, List.sum_cons]; omega
        omega
      have hszB : B ≤ wr.heap.size := by omega
      have HI : Hid (Stk B (.slice (some ⟨g, 0, none⟩) us.length cap) us wr ∧ Below w.heap.size w wr ∧ Pr B wr p ∧ g < wr.heap.size) := ⟨⟨hop, fun q hq => HR.out.1.ins q (by simp [hq])⟩, HR.out.2.1, hpr, hgl⟩
      have HM : Hid (gk = mass us + p.1.sz ∧ mass us + p.1.sz ≤ 1000001) := ⟨HK.out.trans hms, by rw [← hms]; exact hml⟩
      clear ho hop hpr HR HK hms hml hne hlen hus
      go_wp2_with fail
      obtain ⟨W0, hW0⟩ : ∃ W, W = wr := ⟨_, rfl⟩
      subst hW0
      have hb0 : ∀ o, Below W0.heap.size W0 (W0.alloc o) := fun o => (Below.refl _ _).alloc (Nat.le_refl _) _
      have HI0 : Hid (∀ o, Stk B (.slice (some ⟨g, 0, none⟩) us.length cap) us (W0.alloc o) ∧ Below w.heap.size w (W0.alloc o) ∧ Pr B (W0.alloc o) p) := fun o =>
        ⟨⟨HI.out.1.own.alloc _, fun q hq => (HI.out.1.ins q hq).low ((hb0 o).mono hszB)⟩, HI.out.2.1.trans ((hb0 o).mono (by omega)), HI.out.2.2.1.low ((hb0 o).mono hszB)⟩
      clear hb0 c0 c1
      go_loopg [5, 33] p.1.l.length (fun q v i wx => ∃ (j : Nat) (u : Value), q + j = p.1.l.length ∧ i = .int .i64 (j : Int) ∧ u = v ∧ Hid (Stk B u (us ++ kids (p.1.l.take j) (p.2.l.take j)) wx ∧ Below w.heap.size w wx ∧ Pr B wx p ∧ wx.cell? ⟨W0.heap.size, 1, none⟩ = some (.slice p.2.a p.2.l.length p.2.c) ∧ u.ownBlock ≠ some W0.heap.size))
      case atStart => exact ⟨0, _, by omega, rfl, rfl, by simp [kids]; exact (HI0.out _).1, (HI0.out _).2.1, (HI0.out _).2.2, by simp [go_sem], by simp [Value.ownBlock]; omega⟩
      case round =>
        obtain ⟨j, v, hj, rfl, hv, HQ⟩ := hrel
        subst hv
        have HJ : Hid (gk + j = p.1.l.length) := hj
        clear hj HI0
        have hll : p.1.l.length = p.2.l.length := by have := congrArg List.length HQ.out.2.2.1.2.2.2.2.2; simpa using this
        have HLL : Hid (p.1.l.length = p.2.l.length) := hll
        clear hll
        by_cases hlt : j < p.1.l.length
        · have hlt2 : j < p.2.l.length := by rw [← HLL.out]; exact hlt
          obtain ⟨hp1, hp2, hb1, hb2, hto, htm⟩ := HQ.out.2.2.1
          obtain ⟨b, o, ea, hX, hxj⟩ := hp1.part j hlt
          obtain ⟨b', o', ea', hY, hyj⟩ := hp2.part j hlt2
          have c1 := HQ.out.2.2.2.1
          rw [ea'] at c1
          have hxy : p.1.l[j].tm = p.2.l[j].tm := by
            have h1 : (p.1.l.map TT.tm)[j]? = some p.1.l[j].tm := by simp [hlt]
            have h2 : (p.2.l.map TT.tm)[j]? = some p.2.l[j].tm := by simp [hlt2]
            rw [htm, h2] at h1
            exact (Option.some.inj h1).symm
          obtain ⟨qk, qn, ql, qt, qf, qm⟩ := tm_parts hxy
          have htoj : p.1.l[j].tok := hto.mem (List.getElem_mem hlt)
          have hblj : p.1.l[j].Bl (· < B) ∧ p.2.l[j].Bl (· < B) := ⟨hb1.mem (List.getElem_mem hlt), hb2.mem (List.getElem_mem hlt2)⟩
          obtain ⟨X, hXe⟩ : ∃ X, p.1.l[j] = X := ⟨_, rfl⟩
          obtain ⟨Y, hYe⟩ : ∃ Y, p.2.l[j] = Y := ⟨_, rfl⟩
          rw [hXe] at hX hxj qk qn ql qt qf qm htoj hblj
          rw [hYe] at hY hyj qk qn ql qt qf qm hblj
          have HXY : Hid (p.1.l[j] = X ∧ p.2.l[j] = Y) := ⟨hXe, hYe⟩
          have d0 := hX.c0
          have d1 := hX.c1
          have d2 := hX.c2
          have d3 := hX.c3
          have d4 := hX.c4
          have d5 := hX.c5
          have d6 := hX.c6
          have e0 := hY.c0
          have e1 := hY.c1
          have e2 := hY.c2
          have e3 := hY.c3
          have e4 := hY.c4
          have e5 := hY.c5
          have e6 := hY.c6
          have lb : b < wr.heap.size := hX.lt
          have lb' : b' < wr.heap.size := hY.lt
          have lN : W0.heap.size < wr.heap.size := World.block_lt_of_cell? _ _ c1
          have HA : Hid (∀ W, Below wr.heap.size wr W → Calls Tryd.prog 36 #[.agg #[.int .i64 X.k, .int .i64 X.n, .int .i64 X.t.k, .slice X.t.a X.t.l.length X.t.c, .int .i64 X.f.k, .slice X.f.a X.f.l.length X.f.c, .slice X.a X.l.length X.c], .agg #[.int .i64 Y.k, .int .i64 Y.n, .int .i64 Y.t.k, .slice Y.t.a Y.t.l.length Y.t.c, .int .i64 Y.f.k, .slice Y.f.a Y.f.l.length Y.f.c, .slice Y.a Y.l.length Y.c]] W fun e w' => e = .returned (.bool true) ∧ Below W.heap.size W w') := fun W hW => alikeTm_yes X Y W (hxj.below hW) (hyj.below hW) qk qn ql qt qf htoj
          have HP : Hid (Pr B wr (X, Y)) := ⟨hxj, hyj, hblj.1, hblj.2, htoj, qm⟩
          have HQL : Hid (X.l.length = Y.l.length) := ql
          have i5 : (j : Int) < (p.1.l.length : Int) := by omega
          have i6 : (j : Int) < (p.2.l.length : Int) := by omega
          have i7 : (0 : Int) ≤ (j : Int) := by omega
          have HEA : Hid (p.1.a = some ⟨b, o, none⟩) := ea
          rw [ea]
          have hb2 : ∀ o o', Below wr.heap.size wr ((wr.alloc o).alloc o') := fun o o' => ((Below.refl _ _).alloc (Nat.le_refl _) _).alloc (by simp) _
          have HB2 : Hid (∀ o o', Below wr.heap.size wr ((wr.alloc o).alloc o')) := hb2
          clear hp1 hp2 hb1 hto htm ea ea' hX hY hxj hyj hxy qk qn ql qt qf qm htoj hblj hXe hYe hb2
          go_wp2_with fail
          refine (HA.out _ (HB2.out _ _)).mono ?_
          rintro e w2 ⟨rfl, hbz⟩
          have hbw : Below wr.heap.size wr w2 := (HB2.out _ _).trans (hbz.mono (by simp; omega))
          have m6 : w2.cell? ⟨wr.heap.size, 6, none⟩ = some (.slice X.a X.l.length X.c) := cell_later hbz (by simp [go_sem])
          have k6 : w2.cell? ⟨wr.heap.size + 1, 6, none⟩ = some (.slice Y.a Y.l.length Y.c) := cell_later hbz (by simp [go_sem])
          have lw2 : wr.heap.size + 1 < w2.heap.size := World.block_lt_of_cell? _ _ k6
          have HW2 : Hid (Stk B v (us ++ kids (p.1.l.take j) (p.2.l.take j)) w2 ∧ Below w.heap.size w w2 ∧ Pr B w2 p ∧ w2.cell? ⟨W0.heap.size, 1, none⟩ = some (.slice p.2.a p.2.l.length p.2.c) ∧ v.ownBlock ≠ some W0.heap.size ∧ Pr B w2 (X, Y)) := by
            have hlow : Below B wr w2 := hbw.mono (by omega)
            refine ⟨⟨?_, fun q hq => (HQ.out.1.ins q hq).low hlow⟩, HQ.out.2.1.trans (hbw.mono HQ.out.2.1.size), HQ.out.2.2.1.low hlow, cell_later hbw HQ.out.2.2.2.1, HQ.out.2.2.2.2, HP.out.low hlow⟩
            exact ownsRow_low HQ.out.1.own hbw
          have HSN : Hid (kids (p.1.l.take (j + 1)) (p.2.l.take (j + 1)) = kids (p.1.l.take j) (p.2.l.take j) ++ (if X.l.length = 0 then [] else [(X, Y)])) := by
            have := kids_snoc p.1.l p.2.l j hlt hlt2
            rw [HXY.out.1, HXY.out.2] at this
            exact this
          clear hbz hbw HQ HA HP c1 d0 d1 d2 d3 d4 d5 d6 e0 e1 e2 e3 e4 e5 e6
          by_cases hz : X.l.length = 0
          · have i8 : ¬ (0 : Int) < (X.l.length : Int) := by omega
            have HN : Hid (Stk B v (us ++ kids (p.1.l.take (j + 1)) (p.2.l.take (j + 1))) w2 ∧ Below w.heap.size w w2 ∧ Pr B w2 p ∧ w2.cell? ⟨W0.heap.size, 1, none⟩ = some (.slice p.2.a p.2.l.length p.2.c) ∧ v.ownBlock ≠ some W0.heap.size) := by
              show _ ∧ _
              rw [HSN.out, if_pos hz, List.append_nil]
              exact ⟨HW2.out.1, HW2.out.2.1, HW2.out.2.2.1, HW2.out.2.2.2.1, HW2.out.2.2.2.2.1⟩
            clear hz HW2
            go_wp2_with fail
            rw [← HEA.out]
            go_roundg (p.1.l.length - (j + 1))
            case measure => have := HJ.out; omega
            case rel => exact ⟨j + 1, _, by have := HJ.out; omega, by go_num, rfl, HN⟩
          · have i8 : (0 : Int) < (X.l.length : Int) := by omega
            obtain ⟨N, hN⟩ : ∃ N, (us ++ kids (p.1.l.take j) (p.2.l.take j)).length = N := ⟨_, rfl⟩
            obtain ⟨xs, hxs⟩ : ∃ xs, cells2 (us ++ kids (p.1.l.take j) (p.2.l.take j)) = xs := ⟨_, rfl⟩
            have hNb : N ≤ 1000001 := by
              have h1 := Stk.len (ps := us ++ kids (p.1.l.take j) (p.2.l.take j))
              have h2 := kids_mass (p.1.l.take j) (p.2.l.take j)
              have h3 := sum_take_le TT.sz p.1.l j
              have h4 := p.1.sz_eq
              have h5 := HM.out.2
              have h6 : mass (us ++ kids (p.1.l.take j) (p.2.l.take j)) = mass us + mass (kids (p.1.l.take j) (p.2.l.take j)) := by simp [mass]
              omega
            have uo : w2.ownsRow B 59 2 v N xs := by rw [← hN, ← hxs]; exact HW2.out.1.own
            have hnew := heap_alloc_new w2 (.cells #[.slice X.a X.l.length X.c, .slice Y.a Y.l.length Y.c] 59)
            have HNX : Hid ((us ++ kids (p.1.l.take j) (p.2.l.take j)).length = N ∧ cells2 (us ++ kids (p.1.l.take j) (p.2.l.take j)) = xs) := ⟨hN, hxs⟩
            have HZ : Hid (X.l.length ≠ 0) := hz
            clear hN hxs hz
            go_wp2_with (at_builtin; refine wpList_append_lies _ rfl _ _ _ rfl B 59 i0 _ 2 48 Tryd.underlying60 hi0 hz0 hz1 hz2 rfl (by omega) v N xs rfl (uo.alloc _) ⟨w2.heap.size, 0, none⟩ 1 1 [.slice X.a X.l.length X.c, .slice Y.a Y.l.length Y.c] rfl rfl (World.news_of_block (cs := #[.slice X.a X.l.length X.c, .slice Y.a Y.l.length Y.c]) (t := 59) (fr := (0, 0)) hnew) (by simp [Value.oneCell']) (by omega) (by unfold maxLen; omega) (by omega) (by simp; omega) (w2.heap.size + 1) (by simp) ?_; intro gg cap1 w3 hown1 hgrow hat hlt3)
            have hov : ∀ q, v.ownBlock = some q → B ≤ q ∧ q < w2.heap.size := uo.lt
            have hlow : Below B w2 w3 := by
              refine ⟨hgrow.os.trans rfl, hgrow.tape.trans rfl, hgrow.output.trans rfl, by have := hgrow.size; simp at this; omega, fun q hq => ?_⟩
              rw [hgrow.block q (by simp; omega) (fun e => by have := (hov q e.symm).1; omega)]
              exact ((Below.refl _ w2).alloc (Nat.le_refl _) _).block q (by omega)
            have hcN : w3.cell? ⟨W0.heap.size, 1, none⟩ = some (.slice p.2.a p.2.l.length p.2.c) := by
              rw [hgrow.cell_far _ (by simp; omega) (Ne.symm HW2.out.2.2.2.2.1)]
              exact cell_later ((Below.refl _ _).alloc (Nat.le_refl _) _) HW2.out.2.2.2.1
            have HN : Hid (Stk B (.slice (some ⟨gg, 0, none⟩) (N + 1) cap1) (us ++ kids (p.1.l.take (j + 1)) (p.2.l.take (j + 1))) w3 ∧ Below w.heap.size w w3 ∧ Pr B w3 p ∧ w3.cell? ⟨W0.heap.size, 1, none⟩ = some (.slice p.2.a p.2.l.length p.2.c) ∧ (Value.slice (some ⟨gg, 0, none⟩) (N + 1) cap1).ownBlock ≠ some W0.heap.size) := by
              show _ ∧ _
              rw [HSN.out, if_neg HZ.out, ← List.append_assoc]
              refine ⟨⟨?_, fun q hq => ?_⟩, HW2.out.2.1.trans (hlow.mono (by omega)), HW2.out.2.2.1.low hlow, hcN, ?_⟩
              · rw [cells2_append, List.length_append, List.length_singleton, HNX.out.1, HNX.out.2]
                exact hown1
              · rcases List.mem_append.1 hq with hq | hq
                · exact (HW2.out.1.ins q hq).low hlow
                · rcases List.mem_singleton.1 hq with rfl
                  exact HW2.out.2.2.2.2.2.low hlow
              · show some gg ≠ some W0.heap.size
                rcases hat with e | e
                · rw [← e]; exact HW2.out.2.2.2.2.1
                · simp only [ne_eq, Option.some.injEq]; omega
            clear hown1 hgrow hat hlt3 hov hlow hcN HW2 uo hnew m6 k6
            go_wp2_with fail
            rw [← HEA.out]
            go_roundg (p.1.l.length - (j + 1))
            case measure => have := HJ.out; omega
            case rel => exact ⟨j + 1, _, by have := HJ.out; omega, by go_num, rfl, HN⟩
        · have HN : Hid (Stk B v (us ++ kids p.1.l p.2.l) wr ∧ Below w.heap.size w wr ∧ mass (us ++ kids p.1.l p.2.l) ≤ 1000001) := by
            have h1 := HQ.out.1
            rw [List.take_of_length_le (by omega), List.take_of_length_le (by have := HLL.out; omega)] at h1
            have h2 := kids_mass p.1.l p.2.l
            have h4 := p.1.sz_eq
            have h5 := HM.out.2
            have h6 : mass (us ++ kids p.1.l p.2.l) = mass us + mass (kids p.1.l p.2.l) := by simp [mass]
            exact ⟨h1, HQ.out.2.1, by omega⟩
          clear HQ
          go_wp2_with fail
          go_roundg (mass (us ++ kids p.1.l p.2.l))
          case measure =>
            have h2 := kids_mass p.1.l p.2.l
            have h4 := p.1.sz_eq
            have h5 := HM.out.1
            have h6 : mass (us ++ kids p.1.l p.2.l) = mass us + mass (kids p.1.l p.2.l) := by simp [mass]
            omega
          case rel => exact ⟨_, _, rfl, rfl, HN⟩
end Go.Proofs.YtnddkmccagiclaaDoor

/-
  What the call of term.Nodes answers.
-/
namespace Go.Proofs.YtnddkmccagiclaaDoor
open Go.RowKit

def cells1 (ps : List TT) : List Value := ps.map fun p => .slice p.a p.l.length p.c

/-- Those that have parts. -/
def kids1 : List TT → List TT
  | x :: xs => (if x.l.length = 0 then [] else [x]) ++ kids1 xs
  | [] => []

def mass1 (ps : List TT) : Nat := (ps.map TT.sz).sum
/-- How many terms are still to be counted. -/
def pend (ps : List TT) : Nat := (ps.map fun p => (p.l.map TT.sz).sum).sum

theorem kids1_mass : ∀ xs : List TT, mass1 (kids1 xs) ≤ (xs.map TT.sz).sum
  | [] => by simp [kids1, mass1]
  | x :: xs => by
    have := kids1_mass xs
    simp only [kids1, mass1, List.map_append, List.sum_append_nat, List.map_cons, List.sum_cons] at this ⊢
    split
    · simp; omega
    · simp; omega

theorem kids1_pend : ∀ xs : List TT, pend (kids1 xs) + xs.length = (xs.map TT.sz).sum
  | [] => by simp [kids1, pend]
  | x :: xs => by
    have := kids1_pend xs
    have h := x.sz_eq
    simp only [kids1, pend, List.map_append, List.sum_append_nat, List.map_cons, List.sum_cons, List.length_cons] at this ⊢
    split
    · rename_i h0
      have : x.l = [] := List.length_eq_zero_iff.1 h0
      rw [this] at h
      simp at h ⊢
      omega
    · simp; omega

theorem kids1_snoc : ∀ (l : List TT) (j : Nat) (hj : j < l.length), kids1 (l.take (j + 1)) = kids1 (l.take j) ++ (if l[j].l.length = 0 then [] else [l[j]])
  | x :: l, 0, _ => by simp [kids1]
  | x :: l, j + 1, hj => by
    have := kids1_snoc l j (by simpa using hj)
    simp only [List.take_succ_cons, kids1, List.getElem_cons_succ]
    rw [this, List.append_assoc]
  | [], j, hj => by simp at hj

def Pr1 (B : Nat) (w : World) (p : TT) : Prop := p.In w ∧ p.Bl (· < B)
theorem Pr1.low {B : Nat} {w w' : World} {p : TT} (h : Pr1 B w p) (hb : Below B w w') : Pr1 B w' p :=
  ⟨h.1.congr (P := (· < B)) (fun b hb' o => hb.cell (p := ⟨b, o, none⟩) hb') h.2, h.2⟩

structure Stk1 (B : Nat) (v : Value) (ps : List TT) (w : World) : Prop where
  own : w.ownsRow B 25 1 v ps.length (cells1 ps)
  ins : ∀ p, p ∈ ps → Pr1 B w p

theorem Stk1.len {ps : List TT} : ps.length ≤ mass1 ps := by
  induction ps with
  | nil => simp
  | cons p r ih => have := p.sz_pos; simp only [mass1, List.map_cons, List.sum_cons, List.length_cons] at ih ⊢; omega

theorem Tryd.info25 : (Tryd.prog.info? 25).map (fun i => (i.zero, i.size, i.bytes)) = some (some (.slice none 0 0), 1, 24) := by kernel_rfl

theorem len_sum : ∀ l : List TT, l.length ≤ (l.map TT.sz).sum
  | [] => by simp
  | u :: r => by have := u.sz_pos; have := len_sum r; simp only [List.length_cons, List.map_cons, List.sum_cons]; omega

set_option maxRecDepth 20000 in
set_option maxHeartbeats 8000000 in
/-- term.Nodes. -/
theorem nodes_any (x : TT) (w : World) (hx : x.In w) (hsz : x.sz ≤ 1000000) :
    Calls Tryd.prog 25 #[.agg #[.int .i64 x.k, .int .i64 x.n, .int .i64 x.t.k, .slice x.t.a x.t.l.length x.t.c, .int .i64 x.f.k, .slice x.f.a x.f.l.length x.f.c, .slice x.a x.l.length x.c]] w fun e w' => e = .returned (.int .i64 (x.sz : Int)) ∧ Below w.heap.size w w' := by
  obtain ⟨i0, hi0, hz0, hz1, hz2⟩ := info_parts Tryd.info25
  obtain ⟨OX, hOX⟩ : ∃ O, O = Obj.cells #[.int .i64 x.k, .int .i64 x.n, .int .i64 x.t.k, .slice x.t.a x.t.l.length x.t.c, .int .i64 x.f.k, .slice x.f.a x.f.l.length x.f.c, .slice x.a x.l.length x.c] 27 := ⟨_, rfl⟩
  have HL : Hid (Stk1 (w.heap.size + 1) (.slice (some ⟨w.heap.size + 1, 0, none⟩) 1 1) [x] ((w.alloc OX).alloc (.cells #[.slice x.a x.l.length x.c] 25)) ∧ Below w.heap.size w ((w.alloc OX).alloc (.cells #[.slice x.a x.l.length x.c] 25)) ∧ mass1 [x] ≤ 1000000 ∧ 1 + pend [x] = x.sz) := by
    have hb : Below w.heap.size w ((w.alloc OX).alloc (.cells #[.slice x.a x.l.length x.c] 25)) := ((Below.refl _ _).alloc (Nat.le_refl _) _).alloc (by simp) _
    have hh := heap_alloc_new (w.alloc OX) (.cells #[.slice x.a x.l.length x.c] 25)
    simp only [World.size_alloc] at hh
    refine ⟨⟨⟨rfl, .inr ⟨_, 1, _, rfl, Nat.le_refl _, hh, Nat.le_refl _, by unfold maxLen; omega, rfl, rfl⟩⟩, fun p hp => ?_⟩, hb, by simpa [mass1] using hsz, ?_⟩
    · rcases List.mem_singleton.1 hp with rfl
      exact ⟨hx.below hb, hx.bl.mono fun b h => by omega⟩
    · have := x.sz_eq; simp [pend]; omega
  obtain ⟨B, hB⟩ : ∃ B, w.heap.size + 1 = B := ⟨_, rfl⟩
  have hBw : w.heap.size < B := by omega
  obtain ⟨S, hS⟩ : ∃ S, x.sz = S := ⟨_, rfl⟩
  have hSb : S ≤ 1000000 := by omega
  rw [hS] at HL ⊢
  subst hOX
  clear hx hsz hS
  go_enter Tryd.func25, Tryd.ntmps25
  go_wp2_with fail
  go_loopg [3, 4] (mass1 [x]) (fun k cn v wr => ∃ (u : Value) (ps : List TT) (c : Nat), u = v ∧ cn = .int .i64 (c : Int) ∧ k = mass1 ps ∧ Hid (Stk1 B u ps wr ∧ Below w.heap.size w wr ∧ mass1 ps ≤ 1000000 ∧ c + pend ps = S))
  case atStart => exact ⟨_, _, 1, rfl, rfl, rfl, by rw [← hB]; exact HL⟩
  case round =>
    obtain ⟨v, ps, c, hv, rfl, hk, HR⟩ := hrel
    subst hv
    have HK : Hid (gk = mass1 ps) := hk
    clear hk HL hB
    by_cases hne : ps = []
    · subst hne
      obtain ⟨a, c', rfl⟩ : ∃ a c, v = .slice a 0 c := by
        rcases HR.out.1.own.2 with ⟨rfl, _⟩ | ⟨g, cap, cur, rfl, _⟩
        · exact ⟨_, _, rfl⟩
        · exact ⟨_, _, rfl⟩
      have HF : Hid (Below w.heap.size w wr ∧ c = S) := ⟨HR.out.2.1, by have := HR.out.2.2.2; simpa [pend] using this⟩
      clear HR HK
      go_wp2_with fail
      go_ret
      exact ⟨by rw [← HF.out.2]; rfl, HF.out.1⟩
    · obtain ⟨us, p, rfl⟩ : ∃ us p, ps = us ++ [p] := ⟨ps.dropLast, ps.getLast hne, (List.dropLast_concat_getLast hne).symm⟩
      have ho := HR.out.1.own
      have hlen : (us ++ [p]).length = us.length + 1 := by simp
      have hca : cells1 (us ++ [p]) = cells1 us ++ [.slice p.a p.l.length p.c] := by simp [cells1]
      rw [hlen, hca] at ho
      obtain ⟨g, cap, rfl, hg, hgl⟩ := ho.form (by omega)
      have c0 := ho.cellAt us.length (by omega)
      rw [List.getElem?_append_right (by simp [cells1]), show (cells1 us).length = us.length by simp [cells1], Nat.sub_self] at c0
      simp only [List.getElem?_cons_zero] at c0
      have hcap : us.length + 1 ≤ cap := by
        rcases ho.2 with ⟨h, _⟩ | ⟨g', cap', cur, h, _, _, h1, _⟩
        · cases h
        · cases h; exact h1
      have hop : wr.ownsRow B 25 1 (.slice (some ⟨g, 0, none⟩) us.length cap) us.length (cells1 us) := ownsRow_pop (by simp [cells1]) ho
      have hpr : Pr1 B wr p := HR.out.1.ins p (by simp)
      have hms : mass1 (us ++ [p]) = mass1 us + p.sz := by simp [mass1]
      have hpd : pend (us ++ [p]) = pend us + (p.l.map TT.sz).sum := by simp [pend]
      have hus := Stk1.len (ps := us)
      have hml := HR.out.2.2.1
      have hcs := HR.out.2.2.2
      have i1 : (us.length : Int) < ((us.length : Int) + 1) := by omega
      have n1 : (us.length : Int) ≤ 1000001 := by omega
      have n2 : (us.length : Int) ≤ (cap : Int) := by omega
      have n3 : (0 : Int) ≤ (us.length : Int) := by omega
      have hpl : p.l.length ≤ 1000001 := by have h1 := p.sz_eq; have h2 := len_sum p.l; omega
      have hc1 : (c : Int) ≤ 1000001 := by omega
      have hszB : B ≤ wr.heap.size := by omega
      have HI : Hid (Stk1 B (.slice (some ⟨g, 0, none⟩) us.length cap) us wr ∧ Below w.heap.size w wr ∧ Pr1 B wr p ∧ g < wr.heap.size) := ⟨⟨hop, fun q hq => HR.out.1.ins q (by simp [hq])⟩, HR.out.2.1, hpr, hgl⟩
      have HM : Hid (gk = mass1 us + p.sz ∧ mass1 us + p.sz ≤ 1000000 ∧ c + (pend us + (p.l.map TT.sz).sum) = S) := ⟨HK.out.trans hms, by rw [← hms]; exact hml, by rw [← hpd]; exact hcs⟩
      clear ho hop hpr HR HK hms hml hne hlen hus hca hpd hcs
      go_wp2_with fail
      obtain ⟨W0, hW0⟩ : ∃ W, W = wr := ⟨_, rfl⟩
      subst hW0
      clear c0
      go_loopg [4, 31] p.l.length (fun q v i wx => ∃ (j : Nat) (u : Value), q + j = p.l.length ∧ i = .int .i64 (j : Int) ∧ u = v ∧ Hid (Stk1 B u (us ++ kids1 (p.l.take j)) wx ∧ Below w.heap.size w wx ∧ Pr1 B wx p ∧ B ≤ wx.heap.size))
      case atStart => exact ⟨0, _, by omega, rfl, rfl, by simp [kids1]; exact HI.out.1, HI.out.2.1, HI.out.2.2.1, hszB⟩
      case round =>
        obtain ⟨j, v, hj, rfl, hv, HQ⟩ := hrel
        subst hv
        have HJ : Hid (gk + j = p.l.length) := hj
        clear hj HI
        by_cases hlt : j < p.l.length
        · obtain ⟨hp1, hb1⟩ := HQ.out.2.2.1
          obtain ⟨b, o, ea, hX, hxj⟩ := hp1.part j hlt
          have hblj : p.l[j].Bl (· < B) := hb1.mem (List.getElem_mem hlt)
          obtain ⟨X, hXe⟩ : ∃ X, p.l[j] = X := ⟨_, rfl⟩
          rw [hXe] at hX hxj hblj
          have HXY : Hid (p.l[j] = X) := hXe
          have d0 := hX.c0
          have d1 := hX.c1
          have d2 := hX.c2
          have d3 := hX.c3
          have d4 := hX.c4
          have d5 := hX.c5
          have d6 := hX.c6
          have hszx : B ≤ wr.heap.size := HQ.out.2.2.2
          have i5 : (j : Int) < (p.l.length : Int) := by omega
          have i7 : (0 : Int) ≤ (j : Int) := by omega
          have HEA : Hid (p.a = some ⟨b, o, none⟩) := ea
          rw [ea]
          have hbw : ∀ o, Below wr.heap.size wr (wr.alloc o) := fun o => (Below.refl _ _).alloc (Nat.le_refl _) _
          have HW2 : Hid (∀ o, Stk1 B v (us ++ kids1 (p.l.take j)) (wr.alloc o) ∧ Below w.heap.size w (wr.alloc o) ∧ Pr1 B (wr.alloc o) p ∧ Pr1 B (wr.alloc o) X) := by
            intro o
            have hlow : Below B wr (wr.alloc o) := (hbw o).mono hszx
            exact ⟨⟨ownsRow_low HQ.out.1.own (hbw o), fun q hq => (HQ.out.1.ins q hq).low hlow⟩, HQ.out.2.1.trans ((hbw o).mono HQ.out.2.1.size), HQ.out.2.2.1.low hlow, Pr1.low ⟨hxj, hblj⟩ hlow⟩
          have HSN : Hid (kids1 (p.l.take (j + 1)) = kids1 (p.l.take j) ++ (if X.l.length = 0 then [] else [X])) := by
            have := kids1_snoc p.l j hlt
            rw [HXY.out] at this
            exact this
          clear hp1 hb1 ea hX hxj hblj hXe hbw HQ
          obtain ⟨OX, hOX⟩ : ∃ O, O = Obj.cells #[.int .i64 X.k, .int .i64 X.n, .int .i64 X.t.k, .slice X.t.a X.t.l.length X.t.c, .int .i64 X.f.k, .slice X.f.a X.f.l.length X.f.c, .slice X.a X.l.length X.c] 27 := ⟨_, rfl⟩
          by_cases hz : X.l.length = 0
          · have i8 : ¬ (0 : Int) < (X.l.length : Int) := by omega
            have HN : Hid (Stk1 B v (us ++ kids1 (p.l.take (j + 1))) (wr.alloc OX) ∧ Below w.heap.size w (wr.alloc OX) ∧ Pr1 B (wr.alloc OX) p ∧ B ≤ (wr.alloc OX).heap.size) := by
              show _ ∧ _
              rw [HSN.out, if_pos hz, List.append_nil]
              exact ⟨(HW2.out _).1, (HW2.out _).2.1, (HW2.out _).2.2.1, by simp; omega⟩
            subst hOX
            clear hz HW2
            go_wp2_with fail
            rw [← HEA.out]
            go_roundg (p.l.length - (j + 1))
            case measure => have := HJ.out; omega
            case rel => exact ⟨j + 1, _, by have := HJ.out; omega, by go_num, rfl, HN⟩
          · have i8 : (0 : Int) < (X.l.length : Int) := by omega
            obtain ⟨N, hN⟩ : ∃ N, (us ++ kids1 (p.l.take j)).length = N := ⟨_, rfl⟩
            obtain ⟨xs, hxs⟩ : ∃ xs, cells1 (us ++ kids1 (p.l.take j)) = xs := ⟨_, rfl⟩
            have hNb : N ≤ 1000001 := by
              have h1 := Stk1.len (ps := us ++ kids1 (p.l.take j))
              have h2 := kids1_mass (p.l.take j)
              have h3 := sum_take_le TT.sz p.l j
              have h4 := p.sz_eq
              have h5 := HM.out.2.1
              have h6 : mass1 (us ++ kids1 (p.l.take j)) = mass1 us + mass1 (kids1 (p.l.take j)) := by simp [mass1]
              omega
            have uo : (wr.alloc OX).ownsRow B 25 1 v N xs := by rw [← hN, ← hxs]; exact (HW2.out _).1.own
            have hnew := heap_alloc_new (wr.alloc OX) (.cells #[.slice X.a X.l.length X.c] 25)
            simp only [World.size_alloc] at hnew
            have HNX : Hid ((us ++ kids1 (p.l.take j)).length = N ∧ cells1 (us ++ kids1 (p.l.take j)) = xs) := ⟨hN, hxs⟩
            have HZ : Hid (X.l.length ≠ 0) := hz
            have HWX : Hid (Stk1 B v (us ++ kids1 (p.l.take j)) (wr.alloc OX) ∧ Below w.heap.size w (wr.alloc OX) ∧ Pr1 B (wr.alloc OX) p ∧ Pr1 B (wr.alloc OX) X) := HW2.out _
            subst hOX
            clear hN hxs hz HW2
            go_wp2_with (at_builtin; refine wpList_append_lies _ rfl _ _ _ rfl B 25 i0 _ 1 24 Tryd.underlying78 hi0 hz0 hz1 hz2 rfl (by omega) v N xs rfl (uo.alloc _) ⟨wr.heap.size + 1, 0, none⟩ 1 1 [.slice X.a X.l.length X.c] rfl rfl (World.news_of_block (cs := #[.slice X.a X.l.length X.c]) (t := 25) (fr := (0, 0)) hnew) (by simp [Value.oneCell']) (by omega) (by unfold maxLen; omega) (by omega) (by simp; omega) (wr.heap.size + 1 + 1) (by simp) ?_; intro gg cap1 w3 hown1 hgrow hat hlt3)
            have hov : ∀ q, v.ownBlock = some q → B ≤ q := fun q hq => (uo.lt q hq).1
            obtain ⟨OX, hOX⟩ : ∃ O, O = Obj.cells #[.int .i64 X.k, .int .i64 X.n, .int .i64 X.t.k, .slice X.t.a X.t.l.length X.t.c, .int .i64 X.f.k, .slice X.f.a X.f.l.length X.f.c, .slice X.a X.l.length X.c] 27 := ⟨_, rfl⟩
            rw [← hOX] at hgrow HWX
            have hlow : Below B (wr.alloc OX) w3 := by
              refine ⟨hgrow.os.trans rfl, hgrow.tape.trans rfl, hgrow.output.trans rfl, by have := hgrow.size; simp at this ⊢; omega, fun q hq => ?_⟩
              rw [hgrow.block q (by simp; omega) (fun e => by have := hov q e.symm; omega)]
              exact ((Below.refl _ (wr.alloc OX)).alloc (Nat.le_refl _) _).block q (by simp; omega)
            have HN : Hid (Stk1 B (.slice (some ⟨gg, 0, none⟩) (N + 1) cap1) (us ++ kids1 (p.l.take (j + 1))) w3 ∧ Below w.heap.size w w3 ∧ Pr1 B w3 p ∧ B ≤ w3.heap.size) := by
              show _ ∧ _
              rw [HSN.out, if_neg HZ.out, ← List.append_assoc]
              refine ⟨⟨?_, fun q hq => ?_⟩, HWX.out.2.1.trans (hlow.mono (by omega)), HWX.out.2.2.1.low hlow, by have := hlow.size; simp at this; omega⟩
              · have e : cells1 (us ++ kids1 (p.l.take j) ++ [X]) = cells1 (us ++ kids1 (p.l.take j)) ++ [.slice X.a X.l.length X.c] := by simp [cells1]
                rw [e, List.length_append, List.length_singleton, HNX.out.1, HNX.out.2]
                exact hown1
              · rcases List.mem_append.1 hq with hq | hq
                · exact (HWX.out.1.ins q hq).low hlow
                · rcases List.mem_singleton.1 hq with rfl
                  exact HWX.out.2.2.2.low hlow
            clear hown1 hgrow hat hlt3 hov hlow HWX uo hnew hOX
            go_wp2_with fail
            rw [← HEA.out]
            go_roundg (p.l.length - (j + 1))
            case measure => have := HJ.out; omega
            case rel => exact ⟨j + 1, _, by have := HJ.out; omega, by go_num, rfl, HN⟩
        · have HN : Hid (Stk1 B v (us ++ kids1 p.l) wr ∧ Below w.heap.size w wr ∧ mass1 (us ++ kids1 p.l) ≤ 1000000 ∧ c + p.l.length + pend (us ++ kids1 p.l) = S) := by
            have h1 := HQ.out.1
            rw [List.take_of_length_le (by omega)] at h1
            have h2 := kids1_mass p.l
            have h3 := kids1_pend p.l
            have h4 := p.sz_eq
            have h5 := HM.out.2
            have h6 : mass1 (us ++ kids1 p.l) = mass1 us + mass1 (kids1 p.l) := by simp [mass1]
            have h7 : pend (us ++ kids1 p.l) = pend us + pend (kids1 p.l) := by simp [pend]
            exact ⟨h1, HQ.out.2.1, by omega, by omega⟩
          clear HQ
          go_wp2_with fail
          go_roundg (mass1 (us ++ kids1 p.l))
          case measure =>
            have h2 := kids1_mass p.l
            have h4 := p.sz_eq
            have h5 := HM.out.1
            have h6 : mass1 (us ++ kids1 p.l) = mass1 us + mass1 (kids1 p.l) := by simp [mass1]
            omega
          case rel => exact ⟨_, _, c + p.l.length, rfl, by go_num, rfl, HN⟩
end Go.Proofs.YtnddkmccagiclaaDoor

/-
  What the calls of (*reader).readType and (*reader).readTypeInBrackets do: the type that the words tell, or something went wrong.
-/
namespace Go.Proofs.YtnddkmccagiclaaDoor
open Go.RowKit

/-- The state behind a step: the words left, or none and something went wrong. -/
def After (R : Nat) (b : Bool) (o : Option (List ByteArray)) (w' : World) : Prop := (∃ r, o = some r ∧ RS R r b w') ∨ (o = none ∧ RS R [] true w')

theorem want_any (R : Nat) (word : ByteArray) (hw : (⟨#[]⟩ : ByteArray) ≠ word) (ws : List ByteArray) (b : Bool) (w : World) (h : RS R ws b w) :
    Calls Tryd.prog 86 #[.pointer (some ⟨R, 0, none⟩), .string word] w fun e w' => e = .returned (.tuple #[]) ∧ After R b (behind word ws) w' ∧ Kept R none w w' := by
  cases ws with
  | nil =>
    refine (want_nil R word hw b w h).mono ?_
    rintro e w' ⟨rfl, hr, hk⟩
    exact ⟨rfl, .inr ⟨rfl, hr⟩, hk⟩
  | cons x r =>
    refine (want_walk R x word r b w h).mono ?_
    rintro e w' ⟨rfl, ⟨hx, hr⟩ | ⟨hx, hr⟩, hk⟩
    · exact ⟨rfl, .inl ⟨r, by simp [behind, hx], hr⟩, hk⟩
    · exact ⟨rfl, .inr ⟨by simp [behind, hx], hr⟩, hk⟩

/-- What the call leaves: a tree, and the state. -/
def TyPost (R : Nat) (b : Bool) (o : Option (Ty × List ByteArray)) (w : World) (e : Ending) (w' : World) : Prop :=
  ∃ t : Tr, e = .returned (.agg #[.int .i64 t.k, .slice t.a t.l.length t.c]) ∧ t.In w' ∧ t.Bl (w.heap.size ≤ ·) ∧ Kept R none w w' ∧ After R b (o.map (·.2)) w' ∧ ∀ p, o = some p → t.ty = p.1

theorem set_two {k : Nat} {w : World} {u v u' v' : Value} (h0 : w.cell? ⟨k, 0, none⟩ = some u') (h1 : w.cell? ⟨k, 1, none⟩ = some v') :
    ((w.setCell ⟨k, 0, none⟩ u).setCell ⟨k, 1, none⟩ v).cell? ⟨k, 0, none⟩ = some u ∧ ((w.setCell ⟨k, 0, none⟩ u).setCell ⟨k, 1, none⟩ v).cell? ⟨k, 1, none⟩ = some v := by
  constructor
  · rw [World.cell?_setCell_other _ _ _ _ (by simp)]
    exact World.cell?_setCell_same _ _ _ h0
  · refine World.cell?_setCell_same _ _ _ (u := v') ?_
    rw [World.cell?_setCell_other _ _ _ _ (by simp)]
    exact h1

theorem kept_set2 {R k : Nat} {w w' : World} {u v : Value} (h : Kept R none w w') (hk : w.heap.size ≤ k) : Kept R none w ((w'.setCell ⟨k, 0, none⟩ u).setCell ⟨k, 1, none⟩ v) :=
  ⟨h.os, h.tape, h.output, by have := h.size; simpa [World.setCell] using this, fun q hq h1 h2 => by
    have hn : q ≠ k := by omega
    rw [Below.heap_setCell _ _ _ _ hn, Below.heap_setCell _ _ _ _ hn]
    exact h.block q hq h1 h2⟩

set_option maxRecDepth 20000 in
set_option maxHeartbeats 1000000 in
/-- (*reader).readType at a word that opens no brackets. -/
theorem readType_word (R n : Nat) (x : ByteArray) (r : List ByteArray) (hx : x ≠ opB) (b : Bool) (w : World) (hg : Gl w) (hR : 10 ≤ R) (h : RS R (x :: r) b w) :
    Calls Tryd.prog 85 #[.pointer (some ⟨R, 0, none⟩)] w (TyPost R b (readTy (n + 1) (x :: r)) w) := by
  have hb0 : Below w.heap.size w (w.alloc (.cells #[.int .i64 0, .slice none 0 0] 24)) := (Below.refl _ _).alloc (Nat.le_refl _) _
  have HN : Hid (Calls Tryd.prog 57 #[.pointer (some ⟨R, 0, none⟩)] (w.alloc (.cells #[.int .i64 0, .slice none 0 0] 24)) fun e w' => e = .returned (.string x) ∧ RS R r b w' ∧ Kept R none (w.alloc (.cells #[.int .i64 0, .slice none 0 0] 24)) w') := next_cons R x r b _ (h.below hb0)
  have hRl := h.lt
  have hq : (x.toList == [40]) = false := by
    have := (Lib.bytes_beq_false_iff x opB).2 hx
    rw [opB, Lib.toList_data ⟨#[40]⟩] at this
    exact this
  have HG : Hid (Gl (w.alloc (.cells #[.int .i64 0, .slice none 0 0] 24))) := hg.below hb0
  have HX : Hid (readTy (n + 1) (x :: r) = (atWord x typeWs 0).map fun (k : Nat) => (Ty.mk (k : Int) [], r)) := by
    have e : readTy (n + 1) (x :: r) = if x = opB then (behind toB r).bind fun r1 => (readTy n r1).bind fun p => (readTy n p.2).bind fun q => (behind clB q.2).map fun r4 => (⟨3, [p.1, q.1]⟩, r4) else (atWord x typeWs 0).map fun (k : Nat) => (Ty.mk (k : Int) [], r) := rfl
    exact e.trans (if_neg hx)
  clear h hx hg
  go_enter Tryd.func85, Tryd.ntmps85
  go_wp2_with fail
  refine HN.out.mono ?_
  rintro e w1 ⟨rfl, hr, hk⟩
  have z0 : w1.cell? ⟨w.heap.size, 0, none⟩ = some (.int .i64 0) := hk.cell (by simp [go_sem]) (by omega)
  have z1 : w1.cell? ⟨w.heap.size, 1, none⟩ = some (.slice none 0 0) := hk.cell (by simp [go_sem]) (by omega)
  have hzb := hk.block w.heap.size (by simp) (by omega) (by simp)
  have z2 : w1.frozen? ⟨w.heap.size, 0, none⟩ = false := (World.frozen?_of_block (a := ⟨w.heap.size, 0, none⟩) hzb).trans (by simp [go_sem])
  have z3 : w1.frozen? ⟨w.heap.size, 1, none⟩ = false := (World.frozen?_of_block (a := ⟨w.heap.size, 1, none⟩) hzb).trans (by simp [go_sem])
  have HG1 : Hid (Gl w1) := HG.out.kept hR hk
  have HK : Hid (Kept R none w w1) := (Kept.of_below hb0).trans hk
  have HR : Hid (RS R r b w1) := hr
  have hs1 : w.heap.size < w1.heap.size := World.block_lt_of_cell? _ _ z0
  clear hk hr hzb HN HG
  cases ha : atWord x typeWs 0 with
  | none =>
    have HT : Hid (Calls Tryd.prog 106 #[.string x] w1 fun e w' => e = .returned (.tuple #[.int .i64 0, .bool false]) ∧ w' = w1) := by
      have := typeKindOf_any x w1 HG1.out
      rw [ha] at this
      exact this
    have HO : Hid (readTy (n + 1) (x :: r) = none) := by show _ = _; rw [HX.out, ha]; rfl
    have HF : Hid (Calls Tryd.prog 83 #[.pointer (some ⟨R, 0, none⟩)] w1 fun e w' => e = .returned (.tuple #[]) ∧ RS R [] true w' ∧ Kept R none w1 w') := fail_any R r b w1 HR.out
    clear ha HX HG1
    go_wp2_with fail
    refine HT.out.mono ?_
    rintro e w2 ⟨rfl, rfl⟩
    go_wp2_with fail
    refine HF.out.mono ?_
    rintro e w3 ⟨rfl, hr3, hk3⟩
    have hne : w.heap.size ≠ R := by omega
    have y0 := hk3.cell z0 hne
    have y1 := hk3.cell z1 hne
    have hyb := hk3.block w.heap.size hs1 hne (by simp)
    have y2 := (World.frozen?_of_block (a := ⟨w.heap.size, 0, none⟩) hyb).trans z2
    have y3 := (World.frozen?_of_block (a := ⟨w.heap.size, 1, none⟩) hyb).trans z3
    have HR3 : Hid (RS R [] true w3 ∧ Kept R none w w3) := ⟨hr3, HK.out.trans hk3⟩
    clear hr3 hk3 hyb z0 z1 z2 z3 HF HT HR HK
    go_wp2_with fail
    refine bodyPost_ret (v := .agg #[.int .i64 0, .slice none 0 0]) ?_ rfl ⟨leaf 0, rfl, leaf_in _ _, leaf_bl _ _, ?_, ?_, ?_⟩
    · have hc := set_two (u := .int .i64 0) (v := .slice none 0 0) y0 y1
      simp [results, Tryd.results85, go_sem, hc.1, hc.2]
    · exact kept_set2 HR3.out.2 (Nat.le_refl _)
    · exact .inr ⟨by rw [HO.out]; rfl, HR3.out.1.set2 (by omega)⟩
    · intro p hp; rw [HO.out] at hp; cases hp
  | some k =>
    have HT : Hid (Calls Tryd.prog 106 #[.string x] w1 fun e w' => e = .returned (.tuple #[.int .i64 (k : Int), .bool true]) ∧ w' = w1) := by
      have := typeKindOf_any x w1 HG1.out
      rw [ha] at this
      exact this
    have HO : Hid (readTy (n + 1) (x :: r) = some (⟨(k : Int), []⟩, r)) := by show _ = _; rw [HX.out, ha]; rfl
    clear ha HX HG1
    go_wp2_with fail
    refine HT.out.mono ?_
    rintro e w2 ⟨rfl, rfl⟩
    go_wp2_with fail
    refine bodyPost_ret (v := .agg #[.int .i64 (k : Int), .slice none 0 0]) ?_ rfl ⟨leaf (k : Int), rfl, leaf_in _ _, leaf_bl _ _, ?_, ?_, ?_⟩
    · have hc := set_two (u := .int .i64 (k : Int)) (v := .slice none 0 0) z0 z1
      simp [results, Tryd.results85, go_sem, hc.1, hc.2]
    · exact kept_set2 HK.out (Nat.le_refl _)
    · exact .inl ⟨r, by rw [HO.out]; rfl, HR.out.set2 (by omega)⟩
    · intro p hp; rw [HO.out] at hp; cases hp; simp [leaf, Tr.ty_mk]
end Go.Proofs.YtnddkmccagiclaaDoor
