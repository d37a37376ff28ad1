/-
  What the call of ref's typeOf answers at every good term.
-/
import Derived.Test.YtnddkmccagiclabGreatDoorLot6d42411bf7
import Derived.Test.YtnddkmccagiclabGreatDoorLotd76c694fc3
import Derived.Test.YtnddkmccagiclabGreatDoorLotfef4768764
import Derived.Maps.OwnOps
import Derived.WalkKit
import Derived.Test.YtnddkmccagiclabGreatDoorLoted756f28d3
import Derived.Test.YtnddkmccagiclabGreatDoorLot6af9432580
import Derived.Test.YtnddkmccagiclabGreatDoorLot198e6357ab
import Derived.Test.YtnddkmccagiclabGreatDoorLotdf4e4ec170
namespace Go.Proofs.YtnddkmccagiclabGreatDoor
open Go.RowKit
/-- typeOf. -/
theorem type_any (m : Nat) : ∀ (x : TT), x.sz ≤ m → ∀ (Q : Nat → Prop) (E : Tr) (w : World), x.In w → E.In w → okTm x.tm E.l.length → (∀ u, u ∈ E.l → goodT 4 u = true) → x.sz + E.l.length ≤ 900 → x.Bl Q → E.Bl Q → (∀ b, w.heap.size ≤ b → Q b) →
    Calls Tryz.prog 57 #[.agg #[.int .i64 x.k, .int .i64 x.n, .int .i64 x.t.k, .slice x.t.a x.t.l.length x.t.c, .int .i64 x.f.k, .slice x.f.a x.f.l.length x.f.c, .slice x.a x.l.length x.c], .slice E.a E.l.length E.c] w (TyPost Q (typeS x.tm (E.l.map Tr.ty)) w) := by
  induction m with
  | zero =>
    intro x h
    have := x.sz_pos
    omega
  | succ m ih =>
    intro x hm Q E w hx hE hok hEg hsz xb eb nw
    refine type_step Q x E w hx hE hok hEg hsz xb eb nw fun y hy => ih y ?_
    have h1 := x.sz_eq
    have e : y.tm.sz ≤ ((x.l.map TT.tm).map Tm.sz).sum := sz_mem _ _ (List.mem_map.2 ⟨_, hy, rfl⟩)
    have e2 : (x.l.map TT.tm).map Tm.sz = x.l.map TT.sz := by rw [List.map_map]; exact List.map_congr_left fun z _ => z.sz_tm.symm
    rw [e2, ← TT.sz_tm] at e
    omega
end Go.Proofs.YtnddkmccagiclabGreatDoor

/-
  What the call of chaperoneref.IsType answers at a tree that lies in memory.
-/
namespace Go.Proofs.YtnddkmccagiclabGreatDoor
open Go.RowKit
theorem good_right : ∀ (n : Nat) (t : Tr), goodT n t = (rightY t.ty && decide (t.hgt ≤ n))
  | 0, t => by
    have := t.hgt_pos
    have e : decide (t.hgt ≤ 0) = false := by simp; omega
    rw [e]
    simp [goodT]
  | n + 1, ⟨k, a, c, l⟩ => by
    rw [right_ty, hgt_most]
    match l with
    | [] =>
      have e : (k == 0 || k == 1 || k == 2) = (decide (0 ≤ k) && decide (k ≤ 2)) := by
        rw [Bool.eq_iff_iff]; simp; omega
      simp [goodT, topR, most, e]
    | [x] => simp [goodT, topR]
    | [x, y] =>
      have h1 := good_right n x
      have h2 := good_right n y
      have e : decide (most [x, y] + 1 ≤ n + 1) = (decide (x.hgt ≤ n) && decide (y.hgt ≤ n)) := by
        rw [Bool.eq_iff_iff]
        simp [most]
        omega
      simp only [goodT, h1, h2, e, topR, List.all_cons, List.all_nil, List.length_cons, List.length_nil]
      cases k == 3 <;> cases rightY x.ty <;> cases rightY y.ty <;> cases decide (x.hgt ≤ n) <;> simp
    | x :: y :: z :: r =>
      have e1 : (((x :: y :: z :: r).length : Int) == 0) = false := by simp; omega
      have e2 : (((x :: y :: z :: r).length : Int) == 2) = false := by simp; omega
      have e3 : topR k (x :: y :: z :: r).length = false := by unfold topR; rw [e1, e2]; simp
      simp only [goodT, e3, Bool.false_and]
set_option maxHeartbeats 400000 in
/-- chaperoneref.IsType. -/
theorem isType_any (n : Nat) (hn : n ≤ 1000000000) (x : Tr) (w : World) (hx : x.In w) (hh : x.hgt ≤ n) (hs : x.sm) :
    Calls Tryz.prog 99 #[.agg #[.int .i64 x.k, .slice x.a x.l.length x.c]] w fun e w' => e = .returned (.bool (goodT 4 x)) ∧ Below w.heap.size w w' := by
  have hg := good_right 4 x
  have hb0 : Below w.heap.size w (w.alloc (.cells #[.int .i64 x.k, .slice x.a x.l.length x.c] 24)) := (Below.refl _ _).alloc (Nat.le_refl _) _
  obtain ⟨r, hr⟩ : ∃ r, rightY x.ty = r := ⟨_, rfl⟩
  have G1 : Hid (∀ W, x.In W → Calls Tryz.prog 133 #[.agg #[.int .i64 x.k, .slice x.a x.l.length x.c]] W fun e w' => e = .returned (.bool r) ∧ Below W.heap.size W w') := fun W h => hr ▸ isRight_any n x W h hh hs
  have G2 : Hid (∀ W, x.In W → Calls Tryz.prog 134 #[.agg #[.int .i64 x.k, .slice x.a x.l.length x.c]] W fun e w' => e = .returned (.int .i64 (x.hgt : Int)) ∧ Below W.heap.size W w') := fun W h => deepOf_any n hn x W h hh hs
  have HG : Hid (goodT 4 x = (r && decide (x.hgt ≤ 4))) := by show _ = _; rw [hg, hr]
  clear hg hr hh hs
  cases r
  · go_enter Tryz.func99, Tryz.ntmps99
    go_wp2_with fail
    refine (G1.out _ (hx.below hb0)).mono ?_
    rintro e w1 ⟨rfl, h1⟩
    have hb1 := hb0.trans (h1.mono hb0.size)
    clear h1 hb0
    go_wp2_with fail
    go_ret
    exact ⟨by rw [HG.out]; rfl, hb1⟩
  · go_enter Tryz.func99, Tryz.ntmps99
    go_wp2_with fail
    refine (G1.out _ (hx.below hb0)).mono ?_
    rintro e w1 ⟨rfl, h1⟩
    have hb1 := hb0.trans (h1.mono hb0.size)
    have p0 : w1.cell? ⟨w.heap.size, 0, none⟩ = some (.int .i64 x.k) := cell_later h1 (by simp [go_sem])
    have p1 : w1.cell? ⟨w.heap.size, 1, none⟩ = some (.slice x.a x.l.length x.c) := cell_later h1 (by simp [go_sem])
    clear h1 hb0
    go_wp2_with fail
    refine (G2.out _ (hx.below hb1)).mono ?_
    rintro e w2 ⟨rfl, h2⟩
    have hb2 := hb1.trans (h2.mono hb1.size)
    have HE : Hid (goodT 4 x = decide ((x.hgt : Int) < 5)) := by
      show _ = _
      rw [HG.out, Bool.true_and, Bool.eq_iff_iff]; simp; omega
    clear h2 hb1 HG
    go_wp2_with fail
    go_ret
    exact ⟨by rw [HE.out]; rfl, hb2⟩
end Go.Proofs.YtnddkmccagiclabGreatDoor

/-
  What the call of ref's parts answers: a map that the call makes.
-/
namespace Go.Proofs.YtnddkmccagiclabGreatDoor
open Go.RowKit Go.Maps
theorem law3 : Keyed Tryz.prog 3 := int_keyed Tryz.underlying3
theorem zero3 (w : World) : (zeroValue 3).run Tryz.prog w = .ok (.int .i64 0) w := by kernel_rfl
/-- A key of a map's literal. -/
theorem put_key {b n : Nat} {D : DataW Unit} {w : World} (hown : w.ownsMap Tryz.prog 3 (plainElem Tryz.prog 3) b n D) (hn : n < 100) (k v : Int) (hk : (Lit.int .i64 k).wf = true) (hv : (Lit.int .i64 v).wf = true) :
    ∃ w', (Instr.mapUpdate 183 (.map (some b)) (.int .i64 k) (.int .i64 v)).run Tryz.prog w = .ok () w' ∧ w'.ownsMap Tryz.prog 3 (plainElem (H := Unit) Tryz.prog 3) b (n + 1) (D.put (.int .i64 k) (.lit (.int .i64 v))) ∧ w.grownBy w' (some b) :=
  hown.update law3 Tryz.underlying183 (by unfold maxLen; omega) (keyOf_int_mk Tryz.underlying3 hk) (plainElem_int Tryz.underlying3 hv)
/-- What the table tells. -/
theorem parts_at (k : Int) : DataW.atKey ((((((((((DataW.map (H := Unit) []).put (.int .i64 1) (.lit (.int .i64 0))).put (.int .i64 2) (.lit (.int .i64 0))).put (.int .i64 3) (.lit (.int .i64 0))).put (.int .i64 4) (.lit (.int .i64 2))).put (.int .i64 5) (.lit (.int .i64 2))).put (.int .i64 6) (.lit (.int .i64 3))).put (.int .i64 7) (.lit (.int .i64 1))).put (.int .i64 8) (.lit (.int .i64 2))).put (.int .i64 9) (.lit (.int .i64 1))) (.int .i64 k) (.lit (.int .i64 0)) = .lit (.int .i64 (partsOf k : Int)) := by
  have e : ((((((((((DataW.map (H := Unit) []).put (.int .i64 1) (.lit (.int .i64 0))).put (.int .i64 2) (.lit (.int .i64 0))).put (.int .i64 3) (.lit (.int .i64 0))).put (.int .i64 4) (.lit (.int .i64 2))).put (.int .i64 5) (.lit (.int .i64 2))).put (.int .i64 6) (.lit (.int .i64 3))).put (.int .i64 7) (.lit (.int .i64 1))).put (.int .i64 8) (.lit (.int .i64 2))).put (.int .i64 9) (.lit (.int .i64 1))) = DataW.map (H := Unit) [(.int .i64 1, .lit (.int .i64 0)), (.int .i64 2, .lit (.int .i64 0)), (.int .i64 3, .lit (.int .i64 0)), (.int .i64 4, .lit (.int .i64 2)), (.int .i64 5, .lit (.int .i64 2)), (.int .i64 6, .lit (.int .i64 3)), (.int .i64 7, .lit (.int .i64 1)), (.int .i64 8, .lit (.int .i64 2)), (.int .i64 9, .lit (.int .i64 1))] := by rfl
  rw [e]
  by_cases hk : 1 ≤ k ∧ k ≤ 9
  · have : k = 1 ∨ k = 2 ∨ k = 3 ∨ k = 4 ∨ k = 5 ∨ k = 6 ∨ k = 7 ∨ k = 8 ∨ k = 9 := by omega
    rcases this with rfl | rfl | rfl | rfl | rfl | rfl | rfl | rfl | rfl <;> rfl
  · have hp : partsOf k = 0 := by unfold partsOf; rw [if_neg (by omega), if_neg (by omega), if_neg (by omega)]
    have hn : ∀ j : Int, 1 ≤ j → j ≤ 9 → (Lit.int .i64 j).sameKey (.int .i64 k) = false := fun j h1 h2 => by
      simp only [Lit.sameKey, decide_eq_false_iff_not]
      intro h
      omega
    rw [hp]
    simp [DataW.atKey, List.find?, hn]
set_option maxRecDepth 20000 in
set_option maxHeartbeats 400000 in
theorem parts_any (k : Int) (hk : (Lit.int .i64 k).wf = true) (w : World) : Calls Tryz.prog 98 #[.int .i64 k] w fun e w' => e = .returned (.int .i64 (partsOf k : Int)) ∧ Below w.heap.size w w' := by
  have hmm := @run_makeMap Tryz.prog
  go_enter Tryz.func98, Tryz.ntmps98
  go_wp2_with fail
  obtain ⟨w1, r1, o1, g1⟩ := put_key (World.ownsMap_made w Tryz.prog 3 (plainElem (H := Unit) Tryz.prog 3)) (by omega) 1 0 (by decide) (by decide)
  rw [r1]
  clear r1
  go_wp2_with fail
  obtain ⟨w2, r2, o2, g2⟩ := put_key o1 (by omega) 2 0 (by decide) (by decide)
  rw [r2]
  clear r2
  go_wp2_with fail
  obtain ⟨w3, r3, o3, g3⟩ := put_key o2 (by omega) 3 0 (by decide) (by decide)
  rw [r3]
  clear r3
  go_wp2_with fail
  obtain ⟨w4, r4, o4, g4⟩ := put_key o3 (by omega) 4 2 (by decide) (by decide)
  rw [r4]
  clear r4
  go_wp2_with fail
  obtain ⟨w5, r5, o5, g5⟩ := put_key o4 (by omega) 5 2 (by decide) (by decide)
  rw [r5]
  clear r5
  go_wp2_with fail
  obtain ⟨w6, r6, o6, g6⟩ := put_key o5 (by omega) 6 3 (by decide) (by decide)
  rw [r6]
  clear r6
  go_wp2_with fail
  obtain ⟨w7, r7, o7, g7⟩ := put_key o6 (by omega) 7 1 (by decide) (by decide)
  rw [r7]
  clear r7
  go_wp2_with fail
  obtain ⟨w8, r8, o8, g8⟩ := put_key o7 (by omega) 8 2 (by decide) (by decide)
  rw [r8]
  clear r8
  go_wp2_with fail
  obtain ⟨w9, r9, o9, g9⟩ := put_key o8 (by omega) 9 1 (by decide) (by decide)
  rw [r9]
  clear r9
  go_wp2_with fail
  obtain ⟨c, hrun, hat, _⟩ := o9.lookup_int law3 Tryz.underlying183 Tryz.underlying3 (zero3 _) (keyOf_int_mk Tryz.underlying3 hk)
  rw [parts_at] at hat
  have hB : Below w.heap.size w w9 := by
    have h0 : Below w.heap.size w (w.alloc (.map #[] 0)) := (Below.refl _ _).alloc (Nat.le_refl _) _
    have st : ∀ {u u' : World}, Below w.heap.size w u → u.grownBy u' (some w.heap.size) → Below w.heap.size w u' := fun h g => h.grown g h.size (fun j hj => by cases hj; exact Nat.le_refl _)
    exact st (st (st (st (st (st (st (st (st h0 g1) g2) g3) g4) g5) g6) g7) g8) g9
  have HB : Hid (Below w.heap.size w w9) := hB
  have HC : Hid (c = (partsOf k : Int)) := by
    have : DataW.lit (H := Unit) (.int .i64 (partsOf k : Int)) = .lit (.int .i64 c) := hat
    cases this
    exact rfl
  clear hat hB o1 o2 o3 o4 o5 o6 o7 o8 o9 g1 g2 g3 g4 g5 g6 g7 g8 g9
  rw [hrun]
  clear hrun
  go_wp2_with fail
  go_ret
  exact ⟨by rw [HC.out]; rfl, HB.out⟩
end Go.Proofs.YtnddkmccagiclabGreatDoor

/-
  What the call of term.Nodes answers.
-/
namespace Go.Proofs.YtnddkmccagiclabGreatDoor
open Go.RowKit
def cells1 (ps : List TT) : List Value := ps.map fun p => .slice p.a p.l.length p.c
def mass1 (ps : List TT) : Nat := (ps.map TT.sz).sum
def Pr1 (B : Nat) (w : World) (p : TT) : Prop := p.In w ∧ p.Bl (· < B)
theorem Pr1.low {B : Nat} {w w' : World} {p : TT} (h : Pr1 B w p) (hb : Below B w w') : Pr1 B w' p :=
  ⟨h.1.congr (P := (· < B)) (fun b hb' o => hb.cell (p := ⟨b, o, none⟩) hb') h.2, h.2⟩
structure Stk1 (B : Nat) (v : Value) (ps : List TT) (w : World) : Prop where
  own : w.ownsRow B 25 1 v ps.length (cells1 ps)
  ins : ∀ p, p ∈ ps → Pr1 B w p
theorem Stk1.len {ps : List TT} : ps.length ≤ mass1 ps := by
  induction ps with
  | nil => simp
  | cons p r ih => have := p.sz_pos; simp only [mass1, List.map_cons, List.sum_cons, List.length_cons] at ih ⊢; omega
theorem len_sum : ∀ l : List TT, l.length ≤ (l.map TT.sz).sum
  | [] => by simp
  | u :: r => by have := u.sz_pos; have := len_sum r; simp only [List.length_cons, List.map_cons, List.sum_cons]; omega
end Go.Proofs.YtnddkmccagiclabGreatDoor

/-
  What the call of ref's NodesOf answers.
-/
namespace Go.Proofs.YtnddkmccagiclabGreatDoor
open Go.RowKit
theorem cells7_len (l : List TT) : (cells7 l).length = l.length * 7 := by
  induction l with
  | nil => rfl
  | cons a r ih => simp [cells7] at ih ⊢; omega
theorem cells7_one : ∀ (l : List TT) (u : Value), u ∈ cells7 l → u.oneCell' = true
  | [], u, h => by simp [cells7] at h
  | y :: r, u, h => by
    have e : cells7 (y :: r) = cells7 [y] ++ cells7 r := by simp [cells7]
    rw [e] at h
    rcases List.mem_append.1 h with h | h
    · simp [cells7] at h
      rcases h with rfl | rfl | rfl | rfl | rfl | rfl | rfl <;> rfl
    · exact cells7_one r u h
/-- The cells of a term's parts, one behind the other. -/
theorem parts_cells {w : World} {x : TT} (h : x.In w) {b o : Nat} (ha : x.a = some ⟨b, o, none⟩) : ∀ j u, (cells7 x.l)[j]? = some u → w.cell? ((⟨b, o, none⟩ : Addr).add j) = some u := by
  intro j u hj
  have hlt : j < (cells7 x.l).length := (List.getElem?_eq_some_iff.1 hj).1
  rw [cells7_len] at hlt
  have hq : j / 7 < x.l.length := by omega
  obtain ⟨b', o', ea, h7, _⟩ := h.part (j / 7) hq
  rw [ha] at ea
  cases ea
  have e := cells7_at x.l (j / 7) hq (j % 7) (by omega)
  rw [show j / 7 * 7 + j % 7 = j by omega, hj] at e
  have hr : j % 7 = 0 ∨ j % 7 = 1 ∨ j % 7 = 2 ∨ j % 7 = 3 ∨ j % 7 = 4 ∨ j % 7 = 5 ∨ j % 7 = 6 := by omega
  obtain ⟨a0, a1, a2, a3, a4, a5, a6⟩ := h7
  have ad : ∀ i, j % 7 = i → ((⟨b, o, none⟩ : Addr).add j) = ⟨b, o + j / 7 * 7 + i, none⟩ := fun i hi => by
    have : o + j = o + j / 7 * 7 + i := by omega
    simp [Addr.add, this]
    intro h
    omega
  rcases hr with hr | hr | hr | hr | hr | hr | hr
  all_goals
    rw [hr] at e
    simp at e
    rw [ad _ hr, e]
    assumption
structure StkN (B : Nat) (v : Value) (ps : List TT) (w : World) : Prop where
  own : w.ownsRow B 27 7 v ps.length (cells7 ps)
  ins : ∀ p, p ∈ ps → Pr1 B w p
set_option maxRecDepth 20000 in
set_option maxHeartbeats 4000000 in
/-- NodesOf. -/
theorem nodesOf_any (x : TT) (w : World) (hx : x.In w) (hsz : x.sz ≤ 2000000) :
    Calls Tryz.prog 60 #[.agg #[.int .i64 x.k, .int .i64 x.n, .int .i64 x.t.k, .slice x.t.a x.t.l.length x.t.c, .int .i64 x.f.k, .slice x.f.a x.f.l.length x.f.c, .slice x.a x.l.length x.c]] w fun e w' => e = .returned (.int .i64 (x.sz : Int)) ∧ Below w.heap.size w w' := by
  obtain ⟨i0, hi0, hz0, hz1, hz2⟩ := info_parts Tryz.info27c
  obtain ⟨OX, hOX⟩ : ∃ O, O = Obj.cells #[.int .i64 x.k, .int .i64 x.n, .int .i64 x.t.k, .slice x.t.a x.t.l.length x.t.c, .int .i64 x.f.k, .slice x.f.a x.f.l.length x.f.c, .slice x.a x.l.length x.c] 27 := ⟨_, rfl⟩
  have HL0 : Hid (∀ W, W = ((w.alloc OX).drew.alloc OX) ∨ W = ((w.alloc OX).alloc OX) ∨ W = ((w.alloc OX).alloc OX).drew → StkN (w.heap.size + 1) (.slice (some ⟨w.heap.size + 1, 0, none⟩) 1 1) [x] W ∧ Below w.heap.size w W) := by
    intro W hW
    have hb : Below w.heap.size w W := by
      rcases hW with rfl | rfl | rfl
      · exact (((Below.refl _ _).alloc (Nat.le_refl _) _).drew).alloc (by simp) _
      · exact ((Below.refl _ _).alloc (Nat.le_refl _) _).alloc (by simp) _
      · exact (((Below.refl _ _).alloc (Nat.le_refl _) _).alloc (by simp) _).drew
    have hh : W.heap[w.heap.size + 1]? = some OX := by
      rcases hW with rfl | rfl | rfl
      · have := heap_alloc_new ((w.alloc OX).drew) OX
        simpa using this
      · have := heap_alloc_new (w.alloc OX) OX
        simpa using this
      · have := heap_alloc_new (w.alloc OX) OX
        show ((w.alloc OX).alloc OX).heap[w.heap.size + 1]? = _
        simpa using this
    rw [hOX] at hh
    refine ⟨⟨⟨rfl, .inr ⟨_, 1, _, rfl, Nat.le_refl _, hh, Nat.le_refl _, by unfold maxLen; omega, rfl, rfl⟩⟩, fun p hp => ?_⟩, hb⟩
    rcases List.mem_singleton.1 hp with rfl
    exact ⟨hx.below hb, hx.bl.mono fun b h => by omega⟩
  obtain ⟨B, hB⟩ : ∃ B, w.heap.size + 1 = B := ⟨_, rfl⟩
  have hBw : w.heap.size < B := by omega
  obtain ⟨S, hS⟩ : ∃ S, x.sz = S := ⟨_, rfl⟩
  have hSb : S ≤ 2000000 := by omega
  have hm1 : mass1 [x] = S := by simp [mass1, hS]
  rw [hS]
  subst hOX
  clear hx hsz hS
  go_enter Tryz.func60, Tryz.ntmps60
  go_wp2_with fail
  go_region
  go_wp2_with fail
  go_loopg [3, 4] S (fun k cn v wr => ∃ (u : Value) (ps : List TT) (c : Nat), u = v ∧ cn = .int .i64 (c : Int) ∧ k = mass1 ps ∧ Hid (StkN B u ps wr ∧ Below w.heap.size w wr ∧ c + mass1 ps = S))
  case atStart =>
    refine ⟨_, [x], 0, rfl, rfl, hm1.symm, ?_⟩
    rw [← hB]
    first
      | exact ⟨(HL0.out _ (.inl rfl)).1, (HL0.out _ (.inl rfl)).2, by omega⟩
      | exact ⟨(HL0.out _ (.inr (.inl rfl))).1, (HL0.out _ (.inr (.inl rfl))).2, by omega⟩
      | exact ⟨(HL0.out _ (.inr (.inr rfl))).1, (HL0.out _ (.inr (.inr rfl))).2, by omega⟩
  case round =>
    obtain ⟨v, ps, c, hv, rfl, hk, HR⟩ := hrel
    subst hv
    have HK : Hid (gk = mass1 ps) := hk
    clear hk HL0 hB
    by_cases hne : ps = []
    · subst hne
      obtain ⟨a, c', rfl⟩ : ∃ a c, v = .slice a 0 c := by
        rcases HR.out.1.own.2 with ⟨rfl, _⟩ | ⟨g, cap, cur, rfl, _⟩
        · exact ⟨_, _, rfl⟩
        · exact ⟨_, _, rfl⟩
      have HF : Hid (Below w.heap.size w wr ∧ c = S) := ⟨HR.out.2.1, by have := HR.out.2.2; simpa [mass1] using this⟩
      clear HR HK
      go_wp2_with fail
      go_ret
      exact ⟨by rw [← HF.out.2]; rfl, HF.out.1⟩
    · obtain ⟨us, p, rfl⟩ : ∃ us p, ps = us ++ [p] := ⟨ps.dropLast, ps.getLast hne, (List.dropLast_concat_getLast hne).symm⟩
      have ho := HR.out.1.own
      have hlen : (us ++ [p]).length = us.length + 1 := by simp
      have h7l := cells7_len us
      rw [hlen] at ho
      obtain ⟨g, cap, rfl, hg, hgl⟩ := ho.form (by omega)
      have hc : ∀ i, i < 7 → wr.cell? ⟨g, us.length * 7 + i, none⟩ = (#[.int .i64 p.k, .int .i64 p.n, .int .i64 p.t.k, .slice p.t.a p.t.l.length p.t.c, .int .i64 p.f.k, .slice p.f.a p.f.l.length p.f.c, .slice p.a p.l.length p.c] : Array Value)[i]? := by
        intro i hi
        rw [ho.cellAt (us.length * 7 + i) (by omega)]
        have := cells7_at (us ++ [p]) us.length (by simp) i hi
        rw [this]
        simp
      have c0 : wr.cell? ⟨g, us.length * 7, none⟩ = some (.int .i64 p.k) := (hc 0 (by omega)).trans rfl
      have c1 : wr.cell? ⟨g, us.length * 7 + 1, none⟩ = some (.int .i64 p.n) := (hc 1 (by omega)).trans rfl
      have c2 : wr.cell? ⟨g, us.length * 7 + 2, none⟩ = some (.int .i64 p.t.k) := (hc 2 (by omega)).trans rfl
      have c3 : wr.cell? ⟨g, us.length * 7 + 3, none⟩ = some (.slice p.t.a p.t.l.length p.t.c) := (hc 3 (by omega)).trans rfl
      have c4 : wr.cell? ⟨g, us.length * 7 + 4, none⟩ = some (.int .i64 p.f.k) := (hc 4 (by omega)).trans rfl
      have c5 : wr.cell? ⟨g, us.length * 7 + 5, none⟩ = some (.slice p.f.a p.f.l.length p.f.c) := (hc 5 (by omega)).trans rfl
      have c6 : wr.cell? ⟨g, us.length * 7 + 6, none⟩ = some (.slice p.a p.l.length p.c) := (hc 6 (by omega)).trans rfl
      have hcap : us.length + 1 ≤ cap := by
        rcases ho.2 with ⟨h, _⟩ | ⟨g', cap', cur, h, _, _, h1, _⟩
        · cases h
        · cases h; exact h1
      have hop : wr.ownsRow B 27 7 (.slice (some ⟨g, 0, none⟩) us.length cap) us.length (cells7 us) := by
        rw [cells7_append] at ho
        exact ownsRow_pop h7l ho
      have hms : mass1 (us ++ [p]) = mass1 us + p.sz := by simp [mass1]
      have hml := HR.out.2.2
      have hus := Stk1.len (ps := us)
      have hps : p.sz = (p.l.map TT.sz).sum + 1 := p.sz_eq
      have hpl := len_sum p.l
      have i1 : (us.length : Int) < ((us.length : Int) + 1) := by omega
      have n1 : (us.length : Int) ≤ 2000000 := by omega
      have n2 : (us.length : Int) ≤ (cap : Int) := by omega
      have n3 : (0 : Int) ≤ (us.length : Int) := by omega
      have cb : (c : Int) ≤ 2000000 := by omega
      have hwr : IntKind.i64.wrap (us.length : Int) = (us.length : Int) := by rw [IntKind.wrap_i64]; omega
      have hpp := HR.out.1.ins p (by simp)
      have HT : Hid (∀ q, q ∈ us → Pr1 B wr q) := fun q hq => HR.out.1.ins q (by simp [hq])
      have hgne : g ≠ wr.heap.size := by omega
      have hbr := HR.out.2.1
      have hBr : B ≤ wr.heap.size := by have := hbr.size; omega
      have HM : Hid (gk = mass1 us + p.sz ∧ c + (mass1 us + p.sz) = S) := ⟨HK.out.trans hms, by rw [← hms]; exact hml⟩
      have HW : Hid (Below w.heap.size w wr) := hbr
      clear ho HR HK hms hml hne hlen hc hbr
      by_cases hl0 : p.l.length = 0
      · have hnil : p.l = [] := List.length_eq_zero_iff.1 hl0
        have hs1 : p.sz = 1 := by rw [hps, hnil]; rfl
        rw [hl0] at c6
        have HO : Hid (StkN B (.slice (some ⟨g, 0, none⟩) us.length cap) us (wr.alloc (.cells #[.int .i64 p.k, .int .i64 p.n, .int .i64 p.t.k, .slice p.t.a p.t.l.length p.t.c, .int .i64 p.f.k, .slice p.f.a p.f.l.length p.f.c, .slice p.a 0 p.c] 27)).drew ∧ Below w.heap.size w (wr.alloc (.cells #[.int .i64 p.k, .int .i64 p.n, .int .i64 p.t.k, .slice p.t.a p.t.l.length p.t.c, .int .i64 p.f.k, .slice p.f.a p.f.l.length p.f.c, .slice p.a 0 p.c] 27)).drew ∧ (c + 1) + mass1 us = S) := by
          refine ⟨⟨(hop.alloc _).drew, fun q hq => (HT.out q hq).low ((((Below.refl _ _).alloc hBr _)).drew)⟩, (HW.out.alloc HW.out.size _).drew, ?_⟩
          have := HM.out.2
          omega
        clear hpp HT HW hop
        go_wp2_with fail
        go_region_law ((refine step_append_void (by rfl) _ _ _ (by rfl) 27 i0 Tryz.underlying25 hi0 g us.length cap (by rfl) p.a p.c (by rfl) (by omega) ?_))
        go_wp2_with fail
        go_roundg (mass1 us)
        case measure => have := HM.out.1; omega
        case rel => exact ⟨_, us, c + 1, rfl, by go_num, rfl, HO⟩
      · obtain ⟨xb, xo, xa, _, _⟩ := hpp.1.part 0 (by omega)
        have hbb : Below wr.heap.size wr (wr.alloc (.cells #[.int .i64 p.k, .int .i64 p.n, .int .i64 p.t.k, .slice p.t.a p.t.l.length p.t.c, .int .i64 p.f.k, .slice p.f.a p.f.l.length p.f.c, .slice (some ⟨xb, xo, none⟩) p.l.length p.c] 27)).drew := ((Below.refl _ _).alloc (Nat.le_refl _) _).drew
        have HN : Hid (∀ j u, (cells7 p.l)[j]? = some u → (wr.alloc (.cells #[.int .i64 p.k, .int .i64 p.n, .int .i64 p.t.k, .slice p.t.a p.t.l.length p.t.c, .int .i64 p.f.k, .slice p.f.a p.f.l.length p.f.c, .slice (some ⟨xb, xo, none⟩) p.l.length p.c] 27)).drew.cell? ((⟨xb, xo, none⟩ : Addr).add j) = some u) := parts_cells (hpp.1.below hbb) xa
        have HP : Hid (Pr1 B wr p) := hpp
        rw [xa] at c6
        have hl1 : 0 < p.l.length := by omega
        have hsum : us.length + p.l.length ≤ 2000000 := by have := HM.out.2; omega
        clear hpp hbb
        go_wp2_with fail
        go_region_law
          ((refine step_append_lies _ (by rfl) _ _ _ (by rfl) B 27 i0 _ 7 104 Tryz.underlying25 hi0 hz0 hz1 hz2 rfl (by omega) (.slice (some ⟨g, 0, none⟩) us.length cap) us.length (cells7 us) (by rfl) ((hop.alloc _).drew)
              ⟨xb, xo, none⟩ p.l.length p.c (cells7 p.l) (by rfl) (cells7_len p.l) HN.out (cells7_one p.l)
              hl1 (by unfold maxLen; omega) (by omega) (by simp; omega) (wr.heap.size + 1) (by simp) ?_; intro gg cap1 w1 hown1 hgrow hat hlt))
        have hbg : Below B wr w1 := (((Below.refl _ _).alloc hBr _).drew).grown hgrow (by simp; omega) (fun k hk => by simp [Value.ownBlock] at hk; omega)
        have hma : mass1 (us ++ p.l) + 1 = mass1 us + p.sz := by
          rw [hps]
          simp only [mass1, List.map_append, List.sum_append_nat]
          omega
        have HO : Hid (StkN B (.slice (some ⟨gg, 0, none⟩) (us.length + p.l.length) cap1) (us ++ p.l) w1 ∧ Below w.heap.size w w1 ∧ (c + 1) + mass1 (us ++ p.l) = S) := by
          refine ⟨⟨?_, fun q hq => ?_⟩, HW.out.trans (hbg.mono (by omega)), ?_⟩
          · rw [cells7_append, List.length_append]
            exact hown1
          · rcases List.mem_append.1 hq with hq | hq
            · exact (HT.out q hq).low hbg
            · obtain ⟨j, hj, rfl⟩ := List.getElem_of_mem hq
              obtain ⟨_, _, _, _, hin⟩ := HP.out.1.part j hj
              exact (show Pr1 B wr p.l[j] from ⟨hin, HP.out.2.mem (List.getElem_mem hj)⟩).low hbg
          · have := HM.out.2
            omega
        have hmm : mass1 (us ++ p.l) < gk := by have := HM.out.1; omega
        clear hown1 hgrow hat hbg HT HW hop HN HP hma hlt
        go_wp2_with fail
        go_roundg (mass1 (us ++ p.l))
        case measure => exact hmm
        case rel => exact ⟨_, us ++ p.l, c + 1, rfl, by go_num, rfl, HO⟩
end Go.Proofs.YtnddkmccagiclabGreatDoor

/-
  The row of parts with their casts, while it grows; no run of the program in it.
-/
namespace Go.Proofs.YtnddkmccagiclabGreatDoor
open Go.RowKit
theorem RowT.blk {Q : Nat → Prop} {base : Nat} {v : Value} {cs : List TT} {w w' : World} (h : RowT Q base v cs w) (R : Nat) (hR : R < base) (hQ : ∀ b, Q b → b ≠ R) (hk : Kept R none w w') : RowT Q base v cs w' := by
  refine ⟨ownsRow_blk h.own fun k e => ?_, fun c hc => ⟨(h.ins c hc).1.keptR hk ((h.ins c hc).2.mono fun b hb => hQ b hb.1), (h.ins c hc).2⟩⟩
  have := h.own.lt k e
  exact hk.block k this.2 (by omega) (by simp)
/-- While the parts are cast: j of them. -/
structure CW (Q : Nat → Prop) (S : Nat) (x : TT) (V : World) (T : List Tm) (j : Nat) (v : Value) (cs : List TT) (wr : World) : Prop where
  row : RowT Q V.heap.size v cs wr
  tm : cs.map TT.tm = T.take j
  box : ∃ a c, v = .slice a cs.length c ∧ Box7 wr S ⟨x.k, x.n, x.t, x.f, a, c, cs⟩
  kp : Kept S none V wr
theorem CW.below {Q : Nat → Prop} {S j : Nat} {x : TT} {V wr w2 : World} {T : List Tm} {v : Value} {cs : List TT} (h : CW Q S x V T j v cs wr) (hb : Below wr.heap.size wr w2) : CW Q S x V T j v cs w2 := by
  refine ⟨h.row.below hb, h.tm, ?_, h.kp.trans (Kept.of_below hb)⟩
  obtain ⟨a, c, hv, hbx⟩ := h.box
  exact ⟨a, c, hv, hbx.below hb⟩
/-- One more. -/
theorem CW.step {Q : Nat → Prop} {S j gg cap1 : Nat} {x q : TT} {V wr w2 w3 : World} {T : List Tm} {v : Value} {cs : List TT} {X : Obj} (h : CW Q S x V T j v cs wr) (hS : S < V.heap.size) (hQ : ∀ b, Q b → b ≠ S) (hj : j < T.length) (hb : Below wr.heap.size wr w2) (ht : q.tm = T[j]) (hin : q.In w2) (hbl : q.Bl (fun b => Q b ∧ some b ≠ v.ownBlock))
    (hown : w3.ownsRow V.heap.size 27 7 (.slice (some ⟨gg, 0, none⟩) (cs.length + 1) cap1) (cs.length + 1) (cells7 cs ++ cells7 [q])) (hgrow : (w2.alloc X).grownBy w3 v.ownBlock) (hat : v.ownBlock = some gg ∨ gg = w2.heap.size + 1) :
    CW Q S x V T (j + 1) (.slice (some ⟨gg, 0, none⟩) (cs.length + 1) cap1) (cs ++ [q]) (w3.setCell ⟨S, 6, none⟩ (.slice (some ⟨gg, 0, none⟩) (cs.length + 1) cap1)) := by
  have hov := h.row.lt
  have hwr : S < wr.heap.size := Nat.lt_of_lt_of_le hS h.kp.size
  have s2 := hb.size
  have hno : some S ≠ v.ownBlock := fun e => by have := (hov S e.symm).1; omega
  obtain ⟨hr3, hblk⟩ := (h.row.below hb).step hin hbl hown hgrow hat
  refine ⟨hr3.blk S hS hQ setR_kept, ?_, ?_, ?_⟩
  · rw [List.take_succ_eq_append_getElem hj, List.map_append, h.tm]
    simp [ht]
  · obtain ⟨a, c0, hv, hbx⟩ := h.box
    refine ⟨some ⟨gg, 0, none⟩, cap1, ?_, ?_⟩
    · rw [List.length_append, List.length_singleton]
    · have := (hbx.blk ((hblk S (by omega) hno).trans (hb.block S hwr))).set6 (a' := some ⟨gg, 0, none⟩) (c' := cap1) (l' := cs ++ [q])
      rw [List.length_append, List.length_singleton] at this
      exact this
  · refine Kept.trans ?_ setR_kept
    have s3 := hgrow.size
    simp at s3
    have sv := h.kp.size
    refine ⟨?_, ?_, ?_, by omega, fun k hk hk2 _ => ?_⟩
    · rw [hgrow.os]; exact hb.os.trans h.kp.os
    · rw [hgrow.tape]; exact hb.tape.trans h.kp.tape
    · rw [hgrow.output]; exact hb.output.trans h.kp.output
    · have hne : some k ≠ v.ownBlock := fun e => by have := (hov k e.symm).1; omega
      exact (hblk k (by omega) hne).trans ((hb.block k (by omega)).trans (h.kp.block k hk hk2 (by simp)))
/-- The row as a term's list. -/
theorem RowT.tree {Q : Nat → Prop} {base : Nat} {v : Value} {cs : List TT} {w : World} (h : RowT Q base v cs w) (hQ : ∀ b, base ≤ b → Q b) {k n : Int} {t f : Tr} (ht : t.In w) (hf : f.In w) (bt : t.Bl Q) (bf : f.Bl Q) : ∃ a c, v = .slice a cs.length c ∧ (TT.mk k n t f a c cs).In w ∧ (TT.mk k n t f a c cs).Bl Q := by
  obtain ⟨a, c, hv, h1, h2⟩ := h.list
  refine ⟨a, c, hv, TT.In_mk.2 ⟨ht, hf, h1, fun y hy => (h.ins y hy).1⟩, TT.Bl_mk.2 ⟨bt, bf, fun hne y hy => hQ _ (h2 y hne hy), fun y hy => (h.ins y hy).2.mono fun b hb => hb.1⟩⟩
/-- A cast about a term: its box is written anew. -/
theorem castNode {Q : Nat → Prop} {U : World} {JB : Nat} {m : Int} {z : TT} {uw th : Tr} (hbx : Box7 U JB z) (hz : z.In U) (hzb : z.Bl (fun b => Q b ∧ b ≠ JB)) (hu : uw.In U) (ht : th.In U) (hub : uw.Bl (fun b => Q b ∧ b ≠ JB)) (htb : th.Bl (fun b => Q b ∧ b ≠ JB)) (hQ : Q U.heap.size) :
    Box7 (put7 (U.alloc (.cells #[.int .i64 z.k, .int .i64 z.n, .int .i64 z.t.k, .slice z.t.a z.t.l.length z.t.c, .int .i64 z.f.k, .slice z.f.a z.f.l.length z.f.c, .slice z.a z.l.length z.c] 27)) JB ⟨10, m, uw, th, some ⟨U.heap.size, 0, none⟩, 1, [z]⟩) JB (TT.mk 10 m uw th (some ⟨U.heap.size, 0, none⟩) 1 [z]) ∧ (TT.mk 10 m uw th (some ⟨U.heap.size, 0, none⟩) 1 [z]).In (put7 (U.alloc (.cells #[.int .i64 z.k, .int .i64 z.n, .int .i64 z.t.k, .slice z.t.a z.t.l.length z.t.c, .int .i64 z.f.k, .slice z.f.a z.f.l.length z.f.c, .slice z.a z.l.length z.c] 27)) JB ⟨10, m, uw, th, some ⟨U.heap.size, 0, none⟩, 1, [z]⟩) ∧ (TT.mk 10 m uw th (some ⟨U.heap.size, 0, none⟩) 1 [z]).Bl (fun b => Q b ∧ b ≠ JB) ∧ ∀ N, N ≤ JB → N ≤ U.heap.size → Below N U (put7 (U.alloc (.cells #[.int .i64 z.k, .int .i64 z.n, .int .i64 z.t.k, .slice z.t.a z.t.l.length z.t.c, .int .i64 z.f.k, .slice z.f.a z.f.l.length z.f.c, .slice z.a z.l.length z.c] 27)) JB ⟨10, m, uw, th, some ⟨U.heap.size, 0, none⟩, 1, [z]⟩) := by
  have hba : Below U.heap.size U (U.alloc (.cells #[.int .i64 z.k, .int .i64 z.n, .int .i64 z.t.k, .slice z.t.a z.t.l.length z.t.c, .int .i64 z.f.k, .slice z.f.a z.f.l.length z.f.c, .slice z.a z.l.length z.c] 27)) := (Below.refl _ _).alloc (Nat.le_refl _) _
  have hJ := hbx.lt
  have hk := put7_kept (w := U.alloc (.cells #[.int .i64 z.k, .int .i64 z.n, .int .i64 z.t.k, .slice z.t.a z.t.l.length z.t.c, .int .i64 z.f.k, .slice z.f.a z.f.l.length z.f.c, .slice z.a z.l.length z.c] 27)) (J := JB) (x := ⟨10, m, uw, th, some ⟨U.heap.size, 0, none⟩, 1, [z]⟩)
  have hqb : (TT.mk 10 m uw th (some ⟨U.heap.size, 0, none⟩) 1 [z]).Bl (fun b => Q b ∧ b ≠ JB) := by
    refine TT.Bl_mk.2 ⟨hub, htb, fun _ y hy => ?_, fun y hy => ?_⟩
    · cases hy
      exact ⟨hQ, by show U.heap.size ≠ JB; omega⟩
    · have : y = z := by simpa using hy
      subst this
      exact hzb
  have hqi : (TT.mk 10 m uw th (some ⟨U.heap.size, 0, none⟩) 1 [z]).In (U.alloc (.cells #[.int .i64 z.k, .int .i64 z.n, .int .i64 z.t.k, .slice z.t.a z.t.l.length z.t.c, .int .i64 z.f.k, .slice z.f.a z.f.l.length z.f.c, .slice z.a z.l.length z.c] 27)) := by
    refine TT.In_mk.2 ⟨hu.below hba, ht.below hba, fun i hi => ?_, fun y hy => ?_⟩
    · have : i = 0 := by simpa using hi
      subst this
      refine ⟨U.heap.size, 0, rfl, ?_⟩
      simp only [List.getElem_cons_zero]
      constructor <;> simp [go_sem]
    · have : y = z := by simpa using hy
      subst this
      exact hz.below hba
  refine ⟨put7_box (hbx.below hba), hqi.keptR hk (hqb.mono fun b hb => hb.2), hqb, fun N h1 h2 => ?_⟩
  exact (hba.mono h2).trans ((hk.below (by simp) (by simp; omega)).mono h1)
end Go.Proofs.YtnddkmccagiclabGreatDoor
