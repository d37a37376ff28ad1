/-
  What the calls of truthOf, typeKindOf, tellsType and isSpace answer.
-/
import Derived.Test.YtnddkmccagiclabGreatDoorLot2ebbd2cd4c
import Derived.Test.YtnddkmccagiclabGreatDoorLotfef4768764
import Derived.Test.YtnddkmccagiclabGreatDoorLotd76c694fc3
import Derived.Test.YtnddkmccagiclabGreatDoorLot174e59218d
import Derived.BigQuiet
import Derived.Deep.QuietTactic
import Derived.WalkSmall
import Derived.Deep.RegionLaw
import Derived.Deep.RegionHeld3
import Derived.Deep.LoopGhost
namespace Go.Proofs.YtnddkmccagiclabGreatDoor
open Go.RowKit
set_option maxHeartbeats 400000 in
theorem tells_any (k : Int) (w : World) : Calls Tryz.prog 85 #[.int .i64 k] w fun e w' => e = .returned (.bool (tells k)) ∧ w' = w := by
  cases h7 : (k == 7) with
  | true =>
    go_enter Tryz.func85, Tryz.ntmps85
    go_wp2_with fail
    go_ret
    exact ⟨by simp [tells, h7], rfl⟩
  | false =>
    go_enter Tryz.func85, Tryz.ntmps85
    go_wp2_with fail
    go_ret
    exact ⟨by simp [tells, h7], rfl⟩
/-- What such a call answers: the number and whether it was found. -/
def foundV (o : Option Nat) : Value := .tuple #[.int .i64 ((o.getD 0 : Nat) : Int), .bool o.isSome]
theorem ne_of_beq {x y : ByteArray} (h : (x.toList == y.toList) = false) : x ≠ y := (Lib.bytes_beq_false_iff _ _).1 h
theorem idx84_0 (u v : Value) (w : World) : (Instr.index 84 (.agg #[u, v]) (.int .i64 0)).run Tryz.prog w = .ok u w := by
  simp [Instr.index, run_underlying Tryz.underlying84, go_sem]
theorem idx84_1 (u v : Value) (w : World) : (Instr.index 84 (.agg #[u, v]) (.int .i64 1)).run Tryz.prog w = .ok v w := by
  simp [Instr.index, run_underlying Tryz.underlying84, go_sem]
set_option maxRecDepth 20000 in
set_option maxHeartbeats 1000000 in
theorem truthOf_any (x : ByteArray) (w : World) (hg : Gl w) : Calls Tryz.prog 53 #[.string x] w fun e w' => e = .returned (foundV (atWord x truthWs 0)) ∧ w' = w := by
  have c0 := hg.tw.cell 0
  have c1 := hg.tw.cell 1
  simp only [List.getElem?_toArray, List.getElem?_cons_zero, List.getElem?_cons_succ] at c0 c1
  clear hg
  obtain ⟨b0, h0⟩ : ∃ b, ((⟨#[110, 111]⟩ : ByteArray).toList == x.toList) = b := ⟨_, rfl⟩
  obtain ⟨b1, h1⟩ : ∃ b, ((⟨#[121, 101, 115]⟩ : ByteArray).toList == x.toList) = b := ⟨_, rfl⟩
  have H0 : Hid (((⟨#[110, 111]⟩ : ByteArray).toList == x.toList) = b0) := h0
  have H1 : Hid (((⟨#[121, 101, 115]⟩ : ByteArray).toList == x.toList) = b1) := h1
  have k0 : ([110, 111] == x.toList) = b0 := by rw [← h0, Lib.toList_data ⟨#[110, 111]⟩]
  have k1 : ([121, 101, 115] == x.toList) = b1 := by rw [← h1, Lib.toList_data ⟨#[121, 101, 115]⟩]
  clear h0 h1
  have x0 := idx84_0 (.string ⟨#[110, 111]⟩) (.string ⟨#[121, 101, 115]⟩)
  have x1 := idx84_1 (.string ⟨#[110, 111]⟩) (.string ⟨#[121, 101, 115]⟩)
  go_enter Tryz.func53, Tryz.ntmps53
  go_wp2_with fail
  go_loopg [7] 2 (fun k i wr => ∃ j : Nat, k + j = 2 ∧ i = .int .i64 (j : Int) ∧ wr = w ∧ Hid ((1 ≤ j → b0 = false) ∧ (2 ≤ j → b1 = false)))
  case atStart => exact ⟨0, rfl, rfl, rfl, fun h => absurd h (by omega), fun h => absurd h (by omega)⟩
  case round =>
    obtain ⟨j, hj, rfl, rfl, HJ⟩ := hrel
    obtain rfl | rfl | rfl : j = 0 ∨ j = 1 ∨ j = 2 := by omega
    · cases b0
      · go_wp2_with fail
        go_roundg 1
        case measure => omega
        case rel => exact ⟨1, rfl, rfl, rfl, fun _ => trivial, fun h => absurd h (by omega)⟩
      · go_wp2_with fail
        refine bodyPost_ret (v := .tuple #[.int .i64 0, .bool true]) (by simp [results, Tryz.results53, go_sem]) rfl ⟨?_, rfl⟩
        rw [← (Lib.bytes_beq_iff _ _).1 H0.out]
        rfl
    · obtain rfl := HJ.out.1 (by omega)
      cases b1
      · go_wp2_with fail
        go_roundg 0
        case measure => omega
        case rel => exact ⟨2, rfl, rfl, rfl, fun _ => trivial, fun _ => trivial⟩
      · go_wp2_with fail
        refine bodyPost_ret (v := .tuple #[.int .i64 1, .bool true]) (by simp [results, Tryz.results53, go_sem]) rfl ⟨?_, rfl⟩
        rw [← (Lib.bytes_beq_iff _ _).1 H1.out]
        rfl
    · obtain rfl := HJ.out.1 (by omega)
      obtain rfl := HJ.out.2 (by omega)
      go_wp2_with fail
      refine bodyPost_ret (v := .tuple #[.int .i64 0, .bool false]) (by simp [results, Tryz.results53, go_sem]) rfl ⟨?_, rfl⟩
      simp [foundV, atWord, truthWs, ne_of_beq H0.out, ne_of_beq H1.out]
theorem idx209_0 (u v t : Value) (w : World) : (Instr.index 209 (.agg #[u, v, t]) (.int .i64 0)).run Tryz.prog w = .ok u w := by
  simp [Instr.index, run_underlying Tryz.underlying209, go_sem]
theorem idx209_1 (u v t : Value) (w : World) : (Instr.index 209 (.agg #[u, v, t]) (.int .i64 1)).run Tryz.prog w = .ok v w := by
  simp [Instr.index, run_underlying Tryz.underlying209, go_sem]
theorem idx209_2 (u v t : Value) (w : World) : (Instr.index 209 (.agg #[u, v, t]) (.int .i64 2)).run Tryz.prog w = .ok t w := by
  simp [Instr.index, run_underlying Tryz.underlying209, go_sem]
set_option maxRecDepth 20000 in
set_option maxHeartbeats 1000000 in
theorem typeKindOf_any (x : ByteArray) (w : World) (hg : Gl w) : Calls Tryz.prog 126 #[.string x] w fun e w' => e = .returned (foundV (atWord x typeWs 0)) ∧ w' = w := by
  have c0 := hg.ty.cell 0
  have c1 := hg.ty.cell 1
  have c2 := hg.ty.cell 2
  simp only [List.getElem?_toArray, List.getElem?_cons_zero, List.getElem?_cons_succ] at c0 c1 c2
  clear hg
  obtain ⟨b0, h0⟩ : ∃ b, ((⟨#[97, 110, 121]⟩ : ByteArray).toList == x.toList) = b := ⟨_, rfl⟩
  obtain ⟨b1, h1⟩ : ∃ b, ((⟨#[110, 117, 109]⟩ : ByteArray).toList == x.toList) = b := ⟨_, rfl⟩
  obtain ⟨b2, h2⟩ : ∃ b, ((⟨#[116, 114, 117, 116, 104]⟩ : ByteArray).toList == x.toList) = b := ⟨_, rfl⟩
  have H0 : Hid (((⟨#[97, 110, 121]⟩ : ByteArray).toList == x.toList) = b0) := h0
  have H1 : Hid (((⟨#[110, 117, 109]⟩ : ByteArray).toList == x.toList) = b1) := h1
  have H2 : Hid (((⟨#[116, 114, 117, 116, 104]⟩ : ByteArray).toList == x.toList) = b2) := h2
  have k0 : ([97, 110, 121] == x.toList) = b0 := by rw [← h0, Lib.toList_data ⟨#[97, 110, 121]⟩]
  have k1 : ([110, 117, 109] == x.toList) = b1 := by rw [← h1, Lib.toList_data ⟨#[110, 117, 109]⟩]
  have k2 : ([116, 114, 117, 116, 104] == x.toList) = b2 := by rw [← h2, Lib.toList_data ⟨#[116, 114, 117, 116, 104]⟩]
  clear h0 h1 h2
  have x0 := idx209_0 (.string ⟨#[97, 110, 121]⟩) (.string ⟨#[110, 117, 109]⟩) (.string ⟨#[116, 114, 117, 116, 104]⟩)
  have x1 := idx209_1 (.string ⟨#[97, 110, 121]⟩) (.string ⟨#[110, 117, 109]⟩) (.string ⟨#[116, 114, 117, 116, 104]⟩)
  have x2 := idx209_2 (.string ⟨#[97, 110, 121]⟩) (.string ⟨#[110, 117, 109]⟩) (.string ⟨#[116, 114, 117, 116, 104]⟩)
  go_enter Tryz.func126, Tryz.ntmps126
  go_wp2_with fail
  go_loopg [7] 3 (fun k i wr => ∃ j : Nat, k + j = 3 ∧ i = .int .i64 (j : Int) ∧ wr = w ∧ Hid ((1 ≤ j → b0 = false) ∧ (2 ≤ j → b1 = false) ∧ (3 ≤ j → b2 = false)))
  case atStart => exact ⟨0, rfl, rfl, rfl, fun h => absurd h (by omega), fun h => absurd h (by omega), fun h => absurd h (by omega)⟩
  case round =>
    obtain ⟨j, hj, rfl, rfl, HJ⟩ := hrel
    obtain rfl | rfl | rfl | rfl : j = 0 ∨ j = 1 ∨ j = 2 ∨ j = 3 := by omega
    · cases b0
      · go_wp2_with fail
        go_roundg 2
        case measure => omega
        case rel => exact ⟨1, rfl, rfl, rfl, fun _ => trivial, fun h => absurd h (by omega), fun h => absurd h (by omega)⟩
      · go_wp2_with fail
        refine bodyPost_ret (v := .tuple #[.int .i64 0, .bool true]) (by simp [results, Tryz.results126, go_sem]) rfl ⟨?_, rfl⟩
        rw [← (Lib.bytes_beq_iff _ _).1 H0.out]
        rfl
    · obtain rfl := HJ.out.1 (by omega)
      cases b1
      · go_wp2_with fail
        go_roundg 1
        case measure => omega
        case rel => exact ⟨2, rfl, rfl, rfl, fun _ => trivial, fun _ => trivial, fun h => absurd h (by omega)⟩
      · go_wp2_with fail
        refine bodyPost_ret (v := .tuple #[.int .i64 1, .bool true]) (by simp [results, Tryz.results126, go_sem]) rfl ⟨?_, rfl⟩
        rw [← (Lib.bytes_beq_iff _ _).1 H1.out]
        rfl
    · obtain rfl := HJ.out.1 (by omega)
      obtain rfl := HJ.out.2.1 (by omega)
      cases b2
      · go_wp2_with fail
        go_roundg 0
        case measure => omega
        case rel => exact ⟨3, rfl, rfl, rfl, fun _ => trivial, fun _ => trivial, fun _ => trivial⟩
      · go_wp2_with fail
        refine bodyPost_ret (v := .tuple #[.int .i64 2, .bool true]) (by simp [results, Tryz.results126, go_sem]) rfl ⟨?_, rfl⟩
        rw [← (Lib.bytes_beq_iff _ _).1 H2.out]
        rfl
    · obtain rfl := HJ.out.1 (by omega)
      obtain rfl := HJ.out.2.1 (by omega)
      obtain rfl := HJ.out.2.2 (by omega)
      go_wp2_with fail
      refine bodyPost_ret (v := .tuple #[.int .i64 0, .bool false]) (by simp [results, Tryz.results126, go_sem]) rfl ⟨?_, rfl⟩
      simp [foundV, atWord, typeWs, ne_of_beq H0.out, ne_of_beq H1.out, ne_of_beq H2.out]
end Go.Proofs.YtnddkmccagiclabGreatDoor

/-
  What the calls of term.isAny, term.goodTypes and (*walk).goodNumber answer, at whatever term lies in memory.
-/
namespace Go.Proofs.YtnddkmccagiclabGreatDoor
open Go.RowKit
theorem below_dN {B : Nat} {a w : World} (h : Below B a w) (n : Nat) : Below B a (w.drewN n) := ⟨h.os, h.tape, h.output, h.size, h.block⟩
set_option maxHeartbeats 400000 in
theorem same_top (x y : Tr) (rp : Option Addr) (w : World) (ht : Hid ((x.k == y.k && (x.l.length : Int) == (y.l.length : Int)) = false)) :
    Calls Tryz.prog 182 #[.agg #[.int .i64 x.k, .slice x.a x.l.length x.c], .agg #[.int .i64 y.k, .slice y.a y.l.length y.c], .int .i64 1000, .pointer rp] w fun e w' => e = .returned (.bool false) ∧ Below w.heap.size w w' := by
  go_enter Tryz.func182, Tryz.ntmps182
  go_wp2_with fail
  refine (alike_any _ _ _ _ _ _ _ _ false ht.out _).mono ?_
  rintro e w1 ⟨rfl, hb1⟩
  go_wp2_with fail
  go_ret
  exact ⟨rfl, (((Below.refl _ _).alloc (Nat.le_refl _) _).alloc (by simp) _).trans (hb1.mono (by simp; omega))⟩
set_option maxHeartbeats 400000 in
theorem same_by (x y : Tr) (r : Bool) (w : World) (hx : x.In w) (hy : y.In w)
    (HC : Hid (∀ (rp : Option Addr) (w : World), x.In w → y.In w → Calls Tryz.prog 182 #[.agg #[.int .i64 x.k, .slice x.a x.l.length x.c], .agg #[.int .i64 y.k, .slice y.a y.l.length y.c], .int .i64 1000, .pointer rp] w fun e w' => e = .returned (.bool r) ∧ Below w.heap.size w w')) :
    Calls Tryz.prog 147 #[.agg #[.int .i64 x.k, .slice x.a x.l.length x.c], .agg #[.int .i64 y.k, .slice y.a y.l.length y.c]] w fun e w' => e = .returned (.bool r) ∧ Below w.heap.size w w' := by
  have HH : Hid (∀ (w : World), x.In w → y.In w → Calls Tryz.prog 44 #[.func (.func 182) #[] #[], .agg #[.int .i64 x.k, .slice x.a x.l.length x.c], .agg #[.int .i64 y.k, .slice y.a y.l.length y.c]] w fun e w' => e = .returned (.bool r) ∧ Below w.heap.size w w') := fun w h1 h2 => holds_31 x y r w h1 h2 HC
  clear HC
  go_enter Tryz.func147, Tryz.ntmps147
  go_wp2_with fail
  have hb0 : Below w.heap.size w ((w.alloc (Obj.cells #[.int .i64 x.k, .slice x.a x.l.length x.c] 24)).alloc (Obj.cells #[.int .i64 y.k, .slice y.a y.l.length y.c] 24)) := ((Below.refl _ _).alloc (Nat.le_refl _) _).alloc (by simp) _
  refine (HH.out _ (hx.below hb0) (hy.below hb0)).mono ?_
  rintro e w1 ⟨rfl, hb1⟩
  have hb2 := hb0.trans (hb1.mono (by simp; omega))
  clear hb0 hb1
  go_wp2_with fail
  go_ret
  exact ⟨rfl, hb2⟩
theorem ret_bool {a b : Bool} (h : a = b) : Ending.returned (.bool a) = .returned (.bool b) := by rw [h]
theorem leaf_ty (k : Int) : (leaf k).ty = ⟨k, []⟩ := by simp [leaf, Tr.ty_mk]
/-- kind.Same of any type and Any. -/
theorem same_any0 (x : Tr) (w : World) (hx : x.In w) :
    Calls Tryz.prog 147 #[.agg #[.int .i64 x.k, .slice x.a x.l.length x.c], .agg #[.int .i64 0, .slice none 0 0]] w fun e w' => e = .returned (.bool (isAnyY x.ty)) ∧ Below w.heap.size w w' := by
  have e0 : isAnyY x.ty = relY escSame x.ty (leaf 0).ty := by rw [leaf_ty]; rfl
  rw [e0]
  by_cases ht : (x.k == (leaf 0).k && (x.l.length : Int) == ((leaf 0).l.length : Int)) = false
  · have hr : relY escSame x.ty (leaf 0).ty = false := relY_top escSame x (leaf 0) rfl ht
    rw [hr]
    exact same_by x (leaf 0) false w hx (leaf_in 0 w) (fun rp w h1 h2 => same_top x (leaf 0) rp w ht)
  · have hl : x.l = [] := by
      simp [leaf] at ht
      exact ht.2
    have hh : x.hgt ≤ 1000 := by
      obtain ⟨k, a, c, l⟩ := x
      dsimp only at hl
      subst hl
      rw [Tr.hgt_mk]
      simp
    have hs : x.sm := by
      obtain ⟨k, a, c, l⟩ := x
      dsimp only at hl
      subst hl
      exact Tr.sm_mk.2 ⟨by simp, fun t h => by cases h⟩
    exact same_whole x (leaf 0) w hx (leaf_in 0 w) hh hs
set_option maxHeartbeats 400000 in
/-- term.isAny. -/
theorem isAny_any (x : Tr) (w : World) (hx : x.In w) :
    Calls Tryz.prog 117 #[.agg #[.int .i64 x.k, .slice x.a x.l.length x.c]] w fun e w' => e = .returned (.bool (isAnyY x.ty)) ∧ Below w.heap.size w w' := by
  have HC : Hid (∀ w, x.In w → Calls Tryz.prog 147 #[.agg #[.int .i64 x.k, .slice x.a x.l.length x.c], .agg #[.int .i64 0, .slice none 0 0]] w fun e w' => e = .returned (.bool (isAnyY x.ty)) ∧ Below w.heap.size w w') := same_any0 x
  go_enter Tryz.func117, Tryz.ntmps117
  go_wp2_with fail
  have hb0 : Below w.heap.size w (w.alloc (Obj.cells #[.int .i64 x.k, .slice x.a x.l.length x.c] 24)) := (Below.refl _ _).alloc (Nat.le_refl _) _
  refine (HC.out _ (hx.below hb0)).mono ?_
  rintro e w1 ⟨rfl, hb1⟩
  have hb2 := hb0.trans (hb1.mono (by simp))
  clear hb0 hb1
  go_wp2_with fail
  go_ret
  exact ⟨rfl, hb2⟩
set_option maxHeartbeats 1000000 in
/-- term.goodTypes. -/
theorem goodTypes_any (x : TT) (w : World) (ht : x.t.In w) (hf : x.f.In w) :
    Calls Tryz.prog 80 #[.agg #[.int .i64 x.k, .int .i64 x.n, .int .i64 x.t.k, .slice x.t.a x.t.l.length x.t.c, .int .i64 x.f.k, .slice x.f.a x.f.l.length x.f.c, .slice x.a x.l.length x.c]] w fun e w' => e = .returned (.bool (okTypes x.k x.t.ty x.f.ty)) ∧ Below w.heap.size w w' := by
  have HF : Hid (∀ w, x.f.In w → Calls Tryz.prog 117 #[.agg #[.int .i64 x.f.k, .slice x.f.a x.f.l.length x.f.c]] w fun e w' => e = .returned (.bool (isAnyY x.f.ty)) ∧ Below w.heap.size w w') := isAny_any x.f
  have HT : Hid (∀ w, x.t.In w → Calls Tryz.prog 117 #[.agg #[.int .i64 x.t.k, .slice x.t.a x.t.l.length x.t.c]] w fun e w' => e = .returned (.bool (isAnyY x.t.ty)) ∧ Below w.heap.size w w') := isAny_any x.t
  have HG : Hid (∀ w, x.t.In w → Calls Tryz.prog 118 #[.agg #[.int .i64 x.t.k, .slice x.t.a x.t.l.length x.t.c]] w fun e w' => e = .returned (.bool (goodY 4 x.t.ty)) ∧ Below w.heap.size w w') := by
    intro w h
    have := good_any x.t w h
    rw [goodT_eq] at this
    exact this
  have HK : Hid (∀ w, Calls Tryz.prog 85 #[.int .i64 x.k] w fun e w' => e = .returned (.bool (tells x.k)) ∧ w' = w) := tells_any x.k
  obtain ⟨bf, hbf⟩ : ∃ b, isAnyY x.f.ty = b := ⟨_, rfl⟩
  obtain ⟨bt, hbt⟩ : ∃ b, tells x.k = b := ⟨_, rfl⟩
  have HO : Hid (okTypes x.k x.t.ty x.f.ty = (bf && (if bt = true then goodY 4 x.t.ty else isAnyY x.t.ty))) := by show _ = _; rw [okTypes, hbf, hbt]
  rw [hbf] at HF
  rw [hbt] at HK
  clear hbf hbt
  have hb0 : Below w.heap.size w (w.alloc (Obj.cells #[.int .i64 x.k, .int .i64 x.n, .int .i64 x.t.k, .slice x.t.a x.t.l.length x.t.c, .int .i64 x.f.k, .slice x.f.a x.f.l.length x.f.c, .slice x.a x.l.length x.c] 27)) := (Below.refl _ _).alloc (Nat.le_refl _) _
  cases bf
  · go_enter Tryz.func80, Tryz.ntmps80
    go_wp2_with fail
    refine (HF.out _ (hf.below hb0)).mono ?_
    rintro e w1 ⟨rfl, hb1⟩
    have hb2 := hb0.trans (hb1.mono (by simp))
    clear hb0 hb1
    go_wp2_with fail
    go_ret
    exact ⟨by rw [HO.out]; rfl, hb2⟩
  · go_enter Tryz.func80, Tryz.ntmps80
    go_wp2_with fail
    refine (HF.out _ (hf.below hb0)).mono ?_
    rintro e w1 ⟨rfl, hb1⟩
    have hb2 := hb0.trans (hb1.mono (by simp))
    have q0 : w1.cell? ⟨w.heap.size, 0, none⟩ = some (.int .i64 x.k) := cell_later hb1 (by simp [go_sem])
    have q2 : w1.cell? ⟨w.heap.size, 2, none⟩ = some (.int .i64 x.t.k) := cell_later hb1 (by simp [go_sem])
    have q3 : w1.cell? ⟨w.heap.size, 3, none⟩ = some (.slice x.t.a x.t.l.length x.t.c) := cell_later hb1 (by simp [go_sem])
    clear hb0 hb1
    go_wp2_with fail
    refine (HK.out _).mono ?_
    rintro e w' ⟨rfl, rfl⟩
    cases bt
    · go_wp2_with fail
      refine (HT.out _ (ht.below hb2)).mono ?_
      rintro e w2 ⟨rfl, hb3⟩
      have hb4 := hb2.trans (hb3.mono hb2.size)
      clear hb3 hb2
      go_wp2_with fail
      go_ret
      exact ⟨by rw [HO.out]; rfl, hb4⟩
    · go_wp2_with fail
      refine (HG.out _ (ht.below hb2)).mono ?_
      rintro e w2 ⟨rfl, hb3⟩
      have hb4 := hb2.trans (hb3.mono hb2.size)
      clear hb3 hb2
      go_wp2_with fail
      go_ret
      exact ⟨by rw [HO.out]; rfl, hb4⟩
set_option maxHeartbeats 1000000 in
/-- (*walk).goodNumber. -/
theorem goodNumber_any (R : Nat) (ar : Int) (ins : Nat) (hi : ins ≤ 1000) (x : TT) (hn : x.n ≤ 9223372036854775807) (w : World) (hr : w.cell? ⟨R, 0, none⟩ = some (.int .i64 ar)) :
    Calls Tryz.prog 81 #[.pointer (some ⟨R, 0, none⟩), .agg #[.int .i64 x.k, .int .i64 x.n, .int .i64 x.t.k, .slice x.t.a x.t.l.length x.t.c, .int .i64 x.f.k, .slice x.f.a x.f.l.length x.f.c, .slice x.a x.l.length x.c], .int .i64 (ins : Int)] w fun e w' => e = .returned (.bool (okNum ar (ins : Int) x.k x.n)) ∧ Below w.heap.size w w' := by
  have hRl : R < w.heap.size := World.block_lt_of_cell? _ _ hr
  by_cases h1 : x.k = 1
  · have hk : (x.k == 1) = true := by simp [h1]
    by_cases h0 : 0 ≤ x.n
    · have hd : decide (0 ≤ x.n) = true := by simp [h0]
      have HO : Hid (okNum ar (ins : Int) x.k x.n = decide (x.n - (ins : Int) < ar)) := by show _ = _; rw [okNum, if_pos h1, hd, Bool.true_and]
      clear h1
      go_enter Tryz.func81, Tryz.ntmps81
      go_wp2_with fail
      go_quiet (fail)
      go_wp2_with fail
      go_ret
      exact ⟨ret_bool HO.out.symm, below_dN ((Below.refl _ _).alloc (Nat.le_refl _) _) _⟩
    · have hd : decide (0 ≤ x.n) = false := by simpa using h0
      have HO : Hid (okNum ar (ins : Int) x.k x.n = false) := by show _ = _; rw [okNum, if_pos h1, hd, Bool.false_and]
      clear h1
      go_enter Tryz.func81, Tryz.ntmps81
      go_wp2_with fail
      go_quiet (fail)
      go_wp2_with fail
      go_ret
      exact ⟨ret_bool HO.out.symm, below_dN ((Below.refl _ _).alloc (Nat.le_refl _) _) _⟩
  · have hk1 : (x.k == 1) = false := by simpa using h1
    by_cases h2 : x.k = 2
    · have hk2 : (x.k == 2) = true := by simp [h2]
      by_cases h0 : -1000000 ≤ x.n
      · have hd : decide (-1000000 ≤ x.n) = true := by simp [h0]
        have HO : Hid (okNum ar (ins : Int) x.k x.n = decide (x.n ≤ 1000000)) := by show _ = _; rw [okNum, if_neg h1, if_pos h2, hd, Bool.true_and]
        clear h1 h2
        go_enter Tryz.func81, Tryz.ntmps81
        go_wp2_with fail
        go_ret
        exact ⟨ret_bool HO.out.symm, (Below.refl _ _).alloc (Nat.le_refl _) _⟩
      · have hd : decide (-1000000 ≤ x.n) = false := by simpa using h0
        have HO : Hid (okNum ar (ins : Int) x.k x.n = false) := by show _ = _; rw [okNum, if_neg h1, if_pos h2, hd, Bool.false_and]
        clear h1 h2
        go_enter Tryz.func81, Tryz.ntmps81
        go_wp2_with fail
        go_ret
        exact ⟨ret_bool HO.out.symm, (Below.refl _ _).alloc (Nat.le_refl _) _⟩
    · have hk2 : (x.k == 2) = false := by simpa using h2
      by_cases h3 : x.k = 3
      · have hk3 : (x.k == 3) = true := by simp [h3]
        cases h0 : (x.n == 0) with
        | true =>
          have HO : Hid (okNum ar (ins : Int) x.k x.n = true) := by show _ = _; rw [okNum, if_neg h1, if_neg h2, if_pos h3, h0, Bool.true_or]
          clear h1 h2 h3
          go_enter Tryz.func81, Tryz.ntmps81
          go_wp2_with fail
          go_ret
          exact ⟨ret_bool HO.out.symm, (Below.refl _ _).alloc (Nat.le_refl _) _⟩
        | false =>
          have HO : Hid (okNum ar (ins : Int) x.k x.n = (x.n == 1)) := by show _ = _; rw [okNum, if_neg h1, if_neg h2, if_pos h3, h0, Bool.false_or]
          clear h1 h2 h3
          go_enter Tryz.func81, Tryz.ntmps81
          go_wp2_with fail
          go_ret
          exact ⟨ret_bool HO.out.symm, (Below.refl _ _).alloc (Nat.le_refl _) _⟩
      · have hk3 : (x.k == 3) = false := by simpa using h3
        have HO : Hid (okNum ar (ins : Int) x.k x.n = (x.n == 0)) := by show _ = _; rw [okNum, if_neg h1, if_neg h2, if_neg h3]
        clear h1 h2 h3
        go_enter Tryz.func81, Tryz.ntmps81
        go_wp2_with fail
        go_ret
        exact ⟨ret_bool HO.out.symm, (Below.refl _ _).alloc (Nat.le_refl _) _⟩
end Go.Proofs.YtnddkmccagiclabGreatDoor

/-
  What the call of check's ruleOf answers at If and Fn: drawn regions.
-/
namespace Go.Proofs.YtnddkmccagiclabGreatDoor
open Go.RowKit
/-- A rule, or none, in letters. -/
theorem RuOut.letters {Q : Nat → Prop} {w w' : World} {r : Option (Ty × List Ty)} {e : Ending} (h : RuOut Q w r e w') :
    ∃ (I U : Tr) (b : Bool), e = .returned (.tuple #[.agg #[.int .i64 I.k, .slice I.a I.l.length I.c, .slice U.a U.l.length U.c], .bool b]) ∧ Below w.heap.size w w' ∧ I.In w' ∧ U.In w' ∧ I.Bl Q ∧ U.Bl Q ∧ ((b = false ∧ r = none ∧ I = leaf 0 ∧ U = leaf 0) ∨ (b = true ∧ r = some (I.ty, U.l.map Tr.ty))) := by
  obtain ⟨hb, ⟨hr, rfl⟩ | ⟨I, U, hr, rfl, iI, iU, bI, bU⟩⟩ := h
  · exact ⟨leaf 0, leaf 0, false, rfl, hb, leaf_in _ _, leaf_in _ _, leaf_bl _ _, leaf_bl _ _, .inl ⟨rfl, hr, rfl, rfl⟩⟩
  · exact ⟨I, U, true, rfl, hb, iI, iU, bI, bU, .inr ⟨rfl, hr⟩⟩
theorem RuOut.of {Q : Nat → Prop} {w w' : World} {r : Option (Ty × List Ty)} {I U : Tr} {b : Bool} (hb : Below w.heap.size w w') (iI : I.In w') (iU : U.In w') (bI : I.Bl Q) (bU : U.Bl Q) (h : (b = false ∧ r = none ∧ I = leaf 0 ∧ U = leaf 0) ∨ (b = true ∧ r = some (I.ty, U.l.map Tr.ty))) :
    RuOut Q w r (.returned (.tuple #[.agg #[.int .i64 I.k, .slice I.a I.l.length I.c, .slice U.a U.l.length U.c], .bool b])) w' := by
  rcases h with ⟨rfl, rfl, rfl, rfl⟩ | ⟨rfl, hr⟩
  · exact ⟨hb, .inl ⟨rfl, rfl⟩⟩
  · exact ⟨hb, .inr ⟨I, U, hr, rfl, iI, iU, bI, bU⟩⟩
set_option maxRecDepth 20000 in
set_option maxHeartbeats 1000000 in
theorem ruleOf_6 (Q : Nat → Prop) (x : TT) (p q : Tr) (pb po pm pc : Nat) (ta : Option Addr) (tm tc : Nat) (w : World) (hm : 2 < pm) (c0 : w.cell? ⟨pb, po + 2, none⟩ = some (.int .i64 p.k)) (c1 : w.cell? ⟨pb, po + 3, none⟩ = some (.slice p.a p.l.length p.c)) (c2 : w.cell? ⟨pb, po + 4, none⟩ = some (.int .i64 q.k)) (c3 : w.cell? ⟨pb, po + 5, none⟩ = some (.slice q.a q.l.length q.c)) (hp : p.In w) (hq : q.In w) (rp : p.right) (rq : q.right) (hh : p.hgt ≤ 1000) (hs : p.sm) (hQ : ∀ b, w.heap.size ≤ b → Q b) :
    Calls Tryz.prog 67 #[.agg #[.int .i64 6, .int .i64 x.n, .int .i64 x.t.k, .slice x.t.a x.t.l.length x.t.c, .int .i64 x.f.k, .slice x.f.a x.f.l.length x.f.c, .slice x.a x.l.length x.c], .slice (some ⟨pb, po, none⟩) pm pc, .slice ta tm tc] w (RuOut Q w (ifY ⟨2, []⟩ p.ty q.ty)) := by
  have hb0 := (wRule_below 6 x w).drew
  have hw0 : WR 6 x w.heap.size (wRule 6 x w).drew := (wRule_ok 6 x w).below ((Below.refl _ _).drew)
  have hz : (wRule 6 x w).drew.heap.size = w.heap.size + 1 + 1 + 1 + 1 := wRule_size 6 x w
  have HC : Hid (Calls Tryz.prog 105 #[.agg #[.int .i64 2, .slice none 0 0], .agg #[.int .i64 p.k, .slice p.a p.l.length p.c], .agg #[.int .i64 q.k, .slice q.a q.l.length q.c]] (wRule 6 x w).drew (RuOut (fun b => Q b ∧ b ≠ w.heap.size + 1) (wRule 6 x w).drew (ifY ⟨2, []⟩ p.ty q.ty))) := by
    have := ruleOfIf_any (fun b => Q b ∧ b ≠ w.heap.size + 1) (leaf 2) p q (wRule 6 x w).drew (leaf_in _ _) (hp.below hb0) (hq.below hb0) rp rq hh hs (fun b hb => ⟨hQ b (by omega), by omega⟩) (leaf_bl _ _)
    rw [leaf_ty] at this
    exact this
  have d0 := cell_later hb0 c0
  have d1 := cell_later hb0 c1
  have d2 := cell_later hb0 c2
  have d3 := cell_later hb0 c3
  have i1 : (1 : Int) < (pm : Int) := by omega
  have i2 : (2 : Int) < (pm : Int) := by omega
  have j1 : 1 < pm := by omega
  obtain ⟨W0, hW0⟩ : ∃ W0, W0 = wRule 6 x w := ⟨_, rfl⟩
  rw [← hW0] at hb0 hw0 hz HC d0 d1 d2 d3
  unfold wRule at hW0
  clear c0 c1 c2 c3 hp hq rp rq hh hs
  obtain ⟨_, r0, r1, r2, rf, _, _, b0, b1⟩ := id hw0
  have f0 := rf 0
  have f1 := rf 1
  have f2 := rf 2
  have HB : Hid (Below w.heap.size w W0.drew ∧ WR 6 x w.heap.size W0.drew ∧ W0.drew.heap.size = w.heap.size + 1 + 1 + 1 + 1) := ⟨hb0, hw0, hz⟩
  clear hb0 hw0 hz
  go_enter Tryz.func67, Tryz.ntmps67
  go_wp2_with fail
  rw [← hW0]
  clear hW0
  go_region_law
    (first
      | (go_simp; go_at_call 105; refine HC.out.mono ?_; rintro e w1 hR; obtain ⟨I, U, b, rfl, h1, iI, iU, bI, bU, hr⟩ := hR.letters; have hw1 := HB.out.2.1.below h1; obtain ⟨_, r0, r1, r2, rf, _, _, _, _⟩ := id hw1; have f0 := rf 0; have f1 := rf 1; have f2 := rf 2; go_wp2_with fail))
  all_goals
    have HS : Hid _ := RuOut.store (Q := Q) (HB.out.1.trans (h1.mono (by have := HB.out.2.2; omega))) hw1 iI iU bI bU
    have HR : Hid _ := hr
    clear h1 HC HB hw1 iI iU bI bU hR hr
    go_wp2_with fail
    obtain ⟨W, hW, e1, e2, e3, e4, e5, e6, e7, e8⟩ := HS.out
    rw [← hW]
    clear hW
    refine bodyPost_ret (v := .tuple #[.agg #[.int .i64 I.k, .slice I.a I.l.length I.c, .slice U.a U.l.length U.c], .bool b]) ?_ rfl (RuOut.of e1 e2 e3 e4 e5 HR.out)
    simp [results, Tryz.results67, go_sem, e6, e7, e8]
set_option maxRecDepth 20000 in
set_option maxHeartbeats 1000000 in
theorem ruleOf_7 (Q : Nat → Prop) (x : TT) (p : Tr) (pb po pc : Nat) (ta : Option Addr) (tm tc : Nat) (w : World) (c0 : w.cell? ⟨pb, po, none⟩ = some (.int .i64 p.k)) (c1 : w.cell? ⟨pb, po + 1, none⟩ = some (.slice p.a p.l.length p.c)) (hp : p.In w) (ht : x.t.In w) (bp : p.Bl Q) (bt : x.t.Bl Q) (hpb : Q pb) (hQ : ∀ b, w.heap.size ≤ b → Q b) :
    Calls Tryz.prog 67 #[.agg #[.int .i64 7, .int .i64 x.n, .int .i64 x.t.k, .slice x.t.a x.t.l.length x.t.c, .int .i64 x.f.k, .slice x.f.a x.f.l.length x.f.c, .slice x.a x.l.length x.c], .slice (some ⟨pb, po, none⟩) 1 pc, .slice ta tm tc] w (RuOut Q w (some (⟨3, [x.t.ty, p.ty]⟩, [p.ty]))) := by
  have hb0 := (wRule_below 7 x w).drew
  have hw0 : WR 7 x w.heap.size (wRule 7 x w).drew := (wRule_ok 7 x w).below ((Below.refl _ _).drew)
  have hz : (wRule 7 x w).drew.heap.size = w.heap.size + 1 + 1 + 1 + 1 := wRule_size 7 x w
  have hU : (Tr.mk 0 (some ⟨pb, po, none⟩) pc [p]).In w := by
    refine Tr.In_mk.2 ⟨fun j h => ?_, fun t h => ?_⟩
    · have hj : j = 0 := by simpa using h
      subst hj
      exact ⟨pb, po, rfl, by simpa using c0, by simpa [Tr.sl] using c1⟩
    · have : t = p := by simpa using h
      subst this; exact hp
  have lpb : pb < w.heap.size := World.block_lt_of_cell? _ _ c0
  have hUb : (Tr.mk 0 (some ⟨pb, po, none⟩) pc [p]).Bl fun b => Q b ∧ b ≠ w.heap.size + 1 := by
    refine Tr.Bl_mk.2 ⟨fun _ y hy => ?_, fun t h => ?_⟩
    · cases hy; exact ⟨hpb, by show pb ≠ _; omega⟩
    · have : t = p := by simpa using h
      subst this; exact bp.and (hp.bl.mono fun b hb => by omega)
  have HC : Hid (Calls Tryz.prog 106 #[.agg #[.int .i64 x.t.k, .slice x.t.a x.t.l.length x.t.c], .agg #[.int .i64 p.k, .slice p.a p.l.length p.c]] (wRule 7 x w).drew fun e w' => ∃ I : Tr, e = .returned (.agg #[.int .i64 I.k, .slice I.a I.l.length I.c]) ∧ I.ty = ⟨3, [x.t.ty, p.ty]⟩ ∧ I.In w' ∧ (I.Bl fun b => Q b ∧ b ≠ w.heap.size + 1) ∧ Below (wRule 7 x w).drew.heap.size (wRule 7 x w).drew w') := by
    refine (to_any x.t p (wRule 7 x w).drew (ht.below hb0) (hp.below hb0)).mono ?_
    rintro e w' ⟨g, hg, rfl, hin, hb⟩
    refine ⟨⟨3, some ⟨g, 0, none⟩, 2, [x.t, p]⟩, rfl, by simp [Tr.ty_mk], hin, Tr.Bl_two ⟨hQ g (by omega), by omega⟩ (bt.and (ht.bl.mono fun b hb => by omega)) (bp.and (hp.bl.mono fun b hb => by omega)), hb⟩
  have HU : Hid ((Tr.mk 0 (some ⟨pb, po, none⟩) pc [p]).In (wRule 7 x w).drew ∧ (Tr.mk 0 (some ⟨pb, po, none⟩) pc [p]).Bl fun b => Q b ∧ b ≠ w.heap.size + 1) := ⟨hU.below hb0, hUb⟩
  have d0 := cell_later hb0 c0
  have d1 := cell_later hb0 c1
  obtain ⟨W0, hW0⟩ : ∃ W0, W0 = wRule 7 x w := ⟨_, rfl⟩
  rw [← hW0] at hb0 hw0 hz HC HU d0 d1
  unfold wRule at hW0
  clear c0 c1 hp ht bp bt hU hUb hQ
  obtain ⟨⟨_, _, t2, t3, _, _, _⟩, r0, r1, r2, rf, _, _, _, _⟩ := id hw0
  have f0 := rf 0
  have f1 := rf 1
  have f2 := rf 2
  have HB : Hid (Below w.heap.size w W0.drew ∧ WR 7 x w.heap.size W0.drew ∧ W0.drew.heap.size = w.heap.size + 1 + 1 + 1 + 1) := ⟨hb0, hw0, hz⟩
  clear hb0 hw0 hz
  go_enter Tryz.func67, Tryz.ntmps67
  go_wp2_with fail
  rw [← hW0]
  clear hW0
  go_region_law
    (first
      | (go_simp; go_at_call 106; refine HC.out.mono ?_; rintro e w1 ⟨I, rfl, hty, iI, bI, h1⟩; have hw1 := HB.out.2.1.below h1; obtain ⟨_, r0, r1, r2, rf, _, _, _, _⟩ := id hw1; have f0 := rf 0; have f1 := rf 1; have f2 := rf 2; go_wp2_with fail))
  all_goals
    have HS : Hid _ := RuOut.store (Q := Q) (HB.out.1.trans (h1.mono (by have := HB.out.2.2; omega))) hw1 iI (HU.out.1.below h1) bI HU.out.2
    have HR : Hid (some ((⟨3, [x.t.ty, p.ty]⟩ : Ty), [p.ty]) = some (I.ty, (Tr.mk 0 (some ⟨pb, po, none⟩) pc [p]).l.map Tr.ty)) := by rw [hty]; exact rfl
    clear h1 HC HB HU hw1 iI bI hty
    go_wp2_with fail
    obtain ⟨W, hW, e1, e2, e3, e4, e5, e6, e7, e8⟩ := HS.out
    have hW' : W = (((w1.setCell ⟨w.heap.size + 1, 0, none⟩ (.int .i64 I.k)).setCell ⟨w.heap.size + 1, 1, none⟩ (.slice I.a I.l.length I.c)).setCell ⟨w.heap.size + 1, 2, none⟩ (.slice (some ⟨pb, po, none⟩) 1 pc)) := hW
    rw [← hW']
    clear hW hW'
    refine bodyPost_ret (v := .tuple #[.agg #[.int .i64 I.k, .slice I.a I.l.length I.c, .slice (some ⟨pb, po, none⟩) 1 pc], .bool true]) ?_ rfl (RuOut.of (U := ⟨0, some ⟨pb, po, none⟩, pc, [p]⟩) e1 e2 e3 e4 e5 (.inr ⟨rfl, HR.out⟩))
    have e8' : W.cell? ⟨w.heap.size + 1, 2, none⟩ = some (.slice (some ⟨pb, po, none⟩) 1 pc) := e8
    simp [results, Tryz.results67, go_sem, e6, e7, e8']
end Go.Proofs.YtnddkmccagiclabGreatDoor

/-
  What the call of check's ruleOf answers, at every kind that a good term has.
-/
namespace Go.Proofs.YtnddkmccagiclabGreatDoor
open Go.RowKit
/-- The rule of a term: by its kind, number and type, the types of its parts, and what the functions around it take. -/
def ruleY (k n : Int) (t : Ty) (ps takes : List Ty) : Option (Ty × List Ty) :=
  if k = 1 then some (takes.getD n.toNat ⟨0, []⟩, [])
  else if k = 2 then some (⟨1, []⟩, [])
  else if k = 3 then some (⟨2, []⟩, [])
  else if k = 4 then some (⟨1, []⟩, [⟨1, []⟩, ⟨1, []⟩])
  else if k = 5 then some (⟨2, []⟩, [⟨1, []⟩, ⟨1, []⟩])
  else if k = 6 then ifY ⟨2, []⟩ (ps.getD 1 ⟨0, []⟩) (ps.getD 2 ⟨0, []⟩)
  else if k = 7 then some (⟨3, [t, ps.getD 0 ⟨0, []⟩]⟩, ps)
  else if k = 8 then callY (ps.getD 0 ⟨0, []⟩)
  else if k = 9 then some (t, [t])
  else none
theorem bl_one {Q : Nat → Prop} {g c : Nat} {x : Tr} (h : Q g) (hx : x.Bl Q) : (Tr.mk 0 (some ⟨g, 0, none⟩) c [x]).Bl Q := by
  refine Tr.Bl_mk.2 ⟨fun _ y hy => by cases hy; exact h, fun t ht => ?_⟩
  have : t = x := by simpa using ht
  subst this; exact hx
theorem In_one {w : World} {g c : Nat} {x : Tr} (c0 : w.cell? ⟨g, 0, none⟩ = some (.int .i64 x.k)) (c1 : w.cell? ⟨g, 1, none⟩ = some (.slice x.a x.l.length x.c)) (hx : x.In w) : (Tr.mk 0 (some ⟨g, 0, none⟩) c [x]).In w := by
  refine Tr.In_mk.2 ⟨fun j h => ?_, fun t ht => ?_⟩
  · have hj : j = 0 := by simpa using h
    subst hj
    exact ⟨g, 0, rfl, by simpa using c0, by simpa [Tr.sl] using c1⟩
  · have : t = x := by simpa using ht
    subst this; exact hx
theorem ruleOf_any (Q : Nat → Prop) (x : TT) (p T : Tr) (w : World) (h1 : 1 ≤ x.k) (h9 : x.k ≤ 9) (hp : p.l.length = partsOf x.k) (hn : x.k = 1 → 0 ≤ x.n ∧ x.n < (T.l.length : Int))
    (ht : x.t.In w) (bt : x.t.Bl Q) (ip : p.In w) (bp : p.Bl Q) (iT : T.In w) (bT : T.Bl Q) (hok : ∀ t, t ∈ p.l → t.right ∧ t.hgt ≤ 1000 ∧ t.sm) (hQ : ∀ b, w.heap.size ≤ b → Q b) :
    Calls Tryz.prog 67 #[.agg #[.int .i64 x.k, .int .i64 x.n, .int .i64 x.t.k, .slice x.t.a x.t.l.length x.t.c, .int .i64 x.f.k, .slice x.f.a x.f.l.length x.f.c, .slice x.a x.l.length x.c], .slice p.a p.l.length p.c, .slice T.a T.l.length T.c] w (RuOut Q w (ruleY x.k x.n x.t.ty (p.l.map Tr.ty) (T.l.map Tr.ty))) := by
  have hk : x.k = 1 ∨ x.k = 2 ∨ x.k = 3 ∨ x.k = 4 ∨ x.k = 5 ∨ x.k = 6 ∨ x.k = 7 ∨ x.k = 8 ∨ x.k = 9 := by omega
  rcases hk with e | e | e | e | e | e | e | e | e
  · obtain ⟨m, hm⟩ : ∃ m : Nat, x.n = (m : Int) := ⟨x.n.toNat, by have := hn e; omega⟩
    have hlt : m < T.l.length := by have := hn e; omega
    obtain ⟨b, o, ea, c0, c1, hi⟩ := iT.part m hlt
    have hbt : T.l[m].Bl Q := by
      obtain ⟨k, a, c, l⟩ := T
      exact (Tr.Bl_mk.1 bT).2 _ (List.getElem_mem hlt)
    rw [e, hm, ea]
    refine (ruleOf_1 x m hm p.a p.l.length p.c b o T.l.length T.c hlt T.l[m] w c0 c1).mono ?_
    rintro e w' ⟨rfl, hb⟩
    exact ⟨hb, .inr ⟨T.l[m], leaf 0, by simp [ruleY, leaf, hlt], rfl, hi.below hb, leaf_in _ _, hbt, leaf_bl _ _⟩⟩
  · rw [e]
    refine (ruleOf_2 x p.a T.a p.l.length p.c T.l.length T.c w).mono ?_
    rintro e w' ⟨rfl, hb⟩
    exact ⟨hb, .inr ⟨leaf 1, leaf 0, by simp [ruleY, leaf, Tr.ty_mk], rfl, leaf_in _ _, leaf_in _ _, leaf_bl _ _, leaf_bl _ _⟩⟩
  · rw [e]
    refine (ruleOf_3 x p.a T.a p.l.length p.c T.l.length T.c w).mono ?_
    rintro e w' ⟨rfl, hb⟩
    exact ⟨hb, .inr ⟨leaf 2, leaf 0, by simp [ruleY, leaf, Tr.ty_mk], rfl, leaf_in _ _, leaf_in _ _, leaf_bl _ _, leaf_bl _ _⟩⟩
  · rw [e]
    refine (ruleOf_4 x p.a T.a p.l.length p.c T.l.length T.c w).mono ?_
    rintro e w' ⟨g, hg, rfl, c0, c1, c2, c3, hb⟩
    exact ⟨hb, .inr ⟨leaf 1, ⟨0, some ⟨g, 0, none⟩, 2, [leaf 1, leaf 1]⟩, by simp [ruleY, leaf, Tr.ty_mk], rfl, leaf_in _ _, Tr.In_two c0 c1 c2 c3 (leaf_in _ _) (leaf_in _ _), leaf_bl _ _, Tr.Bl_two (hQ g hg) (leaf_bl _ _) (leaf_bl _ _)⟩⟩
  · rw [e]
    refine (ruleOf_5 x p.a T.a p.l.length p.c T.l.length T.c w).mono ?_
    rintro e w' ⟨g, hg, rfl, c0, c1, c2, c3, hb⟩
    exact ⟨hb, .inr ⟨leaf 2, ⟨0, some ⟨g, 0, none⟩, 2, [leaf 1, leaf 1]⟩, by simp [ruleY, leaf, Tr.ty_mk], rfl, leaf_in _ _, Tr.In_two c0 c1 c2 c3 (leaf_in _ _) (leaf_in _ _), leaf_bl _ _, Tr.Bl_two (hQ g hg) (leaf_bl _ _) (leaf_bl _ _)⟩⟩
  · have hl : p.l.length = 3 := by rw [hp, e]; rfl
    obtain ⟨b, o, ea, c0, c1, hi1⟩ := ip.part 1 (by omega)
    obtain ⟨b', o', eb, d0, d1, hi2⟩ := ip.part 2 (by omega)
    rw [ea] at eb
    cases eb
    have o1 := hok _ (List.getElem_mem (show 1 < p.l.length by omega))
    have o2 := hok _ (List.getElem_mem (show 2 < p.l.length by omega))
    have he : ruleY 6 x.n x.t.ty (p.l.map Tr.ty) (T.l.map Tr.ty) = ifY ⟨2, []⟩ (p.l[1]'(by omega)).ty (p.l[2]'(by omega)).ty := by
      simp [ruleY, hl]
    rw [e, ea, he]
    exact ruleOf_6 Q x _ _ b o p.l.length p.c T.a T.l.length T.c w (by omega) c0 c1 d0 d1 hi1 hi2 o1.1 o2.1 o1.2.1 o1.2.2 hQ
  · have hl : p.l.length = 1 := by rw [hp, e]; rfl
    obtain ⟨q, hq⟩ : ∃ q, p.l = [q] := List.length_eq_one_iff.1 hl
    obtain ⟨b, o, ea, c0, c1, hi⟩ := ip.part 0 (by omega)
    have hq0 : p.l[0]'(by omega) = q := by simp [hq]
    rw [hq0] at c0 c1 hi
    have hbp : q.Bl Q ∧ Q b := by
      obtain ⟨k, a, c, l⟩ := p
      dsimp only at hq ea
      subst hq ea
      exact ⟨(Tr.Bl_mk.1 bp).2 _ (by simp), (Tr.Bl_mk.1 bp).1 (by simp) _ rfl⟩
    have he : ruleY 7 x.n x.t.ty (p.l.map Tr.ty) (T.l.map Tr.ty) = some (⟨3, [x.t.ty, q.ty]⟩, [q.ty]) := by
      simp [ruleY, hq]
    rw [e, ea, he, hl]
    exact ruleOf_7 Q x q b o p.c T.a T.l.length T.c w (by simpa using c0) (by simpa using c1) hi ht hbp.1 bt hbp.2 hQ
  · have hl : p.l.length = 2 := by rw [hp, e]; rfl
    obtain ⟨b, o, ea, c0, c1, hi⟩ := ip.part 0 (by omega)
    have o1 := hok _ (List.getElem_mem (show 0 < p.l.length by omega))
    have hbp : (p.l[0]'(by omega)).Bl Q := by
      obtain ⟨k, a, c, l⟩ := p
      exact (Tr.Bl_mk.1 bp).2 _ (List.getElem_mem (by dsimp only at hl; omega))
    have he : ruleY 8 x.n x.t.ty (p.l.map Tr.ty) (T.l.map Tr.ty) = callY (p.l[0]'(by omega)).ty := by
      simp [ruleY, hl]
    rw [e, ea, he]
    exact ruleOf_8 Q x _ b o p.l.length p.c T.a T.l.length T.c w (by omega) (by simpa using c0) (by simpa using c1) hi o1.1 hQ hbp
  · rw [e]
    refine (ruleOf_9 x p.a T.a p.l.length p.c T.l.length T.c w).mono ?_
    rintro e w' ⟨g, hg, rfl, c0, c1, hb⟩
    exact ⟨hb, .inr ⟨x.t, ⟨0, some ⟨g, 0, none⟩, 1, [x.t]⟩, by simp [ruleY], rfl, ht.below hb, In_one c0 c1 (ht.below hb), bt, bl_one (hQ g hg) bt⟩⟩
end Go.Proofs.YtnddkmccagiclabGreatDoor

/-
  Readings (a number, a term, a type) and rows of them; what the call of check's allFit answers.
-/
namespace Go.Proofs.YtnddkmccagiclabGreatDoor
open Go.RowKit
structure Rd where
  n : Int
  y : TT
  i : Tr
/-- A reading's ten cells. -/
structure At10 (w : World) (b o : Nat) (r : Rd) : Prop where
  n : w.cell? ⟨b, o, none⟩ = some (.int .i64 r.n)
  y : At7 w b (o + 1) r.y
  k : w.cell? ⟨b, o + 8, none⟩ = some (.int .i64 r.i.k)
  l : w.cell? ⟨b, o + 9, none⟩ = some (.slice r.i.a r.i.l.length r.i.c)
theorem At10.below {w w' : World} {b o : Nat} {r : Rd} (hb : Below w.heap.size w w') (h : At10 w b o r) : At10 w' b o r :=
  ⟨cell_later hb h.n, h.y.below hb, cell_later hb h.k, cell_later hb h.l⟩
/-- A row of readings lies in the world. -/
def RL (w : World) (a : Option Addr) (rs : List Rd) : Prop :=
  ∀ j (h : j < rs.length), ∃ b o, a = some ⟨b, o, none⟩ ∧ At10 w b (o + j * 10) rs[j] ∧ rs[j].y.In w ∧ rs[j].i.In w
theorem RL.below {w w' : World} {a : Option Addr} {rs : List Rd} (hb : Below w.heap.size w w') (h : RL w a rs) : RL w' a rs := by
  intro j hj
  obtain ⟨b, o, e, h1, h2, h3⟩ := h j hj
  exact ⟨b, o, e, h1.below hb, h2.below hb, h3.below hb⟩
def fitL : List Ty → List Ty → Bool
  | x :: r, y :: s => relY escFits x y && fitL r s
  | _, _ => true
theorem fitL_all : ∀ (l m : List Ty), (∀ j (h : j < l.length) (h' : j < m.length), relY escFits l[j] m[j] = true) → fitL l m = true
  | [], _, _ => by simp [fitL]
  | _ :: _, [], _ => by simp [fitL]
  | x :: r, y :: s, h => by
    simp only [fitL, Bool.and_eq_true]
    exact ⟨h 0 (by simp) (by simp), fitL_all r s fun j h1 h2 => h (j + 1) (by simpa using h1) (by simpa using h2)⟩
theorem fitL_not : ∀ (l m : List Ty) (j : Nat) (h : j < l.length) (h' : j < m.length), relY escFits l[j] m[j] = false → fitL l m = false
  | [], _, _, h, _, _ => by simp at h
  | _ :: _, [], _, _, h', _ => by simp at h'
  | x :: r, y :: s, 0, _, _, e => by simp only [List.getElem_cons_zero] at e; simp [fitL, e]
  | x :: r, y :: s, j + 1, h, h', e => by simp only [fitL, fitL_not r s j (by simpa using h) (by simpa using h') (by simpa using e), Bool.and_false]
set_option maxRecDepth 20000 in
set_option maxHeartbeats 1000000 in
/-- allFit. -/
theorem allFit_any (rs : List Rd) (a : Option Addr) (c : Nat) (U : Tr) (w : World) (hr : RL w a rs) (hU : U.In w) (hl : rs.length = U.l.length) (h3 : rs.length ≤ 1000) (hok : ∀ r, r ∈ rs → r.i.hgt ≤ 1000 ∧ r.i.sm) :
    Calls Tryz.prog 69 #[.slice a rs.length c, .slice U.a U.l.length U.c] w fun e w' => e = .returned (.bool (fitL (rs.map fun r => r.i.ty) (U.l.map Tr.ty))) ∧ Below w.heap.size w w' := by
  have HF : Hid (∀ j (h : j < rs.length) (h' : j < U.l.length) (W : World), rs[j].i.In W → U.l[j].In W → Calls Tryz.prog 108 #[.agg #[.int .i64 rs[j].i.k, .slice rs[j].i.a rs[j].i.l.length rs[j].i.c], .agg #[.int .i64 U.l[j].k, .slice U.l[j].a U.l[j].l.length U.l[j].c]] W fun e w' => e = .returned (.bool (relY escFits rs[j].i.ty U.l[j].ty)) ∧ Below W.heap.size W w') :=
    fun j h h' W h1 h2 => fits_whole _ _ W h1 h2 (hok _ (List.getElem_mem h)).1 (hok _ (List.getElem_mem h)).2
  have HR : Hid (RL w a rs) := hr
  have HU : Hid (U.In w) := hU
  have HL : Hid (rs.length = U.l.length) := hl
  clear hr hU hl hok
  go_enter Tryz.func69, Tryz.ntmps69
  go_wp2_with fail
  go_loopg [9] rs.length (fun g i wr => ∃ (j : Nat), g + j = rs.length ∧ i = .int .i64 (j : Int) ∧ Hid (Below w.heap.size w wr ∧ ∀ q (h : q < rs.length) (h' : q < U.l.length), q < j → relY escFits rs[q].i.ty U.l[q].ty = true))
  case atStart => exact ⟨0, by omega, rfl, Below.refl _ _, fun q _ _ h => absurd h (by omega)⟩
  case round =>
    obtain ⟨j, hj, rfl, HQ⟩ := hrel
    by_cases hlt : j < rs.length
    · have hlt' : j < U.l.length := HL.out ▸ hlt
      obtain ⟨b, o, ea, h10, hy, hi⟩ := HR.out j hlt
      obtain ⟨b', o', eb, u0, u1, hu⟩ := HU.out.part j hlt'
      have hb := HQ.out.1
      have h11 := h10.below hb
      obtain ⟨d0, ⟨d1, d2, d3, d4, d5, d6, d7⟩, d8, d9⟩ := h11
      replace u0 := cell_later hb u0
      replace u1 := cell_later hb u1
      have i1 : (j : Int) < (rs.length : Int) := by omega
      have i2 : (j : Int) < (U.l.length : Int) := by omega
      have i0 : (0 : Int) ≤ (j : Int) := by omega
      have HEA : Hid (a = some ⟨b, o, none⟩) := ea
      have HEB : Hid (U.a = some ⟨b', o', none⟩) := eb
      rw [ea, eb]
      clear ea eb
      have hB0 : (wr.alloc (.cells #[.int .i64 rs[j].n, .int .i64 rs[j].y.k, .int .i64 rs[j].y.n, .int .i64 rs[j].y.t.k, .slice rs[j].y.t.a rs[j].y.t.l.length rs[j].y.t.c, .int .i64 rs[j].y.f.k, .slice rs[j].y.f.a rs[j].y.f.l.length rs[j].y.f.c, .slice rs[j].y.a rs[j].y.l.length rs[j].y.c, .int .i64 rs[j].i.k, .slice rs[j].i.a rs[j].i.l.length rs[j].i.c] 64)).cell? ⟨wr.heap.size, 8, none⟩ = some (.int .i64 rs[j].i.k) := by simp [go_sem]
      have hB1 : (wr.alloc (.cells #[.int .i64 rs[j].n, .int .i64 rs[j].y.k, .int .i64 rs[j].y.n, .int .i64 rs[j].y.t.k, .slice rs[j].y.t.a rs[j].y.t.l.length rs[j].y.t.c, .int .i64 rs[j].y.f.k, .slice rs[j].y.f.a rs[j].y.f.l.length rs[j].y.f.c, .slice rs[j].y.a rs[j].y.l.length rs[j].y.c, .int .i64 rs[j].i.k, .slice rs[j].i.a rs[j].i.l.length rs[j].i.c] 64)).cell? ⟨wr.heap.size, 9, none⟩ = some (.slice rs[j].i.a rs[j].i.l.length rs[j].i.c) := by simp [go_sem]
      have hbA : Below wr.heap.size wr (wr.alloc (.cells #[.int .i64 rs[j].n, .int .i64 rs[j].y.k, .int .i64 rs[j].y.n, .int .i64 rs[j].y.t.k, .slice rs[j].y.t.a rs[j].y.t.l.length rs[j].y.t.c, .int .i64 rs[j].y.f.k, .slice rs[j].y.f.a rs[j].y.f.l.length rs[j].y.f.c, .slice rs[j].y.a rs[j].y.l.length rs[j].y.c, .int .i64 rs[j].i.k, .slice rs[j].i.a rs[j].i.l.length rs[j].i.c] 64)) := (Below.refl _ _).alloc (Nat.le_refl _) _
      have v0 := cell_later hbA u0
      have v1 := cell_later hbA u1
      have hbE : Below w.heap.size w (wr.alloc (.cells #[.int .i64 rs[j].n, .int .i64 rs[j].y.k, .int .i64 rs[j].y.n, .int .i64 rs[j].y.t.k, .slice rs[j].y.t.a rs[j].y.t.l.length rs[j].y.t.c, .int .i64 rs[j].y.f.k, .slice rs[j].y.f.a rs[j].y.f.l.length rs[j].y.f.c, .slice rs[j].y.a rs[j].y.l.length rs[j].y.c, .int .i64 rs[j].i.k, .slice rs[j].i.a rs[j].i.l.length rs[j].i.c] 64)) := hb.trans (hbA.mono hb.size)
      have hi1 := hi.below hbE
      have hu1 := hu.below hbE
      have HFC := HF.out j hlt hlt'
      clear hbA u0 u1 hi hu h10 hy
      obtain ⟨r, hrr⟩ : ∃ r, relY escFits rs[j].i.ty U.l[j].ty = r := ⟨_, rfl⟩
      rw [hrr] at HFC
      have HC : Hid (∀ (W : World), rs[j].i.In W → U.l[j].In W → Calls Tryz.prog 108 #[.agg #[.int .i64 rs[j].i.k, .slice rs[j].i.a rs[j].i.l.length rs[j].i.c], .agg #[.int .i64 U.l[j].k, .slice U.l[j].a U.l[j].l.length U.l[j].c]] W fun e w' => e = .returned (.bool r) ∧ Below W.heap.size W w') := HFC
      have HRR : Hid (relY escFits rs[j].i.ty U.l[j].ty = r) := hrr
      have HI : Hid (rs[j].i.In (wr.alloc (.cells #[.int .i64 rs[j].n, .int .i64 rs[j].y.k, .int .i64 rs[j].y.n, .int .i64 rs[j].y.t.k, .slice rs[j].y.t.a rs[j].y.t.l.length rs[j].y.t.c, .int .i64 rs[j].y.f.k, .slice rs[j].y.f.a rs[j].y.f.l.length rs[j].y.f.c, .slice rs[j].y.a rs[j].y.l.length rs[j].y.c, .int .i64 rs[j].i.k, .slice rs[j].i.a rs[j].i.l.length rs[j].i.c] 64)) ∧ U.l[j].In (wr.alloc (.cells #[.int .i64 rs[j].n, .int .i64 rs[j].y.k, .int .i64 rs[j].y.n, .int .i64 rs[j].y.t.k, .slice rs[j].y.t.a rs[j].y.t.l.length rs[j].y.t.c, .int .i64 rs[j].y.f.k, .slice rs[j].y.f.a rs[j].y.f.l.length rs[j].y.f.c, .slice rs[j].y.a rs[j].y.l.length rs[j].y.c, .int .i64 rs[j].i.k, .slice rs[j].i.a rs[j].i.l.length rs[j].i.c] 64)) ∧ Below w.heap.size w (wr.alloc (.cells #[.int .i64 rs[j].n, .int .i64 rs[j].y.k, .int .i64 rs[j].y.n, .int .i64 rs[j].y.t.k, .slice rs[j].y.t.a rs[j].y.t.l.length rs[j].y.t.c, .int .i64 rs[j].y.f.k, .slice rs[j].y.f.a rs[j].y.f.l.length rs[j].y.f.c, .slice rs[j].y.a rs[j].y.l.length rs[j].y.c, .int .i64 rs[j].i.k, .slice rs[j].i.a rs[j].i.l.length rs[j].i.c] 64))) := ⟨hi1, hu1, hbE⟩
      clear HFC hrr hi1 hu1 hbE
      go_wp2_with fail
      clear d0 d1 d2 d3 d4 d5 d6 d7 d8 d9
      generalize (wr.alloc (.cells #[.int .i64 rs[j].n, .int .i64 rs[j].y.k, .int .i64 rs[j].y.n, .int .i64 rs[j].y.t.k, .slice rs[j].y.t.a rs[j].y.t.l.length rs[j].y.t.c, .int .i64 rs[j].y.f.k, .slice rs[j].y.f.a rs[j].y.f.l.length rs[j].y.f.c, .slice rs[j].y.a rs[j].y.l.length rs[j].y.c, .int .i64 rs[j].i.k, .slice rs[j].i.a rs[j].i.l.length rs[j].i.c] 64)) = WA at *
      go_region_held3 (fun w' => w'.cell? ⟨wr.heap.size, 8, none⟩ = some (.int .i64 rs[j].i.k) ∧ w'.cell? ⟨wr.heap.size, 9, none⟩ = some (.slice rs[j].i.a rs[j].i.l.length rs[j].i.c) ∧ w'.cell? ⟨b', o' + j * 2, none⟩ = some (.int .i64 U.l[j].k) ∧ w'.cell? ⟨b', o' + j * 2 + 1, none⟩ = some (.slice U.l[j].a U.l[j].l.length U.l[j].c)) (first | exact ⟨cell_later hb2 hB0, cell_later hb2 hB1, cell_later hb2 v0, cell_later hb2 v1⟩ | go_keep) (first | (go_at_call 108; refine (HC.out _ (HI.out.1.below ((Below.refl _ _).drew)) (HI.out.2.1.below ((Below.refl _ _).drew))).mono ?_; rintro e w2 ⟨rfl, hb2⟩))
      have hbr2 : Below w.heap.size w w2 := HI.out.2.2.drew.trans (hb2.mono HI.out.2.2.size)
      cases r
      · have HE : Hid (fitL (rs.map fun r => r.i.ty) (U.l.map Tr.ty) = false ∧ Below w.heap.size w w2) := ⟨fitL_not _ _ j (by simpa using hlt) (by simpa using hlt') (by simpa using HRR.out), hbr2⟩
        clear hb2 hbr2 HI HQ hB0 hB1 v0 v1
        go_wp2_with fail
        go_ret
        exact ⟨ret_bool HE.out.1.symm, HE.out.2⟩
      · have HN : Hid (Below w.heap.size w w2 ∧ ∀ q (h : q < rs.length) (h' : q < U.l.length), q < j + 1 → relY escFits rs[q].i.ty U.l[q].ty = true) := by
          refine ⟨hbr2, fun q h h' hq => ?_⟩
          by_cases e : q = j
          · subst e; exact HRR.out
          · exact HQ.out.2 q h h' (by omega)
        clear hb2 hbr2 HI HQ hB0 hB1 v0 v1
        go_wp2_with fail
        rw [← HEA.out, ← HEB.out]
        go_roundg (rs.length - (j + 1))
        case measure => omega
        case rel => exact ⟨j + 1, by omega, by go_num, HN⟩
    · have HE : Hid (fitL (rs.map fun r => r.i.ty) (U.l.map Tr.ty) = true ∧ Below w.heap.size w wr) :=
        ⟨fitL_all _ _ fun q h h' => by simpa using HQ.out.2 q (by simpa using h) (by simpa using h') (by have : q < rs.length := (by simpa using h); omega), HQ.out.1⟩
      clear HQ
      go_wp2_with fail
      go_ret
      exact ⟨ret_bool HE.out.1.symm, HE.out.2⟩
end Go.Proofs.YtnddkmccagiclabGreatDoor

/-
  What the call of check's cast answers: the term as it is, or a cast about it.
-/
namespace Go.Proofs.YtnddkmccagiclabGreatDoor
open Go.RowKit
def castY (n : Int) (x : Tm) (i u : Ty) : Tm := if relY escSame i u then x else ⟨10, n, u, i, [x]⟩
/-- Behind the entry: the reading, what it is used as, the place of the answer. -/
structure CB (H : Nat) (r : Rd) (u : Tr) (W : World) : Prop where
  p0 : W.cell? ⟨H, 0, none⟩ = some (.int .i64 r.n)
  p1 : W.cell? ⟨H, 1, none⟩ = some (.int .i64 r.y.k)
  p2 : W.cell? ⟨H, 2, none⟩ = some (.int .i64 r.y.n)
  p3 : W.cell? ⟨H, 3, none⟩ = some (.int .i64 r.y.t.k)
  p4 : W.cell? ⟨H, 4, none⟩ = some (.slice r.y.t.a r.y.t.l.length r.y.t.c)
  p5 : W.cell? ⟨H, 5, none⟩ = some (.int .i64 r.y.f.k)
  p6 : W.cell? ⟨H, 6, none⟩ = some (.slice r.y.f.a r.y.f.l.length r.y.f.c)
  p7 : W.cell? ⟨H, 7, none⟩ = some (.slice r.y.a r.y.l.length r.y.c)
  p8 : W.cell? ⟨H, 8, none⟩ = some (.int .i64 r.i.k)
  p9 : W.cell? ⟨H, 9, none⟩ = some (.slice r.i.a r.i.l.length r.i.c)
  u0 : W.cell? ⟨H + 1, 0, none⟩ = some (.int .i64 u.k)
  u1 : W.cell? ⟨H + 1, 1, none⟩ = some (.slice u.a u.l.length u.c)
  z0 : W.cell? ⟨H + 1 + 1, 0, none⟩ = some (.int .i64 0)
  z1 : W.cell? ⟨H + 1 + 1, 1, none⟩ = some (.int .i64 0)
  z2 : W.cell? ⟨H + 1 + 1, 2, none⟩ = some (.int .i64 0)
  z3 : W.cell? ⟨H + 1 + 1, 3, none⟩ = some (.slice none 0 0)
  z4 : W.cell? ⟨H + 1 + 1, 4, none⟩ = some (.int .i64 0)
  z5 : W.cell? ⟨H + 1 + 1, 5, none⟩ = some (.slice none 0 0)
  z6 : W.cell? ⟨H + 1 + 1, 6, none⟩ = some (.slice none 0 0)
  fz : ∀ i, W.frozen? ⟨H + 1 + 1, i, none⟩ = false
  iu : u.In W
  ii : r.i.In W
  iy : r.y.In W
theorem CB.below {H : Nat} {r : Rd} {u : Tr} {W W' : World} (h : CB H r u W) (hb : Below W.heap.size W W') : CB H r u W' :=
  ⟨cell_later hb h.p0, cell_later hb h.p1, cell_later hb h.p2, cell_later hb h.p3, cell_later hb h.p4, cell_later hb h.p5, cell_later hb h.p6, cell_later hb h.p7, cell_later hb h.p8, cell_later hb h.p9, cell_later hb h.u0, cell_later hb h.u1, cell_later hb h.z0, cell_later hb h.z1, cell_later hb h.z2, cell_later hb h.z3, cell_later hb h.z4, cell_later hb h.z5, cell_later hb h.z6, fun i => (hb.frozen (p := ⟨H + 1 + 1, i, none⟩) (show (⟨H + 1 + 1, 0, none⟩ : Addr).block < W.heap.size from World.block_lt_of_cell? _ _ h.z0)).trans (h.fz i), h.iu.below hb, h.ii.below hb, h.iy.below hb⟩
def CPost (r : Rd) (u : Tr) (w : World) (e : Ending) (w' : World) : Prop :=
  ∃ z : TT, e = .returned (.agg #[.int .i64 z.k, .int .i64 z.n, .int .i64 z.t.k, .slice z.t.a z.t.l.length z.t.c, .int .i64 z.f.k, .slice z.f.a z.f.l.length z.f.c, .slice z.a z.l.length z.c]) ∧ z.tm = castY r.n r.y.tm r.i.ty u.ty ∧ z.In w' ∧ (∀ Q : Nat → Prop, (∀ b, w.heap.size ≤ b → Q b) → r.y.Bl Q → z.Bl Q) ∧ Below w.heap.size w w'
theorem cb_start (r : Rd) (u : Tr) (w : World) (hu : u.In w) (hi : r.i.In w) (hy : r.y.In w) : CB w.heap.size r u (((w.alloc (Obj.cells #[.int .i64 r.n, .int .i64 r.y.k, .int .i64 r.y.n, .int .i64 r.y.t.k, .slice r.y.t.a r.y.t.l.length r.y.t.c, .int .i64 r.y.f.k, .slice r.y.f.a r.y.f.l.length r.y.f.c, .slice r.y.a r.y.l.length r.y.c, .int .i64 r.i.k, .slice r.i.a r.i.l.length r.i.c] 64)).alloc (Obj.cells #[.int .i64 u.k, .slice u.a u.l.length u.c] 24)).alloc (Obj.cells #[.int .i64 0, .int .i64 0, .int .i64 0, .slice none 0 0, .int .i64 0, .slice none 0 0, .slice none 0 0] 27)) ∧ Below w.heap.size w (((w.alloc (Obj.cells #[.int .i64 r.n, .int .i64 r.y.k, .int .i64 r.y.n, .int .i64 r.y.t.k, .slice r.y.t.a r.y.t.l.length r.y.t.c, .int .i64 r.y.f.k, .slice r.y.f.a r.y.f.l.length r.y.f.c, .slice r.y.a r.y.l.length r.y.c, .int .i64 r.i.k, .slice r.i.a r.i.l.length r.i.c] 64)).alloc (Obj.cells #[.int .i64 u.k, .slice u.a u.l.length u.c] 24)).alloc (Obj.cells #[.int .i64 0, .int .i64 0, .int .i64 0, .slice none 0 0, .int .i64 0, .slice none 0 0, .slice none 0 0] 27)) := by
  have hb : Below w.heap.size w (((w.alloc (Obj.cells #[.int .i64 r.n, .int .i64 r.y.k, .int .i64 r.y.n, .int .i64 r.y.t.k, .slice r.y.t.a r.y.t.l.length r.y.t.c, .int .i64 r.y.f.k, .slice r.y.f.a r.y.f.l.length r.y.f.c, .slice r.y.a r.y.l.length r.y.c, .int .i64 r.i.k, .slice r.i.a r.i.l.length r.i.c] 64)).alloc (Obj.cells #[.int .i64 u.k, .slice u.a u.l.length u.c] 24)).alloc (Obj.cells #[.int .i64 0, .int .i64 0, .int .i64 0, .slice none 0 0, .int .i64 0, .slice none 0 0, .slice none 0 0] 27)) := (((Below.refl _ _).alloc (Nat.le_refl _) _).alloc (by simp) _).alloc (by simp; omega) _
  refine ⟨⟨?_, ?_, ?_, ?_, ?_, ?_, ?_, ?_, ?_, ?_, ?_, ?_, ?_, ?_, ?_, ?_, ?_, ?_, ?_, ?_, hu.below hb, hi.below hb, hy.below hb⟩, hb⟩
  all_goals simp [go_sem]
set_option maxRecDepth 20000 in
set_option maxHeartbeats 1000000 in
theorem cast_same (r : Rd) (u : Tr) (w : World) (hu : u.In w) (hi : r.i.In w) (hy : r.y.In w) (hh : r.i.hgt ≤ 1000) (hs : r.i.sm) (hr : relY escSame r.i.ty u.ty = true) :
    Calls Tryz.prog 109 #[.agg #[.int .i64 r.n, .int .i64 r.y.k, .int .i64 r.y.n, .int .i64 r.y.t.k, .slice r.y.t.a r.y.t.l.length r.y.t.c, .int .i64 r.y.f.k, .slice r.y.f.a r.y.f.l.length r.y.f.c, .slice r.y.a r.y.l.length r.y.c, .int .i64 r.i.k, .slice r.i.a r.i.l.length r.i.c], .agg #[.int .i64 u.k, .slice u.a u.l.length u.c]] w (CPost r u w) := by
  obtain ⟨hc, hb⟩ := cb_start r u w hu hi hy
  obtain ⟨W0, hW0⟩ : ∃ W0, W0 = ((w.alloc (Obj.cells #[.int .i64 r.n, .int .i64 r.y.k, .int .i64 r.y.n, .int .i64 r.y.t.k, .slice r.y.t.a r.y.t.l.length r.y.t.c, .int .i64 r.y.f.k, .slice r.y.f.a r.y.f.l.length r.y.f.c, .slice r.y.a r.y.l.length r.y.c, .int .i64 r.i.k, .slice r.i.a r.i.l.length r.i.c] 64)).alloc (Obj.cells #[.int .i64 u.k, .slice u.a u.l.length u.c] 24)).alloc (Obj.cells #[.int .i64 0, .int .i64 0, .int .i64 0, .slice none 0 0, .int .i64 0, .slice none 0 0, .slice none 0 0] 27) := ⟨_, rfl⟩
  rw [← hW0] at hc hb
  have HS : Hid (Calls Tryz.prog 147 #[.agg #[.int .i64 r.i.k, .slice r.i.a r.i.l.length r.i.c], .agg #[.int .i64 u.k, .slice u.a u.l.length u.c]] W0 fun e w' => e = .returned (.bool true) ∧ Below W0.heap.size W0 w') := by
    have := same_whole r.i u W0 hc.ii hc.iu hh hs
    rw [hr] at this
    exact this
  have HB : Hid (CB w.heap.size r u W0 ∧ Below w.heap.size w W0) := ⟨hc, hb⟩
  have HT : Hid (castY r.n r.y.tm r.i.ty u.ty = r.y.tm) := by simp [Hid, castY, hr]
  have HY : Hid (r.y.Bl (· < w.heap.size)) := hy.bl
  clear hc hb hu hi hy hh hs hr
  go_enter Tryz.func109, Tryz.ntmps109
  go_wp2_with fail
  rw [← hW0]
  clear hW0
  refine HS.out.mono ?_
  rintro e w1 ⟨rfl, h1⟩
  have hc1 := HB.out.1.below h1
  have lz : w.heap.size + 1 + 1 < w1.heap.size := World.block_lt_of_cell? _ _ hc1.z0
  have hbw : Below w.heap.size w w1 := HB.out.2.trans (h1.mono HB.out.2.size)
  have hbx : Box7 w1 (w.heap.size + 1 + 1) (tleaf 0 0) := ⟨⟨hc1.z0, hc1.z1, hc1.z2, hc1.z3, hc1.z4, hc1.z5, hc1.z6⟩, fun i _ => hc1.fz i⟩
  have h7 := (put7_box (x := r.y) hbx).at7
  obtain ⟨e0, e1, e2, e3, e4, e5, e6⟩ := h7
  have HE : Hid (r.y.In (put7 w1 (w.heap.size + 1 + 1) r.y) ∧ Below w.heap.size w (put7 w1 (w.heap.size + 1 + 1) r.y)) := by
    refine ⟨?_, hbw.trans ((put7_kept (x := r.y)).below (by simp) (by omega) |>.mono (by omega))⟩
    exact hc1.iy.keptR put7_kept (HY.out.mono fun b hb => by omega)
  simp only [Nat.zero_add] at e0 e1 e2 e3 e4 e5 e6
  obtain ⟨p0, p1, p2, p3, p4, p5, p6, p7, p8, p9, u0, u1, z0, z1, z2, z3, z4, z5, z6, fz, _, _, _⟩ := hc1
  have f0 := fz 0
  have f1 := fz 1
  have f2 := fz 2
  have f3 := fz 3
  have f4 := fz 4
  have f5 := fz 5
  have f6 := fz 6
  clear h1 HS HB hbx hbw fz
  go_wp2_with fail
  refine bodyPost_ret (v := .agg #[.int .i64 r.y.k, .int .i64 r.y.n, .int .i64 r.y.t.k, .slice r.y.t.a r.y.t.l.length r.y.t.c, .int .i64 r.y.f.k, .slice r.y.f.a r.y.f.l.length r.y.f.c, .slice r.y.a r.y.l.length r.y.c]) ?_ rfl ⟨r.y, rfl, HT.out.symm, HE.out.1, fun Q _ h => h, HE.out.2⟩
  unfold put7 at e0 e1 e2 e3 e4 e5 e6
  simp [results, Tryz.results109, go_sem, e0, e1, e2, e3, e4, e5, e6]
/-- The cast is written to its place. -/
theorem cast_end (r : Rd) (u : Tr) (w W : World) (G : Nat) (t f : Tr) (hb : Below w.heap.size w W) (hc : CB w.heap.size r u W) (hG : w.heap.size + 1 + 1 < G) (h7 : At7 W G 0 r.y) (ht : t.In W) (hf : f.In W) (bt : t.Bl (w.heap.size + 1 + 1 < ·)) (bf : f.Bl (w.heap.size + 1 + 1 < ·)) (hy : r.y.Bl (· < w.heap.size)) (et : t.ty = u.ty) (ef : f.ty = r.i.ty) (hr : relY escSame r.i.ty u.ty = false) :
    CPost r u w (.returned (.agg #[.int .i64 10, .int .i64 r.n, .int .i64 t.k, .slice t.a t.l.length t.c, .int .i64 f.k, .slice f.a f.l.length f.c, .slice (some ⟨G, 0, none⟩) 1 1])) (put7 W (w.heap.size + 1 + 1) ⟨10, r.n, t, f, some ⟨G, 0, none⟩, 1, [r.y]⟩) ∧
      At7 (put7 W (w.heap.size + 1 + 1) ⟨10, r.n, t, f, some ⟨G, 0, none⟩, 1, [r.y]⟩) (w.heap.size + 1 + 1) 0 ⟨10, r.n, t, f, some ⟨G, 0, none⟩, 1, [r.y]⟩ := by
  have hk := put7_kept (w := W) (J := w.heap.size + 1 + 1) (x := ⟨10, r.n, t, f, some ⟨G, 0, none⟩, 1, [r.y]⟩)
  have hbx : Box7 W (w.heap.size + 1 + 1) (tleaf 0 0) := ⟨⟨hc.z0, hc.z1, hc.z2, hc.z3, hc.z4, hc.z5, hc.z6⟩, fun i _ => hc.fz i⟩
  refine ⟨⟨⟨10, r.n, t, f, some ⟨G, 0, none⟩, 1, [r.y]⟩, rfl, ?_, ?_, fun Q hQ hyQ => ?_, ?_⟩, (put7_box hbx).at7⟩
  · rw [TT.tm_mk, et, ef]
    simp [castY, hr]
  · refine TT.In_mk.2 ⟨ht.keptR hk (bt.mono fun b hb => by omega), hf.keptR hk (bf.mono fun b hb => by omega), fun j hj => ?_, fun x hx => ?_⟩
    · have hj0 : j = 0 := by simpa using hj
      subst hj0
      exact ⟨G, 0, rfl, by simpa using h7.keptR hk (by omega)⟩
    · have : x = r.y := by simpa using hx
      subst this
      exact hc.iy.keptR hk (hy.mono fun b hb => by omega)
  · refine TT.Bl_mk.2 ⟨bt.mono fun b hb => hQ b (by omega), bf.mono fun b hb => hQ b (by omega), fun _ y hy => by cases hy; exact hQ G (by omega), fun x hx => ?_⟩
    have : x = r.y := by simpa using hx
    subst this
    exact hyQ
  · have lz : w.heap.size + 1 + 1 < W.heap.size := World.block_lt_of_cell? _ _ hc.z0
    exact hb.trans ((hk.below (by simp) (by omega)).mono (by omega))
theorem new_at7 (W : World) (r : Rd) : At7 (W.alloc (.cells #[.int .i64 r.y.k, .int .i64 r.y.n, .int .i64 r.y.t.k, .slice r.y.t.a r.y.t.l.length r.y.t.c, .int .i64 r.y.f.k, .slice r.y.f.a r.y.f.l.length r.y.f.c, .slice r.y.a r.y.l.length r.y.c] 27)) W.heap.size 0 r.y := by
  refine ⟨?_, ?_, ?_, ?_, ?_, ?_, ?_⟩
  all_goals simp [go_sem]
end Go.Proofs.YtnddkmccagiclabGreatDoor

/-
  What the call of (*walk).good answers, at whatever term lies in memory: where its top is not good, and where it has no parts.
-/
namespace Go.Proofs.YtnddkmccagiclabGreatDoor
open Go.RowKit
/-- A walk behind a pointer: how many functions are around, how much room is left. -/
structure WS (R : Nat) (ar : Int) (room : Nat) (w : World) : Prop where
  a : w.cell? ⟨R, 0, none⟩ = some (.int .i64 ar)
  r : w.cell? ⟨R, 1, none⟩ = some (.int .i64 (room : Int))
  z : w.frozen? ⟨R, 1, none⟩ = false
theorem WS.lt {R : Nat} {ar : Int} {room : Nat} {w : World} (h : WS R ar room w) : R < w.heap.size := World.block_lt_of_cell? _ _ h.a
theorem WS.below {R : Nat} {ar : Int} {room : Nat} {w w' : World} (h : WS R ar room w) (hb : Below w.heap.size w w') : WS R ar room w' :=
  ⟨cell_later hb h.a, cell_later hb h.r, (hb.frozen (p := ⟨R, 1, none⟩) h.lt).trans h.z⟩
theorem WS.set {R : Nat} {ar : Int} {room r : Nat} {w : World} (h : WS R ar room w) : WS R ar r (w.setCell ⟨R, 1, none⟩ (.int .i64 (r : Int))) :=
  ⟨by rw [World.cell?_setCell_other _ _ _ _ (by simp)]; exact h.a, World.cell?_setCell_same _ _ _ h.r, by rw [World.frozen?_setCell]; exact h.z⟩
/-- What the call leaves. -/
def GoodPost (R : Nat) (ar : Int) (o : Option Nat) (w : World) (e : Ending) (w' : World) : Prop :=
  ∃ r : Nat, e = .returned (.bool o.isSome) ∧ WS R ar r w' ∧ (∀ q, o = some q → q = r) ∧ Kept R none w w'
/-- Its numbers are whole numbers of 64 bits. -/
def TT.nb : TT → Prop
  | ⟨_, n, _, _, _, _, l⟩ => n ≤ 9223372036854775807 ∧ ∀ x, x ∈ l → x.nb
theorem TT.nb_mk {k n : Int} {t f : Tr} {a : Option Addr} {c : Nat} {l : List TT} : (TT.mk k n t f a c l).nb ↔ n ≤ 9223372036854775807 ∧ ∀ x, x ∈ l → x.nb := by
  rw [TT.nb]
theorem TT.nb.n {x : TT} (h : x.nb) : x.n ≤ 9223372036854775807 := by cases x; exact (TT.nb_mk.1 h).1
theorem TT.nb.mem {x y : TT} (h : x.nb) (hy : y ∈ x.l) : y.nb := by
  obtain ⟨k, n, t, f, a, c, l⟩ := x
  exact (TT.nb_mk.1 h).2 y hy
set_option maxHeartbeats 400000 in
theorem goodW_none (R : Nat) (ar ins : Int) (x : TT) (w : World) (hw : WS R ar 0 w) :
    Calls Tryz.prog 46 #[.pointer (some ⟨R, 0, none⟩), .agg #[.int .i64 x.k, .int .i64 x.n, .int .i64 x.t.k, .slice x.t.a x.t.l.length x.t.c, .int .i64 x.f.k, .slice x.f.a x.f.l.length x.f.c, .slice x.a x.l.length x.c], .int .i64 ins] w (GoodPost R ar none w) := by
  have hr := hw.r
  have hRl := hw.lt
  have e0 : ((0 : Nat) : Int) = 0 := rfl
  rw [e0] at hr
  go_enter Tryz.func46, Tryz.ntmps46
  go_wp2_with fail
  go_ret
  have hb : Below w.heap.size w (w.alloc (Obj.cells #[.int .i64 x.k, .int .i64 x.n, .int .i64 x.t.k, .slice x.t.a x.t.l.length x.t.c, .int .i64 x.f.k, .slice x.f.a x.f.l.length x.f.c, .slice x.a x.l.length x.c] 27)) := (Below.refl _ _).alloc (Nat.le_refl _) _
  exact ⟨0, rfl, hw.below hb, (fun q h => by cases h), Kept.of_below hb⟩
theorem parts_cell {w : World} (hg : Gp w) (k : Int) (h1 : 1 ≤ k) (h2 : k ≤ 9) : w.cell? ⟨0, k.toNat, none⟩ = some (.int .i64 (partsOf k : Int)) := by
  rw [hg.pt.cell]
  obtain rfl | rfl | rfl | rfl | rfl | rfl | rfl | rfl | rfl : k = 1 ∨ k = 2 ∨ k = 3 ∨ k = 4 ∨ k = 5 ∨ k = 6 ∨ k = 7 ∨ k = 8 ∨ k = 9 := by omega
  all_goals rfl
theorem len_ne (m p : Nat) (h : (m == p) = false) : ((m : Int) == (p : Int)) = false := by
  simp at h ⊢
  omega
/-- The world behind the count. -/
def wTop (R : Nat) (r : Nat) (x : TT) (w : World) : World :=
  (w.setCell ⟨R, 1, none⟩ (.int .i64 (r : Int))).alloc (Obj.cells #[.int .i64 x.k, .int .i64 x.n, .int .i64 x.t.k, .slice x.t.a x.t.l.length x.t.c, .int .i64 x.f.k, .slice x.f.a x.f.l.length x.f.c, .slice x.a x.l.length x.c] 27)
set_option maxHeartbeats 1000000 in
theorem goodW_bad1 (R : Nat) (ar : Int) (r : Nat) (hr1 : r ≤ 1000) (ins : Int) (x : TT) (w : World) (hg : Gp w) (hR : 1 ≤ R) (hw : WS R ar (r + 1) w)
    (hok : (decide (1 ≤ x.k) && decide (x.k ≤ 9) && (x.l.length == partsOf x.k)) = false) :
    Calls Tryz.prog 46 #[.pointer (some ⟨R, 0, none⟩), .agg #[.int .i64 x.k, .int .i64 x.n, .int .i64 x.t.k, .slice x.t.a x.t.l.length x.t.c, .int .i64 x.f.k, .slice x.f.a x.f.l.length x.f.c, .slice x.a x.l.length x.c], .int .i64 ins] w (GoodPost R ar none w) := by
  have hr := hw.r
  have hz := hw.z
  have hRl := hw.lt
  have e0 : ((r + 1 : Nat) : Int) = (r : Int) + 1 := by omega
  rw [e0] at hr
  have e1 : (((r : Int) + 1) == 0) = false := by simp; omega
  have fin : ∀ nq, GoodPost R ar none w (.returned (.bool false)) ((wTop R r x w).drewN nq) := by
    intro nq
    have hb : Below (w.setCell ⟨R, 1, none⟩ (.int .i64 (r : Int))).heap.size (w.setCell ⟨R, 1, none⟩ (.int .i64 (r : Int))) ((wTop R r x w).drewN nq) := below_dN ((Below.refl _ _).alloc (Nat.le_refl _) _) _
    exact ⟨r, rfl, (WS.set hw).below hb, (fun q h => by cases h), setR_kept.trans (Kept.of_below hb)⟩
  have FIN : Hid (∀ nq, GoodPost R ar none w (.returned (.bool false)) ((wTop R r x w).drewN nq)) := fin
  clear fin
  by_cases hk1 : 1 ≤ x.k
  · have hd1 : decide (x.k < 1) = false := by simp; omega
    by_cases hk2 : x.k ≤ 9
    · have hd2 : decide (9 < x.k) = false := by simp; omega
      have hp := parts_cell hg x.k hk1 hk2
      have hlen : (x.l.length == partsOf x.k) = false := by
        have a1 : decide (1 ≤ x.k) = true := by simp [hk1]
        have a2 : decide (x.k ≤ 9) = true := by simp [hk2]
        rw [a1, a2] at hok
        simpa using hok
      have hne := len_ne _ _ hlen
      have hne2 : ((x.l.length : Int) != (partsOf x.k : Int)) = true := by rw [bne, hne]; rfl
      have i0 : (0 : Int) ≤ x.k := by omega
      have i1 : x.k < 10 := by omega
      have n2 : (0 : Nat) ≠ R := by omega
      have h2l : 0 < w.heap.size := by have := hg.size; omega
      clear hok hlen hk1 hk2 hg
      go_enter Tryz.func46, Tryz.ntmps46
      go_wp2_with fail
      go_quiet (fail)
      go_wp2_with fail
      go_ret
      exact FIN.out _
    · have hd2 : decide (9 < x.k) = true := by simp; omega
      clear hok hk2
      go_enter Tryz.func46, Tryz.ntmps46
      go_wp2_with fail
      go_quiet (fail)
      go_wp2_with fail
      go_ret
      exact FIN.out _
  · have hd1 : decide (x.k < 1) = true := by simp; omega
    clear hok hk1
    go_enter Tryz.func46, Tryz.ntmps46
    go_wp2_with fail
    go_quiet (fail)
    go_wp2_with fail
    go_ret
    exact FIN.out _
end Go.Proofs.YtnddkmccagiclabGreatDoor

/-
  What the call of (*walk).good answers, at whatever term lies in memory.
-/
namespace Go.Proofs.YtnddkmccagiclabGreatDoor
open Go.RowKit
theorem wTop_kept (R r : Nat) (x : TT) (w : World) (nq : Nat) : Kept R none w ((wTop R r x w).drewN nq) :=
  setR_kept.trans (Kept.of_below (below_dN ((Below.refl _ _).alloc (Nat.le_refl _) _) _))
theorem wTop_ws {R r : Nat} {ar : Int} {room : Nat} {x : TT} {w : World} {nq : Nat} (h : WS R ar room w) : WS R ar r ((wTop R r x w).drewN nq) :=
  (WS.set h).below (below_dN ((Below.refl _ _).alloc (Nat.le_refl _) _) _)
/-- The box's cells. -/
theorem wTop_cells (R r : Nat) (x : TT) (w : World) (nq : Nat) : At7 ((wTop R r x w).drewN nq) w.heap.size 0 x := by
  have hs : (w.setCell ⟨R, 1, none⟩ (.int .i64 (r : Int))).heap.size = w.heap.size := by simp [World.setCell]
  rw [← hs]
  constructor <;> simp [wTop, go_sem]
set_option maxHeartbeats 2000000 in
theorem goodW_bad2 (R : Nat) (ar : Int) (r : Nat) (hr1 : r ≤ 1000) (ins : Nat) (hi : ins ≤ 1000) (x : TT) (w : World) (hg : Gp w) (hR : 1 ≤ R) (hw : WS R ar (r + 1) w)
    (hx : x.In w) (hbl : x.Bl (· ≠ R)) (hnb : x.nb) (hk1 : 1 ≤ x.k) (hk2 : x.k ≤ 9) (hlen : x.l.length = partsOf x.k)
    (hok : (okTypes x.k x.t.ty x.f.ty && okNum ar (ins : Int) x.k x.n) = false) :
    Calls Tryz.prog 46 #[.pointer (some ⟨R, 0, none⟩), .agg #[.int .i64 x.k, .int .i64 x.n, .int .i64 x.t.k, .slice x.t.a x.t.l.length x.t.c, .int .i64 x.f.k, .slice x.f.a x.f.l.length x.f.c, .slice x.a x.l.length x.c], .int .i64 (ins : Int)] w (GoodPost R ar none w) := by
  have hr := hw.r
  have hz := hw.z
  have hRl := hw.lt
  have e0 : ((r + 1 : Nat) : Int) = (r : Int) + 1 := by omega
  rw [e0] at hr
  have e1 : (((r : Int) + 1) == 0) = false := by simp; omega
  have hd1 : decide (x.k < 1) = false := by simp; omega
  have hd2 : decide (9 < x.k) = false := by simp; omega
  have hp := parts_cell hg x.k hk1 hk2
  have hne : ((x.l.length : Int) == (partsOf x.k : Int)) = true := by rw [hlen]; simp
  have hne2 : ((x.l.length : Int) != (partsOf x.k : Int)) = false := by rw [bne, hne]; rfl
  have i0 : (0 : Int) ≤ x.k := by omega
  have i1 : x.k < 10 := by omega
  have n2 : (0 : Nat) ≠ R := by omega
  have h2l : 0 < w.heap.size := by have := hg.size; omega
  have HX : Hid (∀ nq, x.In ((wTop R r x w).drewN nq)) := fun nq => hx.keptR (wTop_kept R r x w nq) hbl
  have HW : Hid (∀ nq, WS R ar r ((wTop R r x w).drewN nq)) := fun nq => wTop_ws hw
  have HB : Hid (∀ nq, At7 ((wTop R r x w).drewN nq) w.heap.size 0 x) := fun nq => wTop_cells R r x w nq
  have HNB : Hid (x.n ≤ 9223372036854775807) := hnb.n
  have HOK : Hid ((okTypes x.k x.t.ty x.f.ty && okNum ar (ins : Int) x.k x.n) = false) := hok
  obtain ⟨bt, hbt⟩ : ∃ b, okTypes x.k x.t.ty x.f.ty = b := ⟨_, rfl⟩
  have HT : Hid (∀ W, x.In W → Calls Tryz.prog 80 #[.agg #[.int .i64 x.k, .int .i64 x.n, .int .i64 x.t.k, .slice x.t.a x.t.l.length x.t.c, .int .i64 x.f.k, .slice x.f.a x.f.l.length x.f.c, .slice x.a x.l.length x.c]] W fun e w' => e = .returned (.bool bt) ∧ Below W.heap.size W w') := by
    intro W h
    have := goodTypes_any x W h.t h.f
    rw [hbt] at this
    exact this
  have HBT : Hid (okTypes x.k x.t.ty x.f.ty = bt) := hbt
  clear hok hlen hk1 hk2 hg hbt hbl hx hw hnb
  cases bt
  · go_enter Tryz.func46, Tryz.ntmps46
    go_wp2_with fail
    go_quiet (fail)
    go_wp2_with fail
    refine (HT.out _ (HX.out nq)).mono ?_
    rintro e w1 ⟨rfl, hb1⟩
    have HE : Hid (GoodPost R ar none w (.returned (.bool false)) w1) := ⟨r, rfl, (HW.out nq).below hb1, (fun q h => by cases h), (wTop_kept R r x w nq).trans (Kept.of_below hb1)⟩
    clear hb1
    go_wp2_with fail
    go_ret
    exact HE.out
  · have hbn : Hid (okNum ar (ins : Int) x.k x.n = false) := by have := HOK.out; rw [HBT.out] at this; simpa [Hid] using this
    go_enter Tryz.func46, Tryz.ntmps46
    go_wp2_with fail
    go_quiet (fail)
    go_wp2_with fail
    refine (HT.out _ (HX.out nq)).mono ?_
    rintro e w1 ⟨rfl, hb1⟩
    have HN : Hid (Calls Tryz.prog 81 #[.pointer (some ⟨R, 0, none⟩), .agg #[.int .i64 x.k, .int .i64 x.n, .int .i64 x.t.k, .slice x.t.a x.t.l.length x.t.c, .int .i64 x.f.k, .slice x.f.a x.f.l.length x.f.c, .slice x.a x.l.length x.c], .int .i64 (ins : Int)] w1 fun e w' => e = .returned (.bool false) ∧ Below w1.heap.size w1 w') := by
      have := goodNumber_any R ar ins hi x HNB.out w1 ((HW.out nq).below hb1).a
      rw [hbn.out] at this
      exact this
    have HE : Hid (WS R ar r w1 ∧ Kept R none w w1) := ⟨(HW.out nq).below hb1, (wTop_kept R r x w nq).trans (Kept.of_below hb1)⟩
    have h7 := (HB.out nq).below hb1
    have c0 := h7.c0
    have c1 := h7.c1
    have c2 := h7.c2
    have c3 := h7.c3
    have c4 := h7.c4
    have c5 := h7.c5
    have c6 := h7.c6
    simp only [Nat.zero_add] at c0 c1 c2 c3 c4 c5 c6
    clear hb1 h7
    go_wp2_with fail
    refine HN.out.mono ?_
    rintro e w2 ⟨rfl, hb2⟩
    have HE2 : Hid (GoodPost R ar none w (.returned (.bool false)) w2) := ⟨r, rfl, HE.out.1.below hb2, (fun q h => by cases h), HE.out.2.trans (Kept.of_below hb2)⟩
    clear hb2 c0 c1 c2 c3 c4 c5 c6
    go_wp2_with fail
    go_ret
    exact HE2.out
set_option maxHeartbeats 4000000 in
theorem goodW_top (R : Nat) (ar : Int) (n r : Nat) (hr1 : r ≤ 1000) (ins : Nat) (hi : ins ≤ 1000) (x : TT) (w : World) (hg : Gp w) (hR : 1 ≤ R) (hw : WS R ar (r + 1) w) (hl : x.l.length ≤ 140737488355328)
    (hx : x.In w) (hbl : x.Bl (· ≠ R)) (hnb : x.nb) (hk1 : 1 ≤ x.k) (hk2 : x.k ≤ 9) (hlen : x.l.length = partsOf x.k)
    (hok1 : okTypes x.k x.t.ty x.f.ty = true) (hok2 : okNum ar (ins : Int) x.k x.n = true)
    (b7 : Bool) (h7 : (x.k == 7) = b7) (ins' : Nat) (hins : (ins' : Int) = if b7 = true then (ins : Int) + 1 else (ins : Int))
    (HC : Hid (∀ (j : Nat) (hj : j < x.l.length) (q : Nat) (W : World), q ≤ r → Gp W → WS R ar q W → x.l[j].In W → Calls Tryz.prog 46 #[.pointer (some ⟨R, 0, none⟩), .agg #[.int .i64 x.l[j].k, .int .i64 x.l[j].n, .int .i64 x.l[j].t.k, .slice x.l[j].t.a x.l[j].t.l.length x.l[j].t.c, .int .i64 x.l[j].f.k, .slice x.l[j].f.a x.l[j].f.l.length x.l[j].f.c, .slice x.l[j].a x.l[j].l.length x.l[j].c], .int .i64 (ins' : Int)] W (GoodPost R ar (goodS ar n (insOf x.k (ins : Int)) x.l[j].tm q) W)))
    (HM : Hid (∀ (y : TT) (q q' : Nat), y ∈ x.l → goodS ar n (insOf x.k (ins : Int)) y.tm q = some q' → q' ≤ q)) :
    Calls Tryz.prog 46 #[.pointer (some ⟨R, 0, none⟩), .agg #[.int .i64 x.k, .int .i64 x.n, .int .i64 x.t.k, .slice x.t.a x.t.l.length x.t.c, .int .i64 x.f.k, .slice x.f.a x.f.l.length x.f.c, .slice x.a x.l.length x.c], .int .i64 (ins : Int)] w (GoodPost R ar (bindL (fun (y : TT) r' => goodS ar n (insOf x.k (ins : Int)) y.tm r') x.l r) w) := by
  have hr := hw.r
  have hz := hw.z
  have hRl := hw.lt
  have e0 : ((r + 1 : Nat) : Int) = (r : Int) + 1 := by omega
  rw [e0] at hr
  have e1 : (((r : Int) + 1) == 0) = false := by simp; omega
  have hd1 : decide (x.k < 1) = false := by simp; omega
  have hd2 : decide (9 < x.k) = false := by simp; omega
  have hp := parts_cell hg x.k hk1 hk2
  have hne : ((x.l.length : Int) == (partsOf x.k : Int)) = true := by rw [hlen]; simp
  have hne2 : ((x.l.length : Int) != (partsOf x.k : Int)) = false := by rw [bne, hne]; rfl
  have i0 : (0 : Int) ≤ x.k := by omega
  have i1 : x.k < 10 := by omega
  have n2 : (0 : Nat) ≠ R := by omega
  have h2l : 0 < w.heap.size := by have := hg.size; omega
  have HX : Hid (∀ nq, x.In ((wTop R r x w).drewN nq)) := fun nq => hx.keptR (wTop_kept R r x w nq) hbl
  have HW : Hid (∀ nq, WS R ar r ((wTop R r x w).drewN nq)) := fun nq => wTop_ws hw
  have HB : Hid (∀ nq, At7 ((wTop R r x w).drewN nq) w.heap.size 0 x) := fun nq => wTop_cells R r x w nq
  have HNB : Hid (x.n ≤ 9223372036854775807) := hnb.n
  have HT : Hid (∀ W, x.In W → Calls Tryz.prog 80 #[.agg #[.int .i64 x.k, .int .i64 x.n, .int .i64 x.t.k, .slice x.t.a x.t.l.length x.t.c, .int .i64 x.f.k, .slice x.f.a x.f.l.length x.f.c, .slice x.a x.l.length x.c]] W fun e w' => e = .returned (.bool true) ∧ Below W.heap.size W w') := by
    intro W h
    have := goodTypes_any x W h.t h.f
    rw [hok1] at this
    exact this
  have HOK : Hid (okNum ar (ins : Int) x.k x.n = true) := hok2
  have HG : Hid (Gp w) := hg
  have HBL : Hid (x.Bl (· ≠ R)) := hbl
  have HINS : Hid ((ins' : Int) = if b7 = true then (ins : Int) + 1 else (ins : Int)) := hins
  have hi1 : (ins : Int) + 1 ≤ 1001 := by omega
  clear hok1 hok2 hlen hk1 hk2 hg hbl hx hw hnb hins
  cases b7
  all_goals
    go_enter Tryz.func46, Tryz.ntmps46
    go_wp2_with fail
    go_quiet (fail)
    go_wp2_with fail
    refine (HT.out _ (HX.out nq)).mono ?_
    rintro e w1 ⟨rfl, hb1⟩
    have HN : Hid (Calls Tryz.prog 81 #[.pointer (some ⟨R, 0, none⟩), .agg #[.int .i64 x.k, .int .i64 x.n, .int .i64 x.t.k, .slice x.t.a x.t.l.length x.t.c, .int .i64 x.f.k, .slice x.f.a x.f.l.length x.f.c, .slice x.a x.l.length x.c], .int .i64 (ins : Int)] w1 fun e w' => e = .returned (.bool true) ∧ Below w1.heap.size w1 w') := by
      have := goodNumber_any R ar ins hi x HNB.out w1 ((HW.out nq).below hb1).a
      rw [HOK.out] at this
      exact this
    have HE : Hid (WS R ar r w1 ∧ Kept R none w w1 ∧ x.In w1 ∧ At7 w1 w.heap.size 0 x) := ⟨(HW.out nq).below hb1, (wTop_kept R r x w nq).trans (Kept.of_below hb1), (HX.out nq).below hb1, (HB.out nq).below hb1⟩
    obtain ⟨_, _, _, c0, c1, c2, c3, c4, c5, c6⟩ := HE.out
    simp only [Nat.zero_add] at c0 c1 c2 c3 c4 c5 c6
    clear hb1
    go_wp2_with fail
    refine HN.out.mono ?_
    rintro e w2 ⟨rfl, hb2⟩
    have HE2 : Hid (WS R ar r w2 ∧ Kept R none w w2 ∧ x.In w2 ∧ Gp w2) := ⟨HE.out.1.below hb2, HE.out.2.1.trans (Kept.of_below hb2), HE.out.2.2.1.below hb2, (HG.out.kept hR HE.out.2.1).below hb2⟩
    replace c0 := cell_later hb2 c0
    replace c6 := cell_later hb2 c6
    clear hb2 c1 c2 c3 c4 c5 HE HN HX HW HB
    go_wp2_with fail
    go_loopg [57] x.l.length (fun g i wr => ∃ (j q : Nat), g + j = x.l.length ∧ i = .int .i64 (j : Int) ∧ Hid (q ≤ r ∧ bindL (fun (y : TT) r' => goodS ar n (insOf x.k (ins : Int)) y.tm r') x.l r = bindL (fun (y : TT) r' => goodS ar n (insOf x.k (ins : Int)) y.tm r') (x.l.drop j) q ∧ WS R ar q wr ∧ Kept R none w2 wr))
    case atStart => exact ⟨0, r, by omega, rfl, Nat.le_refl _, rfl, HE2.out.1, Kept.of_below (Below.refl _ _)⟩
    case round =>
      obtain ⟨j, q, hj, rfl, HQ⟩ := hrel
      by_cases hlt : j < x.l.length
      · obtain ⟨b, o, ea, h7', hxj⟩ := HE2.out.2.2.1.part j hlt
        have hbR : b ≠ R := HBL.out.own (by intro e; rw [e] at hlt; simp at hlt) _ ea
        have h8 := h7'.keptR HQ.out.2.2.2 hbR
        have d0 := h8.c0
        have d1 := h8.c1
        have d2 := h8.c2
        have d3 := h8.c3
        have d4 := h8.c4
        have d5 := h8.c5
        have d6 := h8.c6
        have hxr := hxj.keptR HQ.out.2.2.2 (HBL.out.mem (List.getElem_mem hlt))
        have HXR : Hid (x.l[j].In wr) := hxr
        have hR2 : wr.heap.size ≠ R := by have := HQ.out.2.2.1.lt; omega
        have i2 : (j : Int) < (x.l.length : Int) := by omega
        have i3 : (0 : Int) ≤ (j : Int) := by omega
        have HEA : Hid (x.a = some ⟨b, o, none⟩) := ea
        rw [ea]
        have hbp : ∀ o, Below wr.heap.size wr (wr.alloc o) := fun o => (Below.refl _ _).alloc (Nat.le_refl _) _
        have HP : Hid (∀ o, Calls Tryz.prog 46 #[.pointer (some ⟨R, 0, none⟩), .agg #[.int .i64 x.l[j].k, .int .i64 x.l[j].n, .int .i64 x.l[j].t.k, .slice x.l[j].t.a x.l[j].t.l.length x.l[j].t.c, .int .i64 x.l[j].f.k, .slice x.l[j].f.a x.l[j].f.l.length x.l[j].f.c, .slice x.l[j].a x.l[j].l.length x.l[j].c], .int .i64 (ins' : Int)] (wr.alloc o) (GoodPost R ar (goodS ar n (insOf x.k (ins : Int)) x.l[j].tm q) (wr.alloc o))) := fun o => HC.out j hlt q _ HQ.out.1 ((HE2.out.2.2.2.kept hR HQ.out.2.2.2).below (hbp o)) (HQ.out.2.2.1.below (hbp o)) (HXR.out.below (hbp o))
        rw [HINS.out] at HP
        clear h7' hxj h8 hxr ea hbp
        simp only [Bool.false_eq_true, if_false, if_true] at HP
        go_wp2_with fail
        refine (HP.out _).mono ?_
        rintro e w3 ⟨r3, rfl, hw3, hs3, hk3⟩
        have hk4 : Kept R none w2 w3 := (HQ.out.2.2.2.trans (Kept.of_below ((Below.refl _ _).alloc (Nat.le_refl _) _))).trans hk3
        have HS : Hid (x.l.drop j = x.l[j] :: x.l.drop (j + 1)) := List.drop_eq_getElem_cons hlt
        cases ho : goodS ar n (insOf x.k (ins : Int)) x.l[j].tm q with
        | none =>
          have HF : Hid (GoodPost R ar (bindL (fun (y : TT) r' => goodS ar n (insOf x.k (ins : Int)) y.tm r') x.l r) w (.returned (.bool false)) w3) := by
            have e : bindL (fun (y : TT) r' => goodS ar n (insOf x.k (ins : Int)) y.tm r') x.l r = none := by rw [HQ.out.2.1, HS.out, bindL, ho]; rfl
            rw [e]
            exact ⟨r3, rfl, hw3, (fun q h => by cases h), HE2.out.2.1.trans hk4⟩
          clear hw3 hs3 hk3 hk4 ho HQ HP HXR d0 d1 d2 d3 d4 d5 d6
          simp only [Option.isSome_none]
          go_wp2_with fail
          go_ret
          exact HF.out
        | some q' =>
          have HF : Hid (q' ≤ r ∧ bindL (fun (y : TT) r' => goodS ar n (insOf x.k (ins : Int)) y.tm r') x.l r = bindL (fun (y : TT) r' => goodS ar n (insOf x.k (ins : Int)) y.tm r') (x.l.drop (j + 1)) q' ∧ WS R ar q' w3 ∧ Kept R none w2 w3) := by
            have e := hs3 q' ho
            subst e
            refine ⟨Nat.le_trans (HM.out _ q q' (List.getElem_mem hlt) ho) HQ.out.1, ?_, hw3, hk4⟩
            rw [HQ.out.2.1, HS.out, bindL, ho]
            rfl
          clear hw3 hs3 hk3 hk4 ho HQ HP HXR d0 d1 d2 d3 d4 d5 d6
          simp only [Option.isSome_some]
          go_wp2_with fail
          rw [← HEA.out]
          go_roundg (x.l.length - (j + 1))
          case measure => omega
          case rel => exact ⟨j + 1, q', by omega, by go_num, HF⟩
      · have HF : Hid (GoodPost R ar (bindL (fun (y : TT) r' => goodS ar n (insOf x.k (ins : Int)) y.tm r') x.l r) w (.returned (.bool true)) wr) := by
          have e : bindL (fun (y : TT) r' => goodS ar n (insOf x.k (ins : Int)) y.tm r') x.l r = some q := by rw [HQ.out.2.1, List.drop_eq_nil_of_le (by omega), bindL]
          rw [e]
          exact ⟨q, rfl, HQ.out.2.2.1, (fun q h => by cases h; rfl), HE2.out.2.1.trans HQ.out.2.2.2⟩
        clear HQ
        go_wp2_with fail
        go_ret
        exact HF.out
end Go.Proofs.YtnddkmccagiclabGreatDoor

/-
  What the calls of (*walk).good and term.Good answer, at whatever term lies in memory.
-/
namespace Go.Proofs.YtnddkmccagiclabGreatDoor
open Go.RowKit
theorem bindL_map {α β : Type} (g : α → β) (f : β → Nat → Option Nat) : ∀ (l : List α) (r : Nat), bindL f (l.map g) r = bindL (fun y r' => f (g y) r') l r
  | [], r => rfl
  | x :: l, r => by
    simp only [List.map_cons, bindL]
    cases f (g x) r with
    | none => rfl
    | some q => exact bindL_map g f l q
theorem bindL_le {α : Type} (f : α → Nat → Option Nat) (hf : ∀ y q q', f y q = some q' → q' ≤ q) : ∀ (l : List α) (r r' : Nat), bindL f l r = some r' → r' ≤ r
  | [], r, r', h => by simp [bindL] at h; omega
  | x :: l, r, r', h => by
    simp only [bindL] at h
    cases hq : f x r with
    | none => rw [hq] at h; cases h
    | some q =>
      rw [hq] at h
      have := hf x r q hq
      have := bindL_le f hf l q r' h
      omega
theorem goodS_le (ar : Int) : ∀ (n : Nat) (ins : Int) (x : Tm) (r r' : Nat), goodS ar n ins x r = some r' → r' ≤ r
  | 0, _, _, _, _, h => by simp [goodS] at h
  | n + 1, ins, x, 0, _, h => by simp [goodS] at h
  | n + 1, ins, x, r + 1, r', h => by
    simp only [goodS] at h
    split at h
    · have := bindL_le _ (fun y q q' h => goodS_le ar n (insOf x.k ins) y q q' h) x.l r r' h
      omega
    · cases h
theorem parts_le (k : Int) : partsOf k ≤ 3 := by
  unfold partsOf
  repeat' split
  all_goals omega
theorem goodW_any (R : Nat) (ar : Int) (hR : 1 ≤ R) (n : Nat) : n ≤ 500 → ∀ (ins : Nat) (x : TT) (r : Nat) (w : World), r ≤ n → ins + n ≤ 1000 → Gp w → WS R ar r w → x.In w → x.Bl (· ≠ R) → x.nb →
    Calls Tryz.prog 46 #[.pointer (some ⟨R, 0, none⟩), .agg #[.int .i64 x.k, .int .i64 x.n, .int .i64 x.t.k, .slice x.t.a x.t.l.length x.t.c, .int .i64 x.f.k, .slice x.f.a x.f.l.length x.f.c, .slice x.a x.l.length x.c], .int .i64 (ins : Int)] w (GoodPost R ar (goodS ar n (ins : Int) x.tm r) w) := by
  induction n with
  | zero =>
    intro _ ins x r w hr _ _ hw _ _ _
    obtain rfl : r = 0 := by omega
    exact goodW_none R ar _ x w hw
  | succ n ih =>
    intro hn ins x r w hr hi hg hw hx hbl hnb
    cases r with
    | zero => exact goodW_none R ar _ x w hw
    | succ r =>
      have e : goodS ar (n + 1) (ins : Int) x.tm (r + 1) = if okTop ar (ins : Int) x.tm = true then bindL (fun (y : TT) r' => goodS ar n (insOf x.k (ins : Int)) y.tm r') x.l r else none := by
        rw [goodS, TT.tm_l, TT.tm_k, bindL_map]
      rw [e]
      have ho : okTop ar (ins : Int) x.tm = ((decide (1 ≤ x.k) && decide (x.k ≤ 9) && (x.l.length == partsOf x.k)) && (okTypes x.k x.t.ty x.f.ty && okNum ar (ins : Int) x.k x.n)) := by
        rw [okTop, TT.tm_l, TT.tm_k, TT.tm_n, TT.tm_t, TT.tm_f, List.length_map]
      rw [ho]
      by_cases h1 : (decide (1 ≤ x.k) && decide (x.k ≤ 9) && (x.l.length == partsOf x.k)) = true
      · have h1' := h1
        simp only [Bool.and_eq_true, decide_eq_true_eq, beq_iff_eq] at h1'
        obtain ⟨⟨hk1, hk2⟩, hlen⟩ := h1'
        have hp := parts_le x.k
        by_cases h2 : (okTypes x.k x.t.ty x.f.ty && okNum ar (ins : Int) x.k x.n) = true
        · rw [h1, h2, Bool.and_self, if_pos rfl]
          simp only [Bool.and_eq_true] at h2
          by_cases h7 : x.k = 7
          · refine goodW_top R ar n r (by omega) ins (by omega) x w hg hR hw (by omega) hx hbl hnb hk1 hk2 hlen h2.1 h2.2 true (by simp [h7]) (ins + 1) (by simp) ?_ ?_
            · intro j hj q W hq hgW hwW hxW
              have := ih (by omega) (ins + 1) x.l[j] q W (by omega) (by omega) hgW hwW hxW (hbl.mem (List.getElem_mem hj)) (hnb.mem (List.getElem_mem hj))
              have e : insOf x.k (ins : Int) = ((ins + 1 : Nat) : Int) := by rw [insOf, if_pos h7]; omega
              rw [e]
              exact this
            · intro y q q' _ h
              exact goodS_le _ _ _ _ _ _ h
          · refine goodW_top R ar n r (by omega) ins (by omega) x w hg hR hw (by omega) hx hbl hnb hk1 hk2 hlen h2.1 h2.2 false (by simp [h7]) ins (by simp) ?_ ?_
            · intro j hj q W hq hgW hwW hxW
              have := ih (by omega) ins x.l[j] q W (by omega) (by omega) hgW hwW hxW (hbl.mem (List.getElem_mem hj)) (hnb.mem (List.getElem_mem hj))
              have e : insOf x.k (ins : Int) = (ins : Int) := by rw [insOf, if_neg h7]
              rw [e]
              exact this
            · intro y q q' _ h
              exact goodS_le _ _ _ _ _ _ h
        · have h2' : (okTypes x.k x.t.ty x.f.ty && okNum ar (ins : Int) x.k x.n) = false := by simpa using h2
          rw [h2', Bool.and_false, if_neg (by simp)]
          exact goodW_bad2 R ar r (by omega) ins (by omega) x w hg hR hw hx hbl hnb hk1 hk2 hlen h2'
      · have h1' : (decide (1 ≤ x.k) && decide (x.k ≤ 9) && (x.l.length == partsOf x.k)) = false := by simpa using h1
        rw [h1', Bool.false_and, if_neg (by simp)]
        exact goodW_bad1 R ar r (by omega) _ x w hg hR hw h1'
/-- Is it good within so many functions? -/
def goodM (ar : Int) (x : Tm) : Bool := (goodS ar 40 0 x 40).isSome
set_option maxHeartbeats 400000 in
/-- term.Good. -/
theorem goodTm_any (x : TT) (ar : Int) (w : World) (hg : Gp w) (hx : x.In w) (hnb : x.nb) :
    Calls Tryz.prog 29 #[.agg #[.int .i64 x.k, .int .i64 x.n, .int .i64 x.t.k, .slice x.t.a x.t.l.length x.t.c, .int .i64 x.f.k, .slice x.f.a x.f.l.length x.f.c, .slice x.a x.l.length x.c], .int .i64 ar] w fun e w' => e = .returned (.bool (goodM ar x.tm)) ∧ Below w.heap.size w w' := by
  have hgs := hg.size
  have hb0 : ∀ o, Below w.heap.size w (w.alloc o) := fun o => (Below.refl _ _).alloc (Nat.le_refl _) _
  have hb1 : ∀ o o', Below w.heap.size w ((w.alloc o).alloc o') := fun o o' => (hb0 o).alloc (by simp) _
  have HC : Hid (∀ W, Below w.heap.size w W → WS (w.heap.size + 1) ar 40 W → Calls Tryz.prog 46 #[.pointer (some ⟨w.heap.size + 1, 0, none⟩), .agg #[.int .i64 x.k, .int .i64 x.n, .int .i64 x.t.k, .slice x.t.a x.t.l.length x.t.c, .int .i64 x.f.k, .slice x.f.a x.f.l.length x.f.c, .slice x.a x.l.length x.c], .int .i64 0] W (GoodPost (w.heap.size + 1) ar (goodS ar 40 0 x.tm 40) W)) := by
    intro W hW hws
    exact goodW_any (w.heap.size + 1) ar (by omega) 40 (by omega) 0 x 40 W (Nat.le_refl _) (by omega) (hg.below hW) hws (hx.below hW) (hx.bl.mono fun b h => by omega) hnb
  have HB : Hid (∀ o o', Below w.heap.size w ((w.alloc o).alloc o')) := hb1
  clear hb0 hb1 hg hx hnb
  go_enter Tryz.func29, Tryz.ntmps29
  go_wp2_with fail
  refine (HC.out _ (HB.out _ _) ⟨by simp [go_sem], by simp [go_sem], by simp [go_sem]⟩).mono ?_
  rintro e w1 ⟨r, rfl, _, _, hk⟩
  have HF : Hid (Below w.heap.size w w1) := by
    have hs : ((w.alloc (.cells #[.int .i64 x.k, .int .i64 x.n, .int .i64 x.t.k, .slice x.t.a x.t.l.length x.t.c, .int .i64 x.f.k, .slice x.f.a x.f.l.length x.f.c, .slice x.a x.l.length x.c] 27)).alloc (.cells #[.int .i64 ar, .int .i64 40] 80)).heap.size = w.heap.size + 2 := by simp
    have := hk.size
    rw [hs] at this
    refine (HB.out (.cells #[.int .i64 x.k, .int .i64 x.n, .int .i64 x.t.k, .slice x.t.a x.t.l.length x.t.c, .int .i64 x.f.k, .slice x.f.a x.f.l.length x.f.c, .slice x.a x.l.length x.c] 27) (.cells #[.int .i64 ar, .int .i64 40] 80)).trans ?_
    exact ⟨hk.os, hk.tape, hk.output, hk.size, fun k h => hk.block k (by rw [hs]; omega) (by omega) (by simp)⟩
  clear hk
  go_wp2_with fail
  go_ret
  exact ⟨rfl, HF.out⟩
end Go.Proofs.YtnddkmccagiclabGreatDoor
