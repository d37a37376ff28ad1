/-
  What the calls of truthOf, typeKindOf, tellsType and isSpace answer.
-/
import Derived.Test.YtibjnkpmnimgoaaDoorRead
import Derived.Test.YtibjnkpmnimgoaaDoorSpec
namespace Go.Proofs.YtibjnkpmnimgoaaDoor
open Go.RowKit

set_option maxHeartbeats 400000 in
theorem tells_any (k : Int) (w : World) : Calls Tryd.prog 52 #[.int .i64 k] w fun e w' => e = .returned (.bool (tells k)) ∧ w' = w := by
  cases h7 : (k == 7) with
  | true =>
    go_enter Tryd.func52, Tryd.ntmps52
    go_wp2_with fail
    go_ret
    exact ⟨by simp [tells, h7], rfl⟩
  | false =>
    go_enter Tryd.func52, Tryd.ntmps52
    go_wp2_with fail
    go_ret
    exact ⟨by simp [tells, h7], rfl⟩

/-- What such a call answers: the number and whether it was found. -/
def foundV (o : Option Nat) : Value := .tuple #[.int .i64 ((o.getD 0 : Nat) : Int), .bool o.isSome]

theorem ne_of_beq {x y : ByteArray} (h : (x.toList == y.toList) = false) : x ≠ y := (Lib.bytes_beq_false_iff _ _).1 h

theorem idx84_0 (u v : Value) (w : World) : (Instr.index 84 (.agg #[u, v]) (.int .i64 0)).run Tryd.prog w = .ok u w := by
  simp [Instr.index, run_underlying Tryd.underlying84, go_sem]
theorem idx84_1 (u v : Value) (w : World) : (Instr.index 84 (.agg #[u, v]) (.int .i64 1)).run Tryd.prog w = .ok v w := by
  simp [Instr.index, run_underlying Tryd.underlying84, go_sem]

set_option maxRecDepth 20000 in
set_option maxHeartbeats 1000000 in
theorem truthOf_any (x : ByteArray) (w : World) (hg : Gl w) : Calls Tryd.prog 59 #[.string x] w fun e w' => e = .returned (foundV (atWord x truthWs 0)) ∧ w' = w := by
  have c0 := hg.tw.cell 0
  have c1 := hg.tw.cell 1
  simp only [List.getElem?_toArray, List.getElem?_cons_zero, List.getElem?_cons_succ] at c0 c1
  clear hg
  obtain ⟨b0, h0⟩ : ∃ b, ((⟨#[110, 111]⟩ : ByteArray).toList == x.toList) = b := ⟨_, rfl⟩
  obtain ⟨b1, h1⟩ : ∃ b, ((⟨#[121, 101, 115]⟩ : ByteArray).toList == x.toList) = b := ⟨_, rfl⟩
  have H0 : Hid (((⟨#[110, 111]⟩ : ByteArray).toList == x.toList) = b0) := h0
  have H1 : Hid (((⟨#[121, 101, 115]⟩ : ByteArray).toList == x.toList) = b1) := h1
  have k0 : ([110, 111] == x.toList) = b0 := by rw [← h0, Lib.toList_data ⟨#[110, 111]⟩]
  have k1 : ([121, 101, 115] == x.toList) = b1 := by rw [← h1, Lib.toList_data ⟨#[121, 101, 115]⟩]
  clear h0 h1
  have x0 := idx84_0 (.string ⟨#[110, 111]⟩) (.string ⟨#[121, 101, 115]⟩)
  have x1 := idx84_1 (.string ⟨#[110, 111]⟩) (.string ⟨#[121, 101, 115]⟩)
  go_enter Tryd.func59, Tryd.ntmps59
  go_wp2_with fail
  go_loopg [7] 2 (fun k i wr => ∃ j : Nat, k + j = 2 ∧ i = .int .i64 (j : Int) ∧ wr = w ∧ Hid ((1 ≤ j → b0 = false) ∧ (2 ≤ j → b1 = false)))
  case atStart => exact ⟨0, rfl, rfl, rfl, fun h => absurd h (by omega), fun h => absurd h (by omega)⟩
  case round =>
    obtain ⟨j, hj, rfl, rfl, HJ⟩ := hrel
    obtain rfl | rfl | rfl : j = 0 ∨ j = 1 ∨ j = 2 := by omega
    · cases b0
      · go_wp2_with fail
        go_roundg 1
        case measure => omega
        case rel => exact ⟨1, rfl, rfl, rfl, fun _ => trivial, fun h => absurd h (by omega)⟩
      · go_wp2_with fail
        refine bodyPost_ret (v := .tuple #[.int .i64 0, .bool true]) (by simp [results, Tryd.results59, go_sem]) rfl ⟨?_, rfl⟩
        rw [← (Lib.bytes_beq_iff _ _).1 H0.out]
        rfl
    · obtain rfl := HJ.out.1 (by omega)
      cases b1
      · go_wp2_with fail
        go_roundg 0
        case measure => omega
        case rel => exact ⟨2, rfl, rfl, rfl, fun _ => trivial, fun _ => trivial⟩
      · go_wp2_with fail
        refine bodyPost_ret (v := .tuple #[.int .i64 1, .bool true]) (by simp [results, Tryd.results59, go_sem]) rfl ⟨?_, rfl⟩
        rw [← (Lib.bytes_beq_iff _ _).1 H1.out]
        rfl
    · obtain rfl := HJ.out.1 (by omega)
      obtain rfl := HJ.out.2 (by omega)
      go_wp2_with fail
      refine bodyPost_ret (v := .tuple #[.int .i64 0, .bool false]) (by simp [results, Tryd.results59, go_sem]) rfl ⟨?_, rfl⟩
      simp [foundV, atWord, truthWs, ne_of_beq H0.out, ne_of_beq H1.out]

theorem idx123_0 (u v t : Value) (w : World) : (Instr.index 123 (.agg #[u, v, t]) (.int .i64 0)).run Tryd.prog w = .ok u w := by
  simp [Instr.index, run_underlying Tryd.underlying123, go_sem]
theorem idx123_1 (u v t : Value) (w : World) : (Instr.index 123 (.agg #[u, v, t]) (.int .i64 1)).run Tryd.prog w = .ok v w := by
  simp [Instr.index, run_underlying Tryd.underlying123, go_sem]
theorem idx123_2 (u v t : Value) (w : World) : (Instr.index 123 (.agg #[u, v, t]) (.int .i64 2)).run Tryd.prog w = .ok t w := by
  simp [Instr.index, run_underlying Tryd.underlying123, go_sem]

set_option maxRecDepth 20000 in
set_option maxHeartbeats 1000000 in
theorem typeKindOf_any (x : ByteArray) (w : World) (hg : Gl w) : Calls Tryd.prog 106 #[.string x] w fun e w' => e = .returned (foundV (atWord x typeWs 0)) ∧ w' = w := by
  have c0 := hg.ty.cell 0
  have c1 := hg.ty.cell 1
  have c2 := hg.ty.cell 2
  simp only [List.getElem?_toArray, List.getElem?_cons_zero, List.getElem?_cons_succ] at c0 c1 c2
  clear hg
  obtain ⟨b0, h0⟩ : ∃ b, ((⟨#[97, 110, 121]⟩ : ByteArray).toList == x.toList) = b := ⟨_, rfl⟩
  obtain ⟨b1, h1⟩ : ∃ b, ((⟨#[110, 117, 109]⟩ : ByteArray).toList == x.toList) = b := ⟨_, rfl⟩
  obtain ⟨b2, h2⟩ : ∃ b, ((⟨#[116, 114, 117, 116, 104]⟩ : ByteArray).toList == x.toList) = b := ⟨_, rfl⟩
  have H0 : Hid (((⟨#[97, 110, 121]⟩ : ByteArray).toList == x.toList) = b0) := h0
  have H1 : Hid (((⟨#[110, 117, 109]⟩ : ByteArray).toList == x.toList) = b1) := h1
  have H2 : Hid (((⟨#[116, 114, 117, 116, 104]⟩ : ByteArray).toList == x.toList) = b2) := h2
  have k0 : ([97, 110, 121] == x.toList) = b0 := by rw [← h0, Lib.toList_data ⟨#[97, 110, 121]⟩]
  have k1 : ([110, 117, 109] == x.toList) = b1 := by rw [← h1, Lib.toList_data ⟨#[110, 117, 109]⟩]
  have k2 : ([116, 114, 117, 116, 104] == x.toList) = b2 := by rw [← h2, Lib.toList_data ⟨#[116, 114, 117, 116, 104]⟩]
  clear h0 h1 h2
  have x0 := idx123_0 (.string ⟨#[97, 110, 121]⟩) (.string ⟨#[110, 117, 109]⟩) (.string ⟨#[116, 114, 117, 116, 104]⟩)
  have x1 := idx123_1 (.string ⟨#[97, 110, 121]⟩) (.string ⟨#[110, 117, 109]⟩) (.string ⟨#[116, 114, 117, 116, 104]⟩)
  have x2 := idx123_2 (.string ⟨#[97, 110, 121]⟩) (.string ⟨#[110, 117, 109]⟩) (.string ⟨#[116, 114, 117, 116, 104]⟩)
  go_enter Tryd.func106, Tryd.ntmps106
  go_wp2_with fail
  go_loopg [7] 3 (fun k i wr => ∃ j : Nat, k + j = 3 ∧ i = .int .i64 (j : Int) ∧ wr = w ∧ Hid ((1 ≤ j → b0 = false) ∧ (2 ≤ j → b1 = false) ∧ (3 ≤ j → b2 = false)))
  case atStart => exact ⟨0, rfl, rfl, rfl, fun h => absurd h (by omega), fun h => absurd h (by omega), fun h => absurd h (by omega)⟩
  case round =>
    obtain ⟨j, hj, rfl, rfl, HJ⟩ := hrel
    obtain rfl | rfl | rfl | rfl : j = 0 ∨ j = 1 ∨ j = 2 ∨ j = 3 := by omega
    · cases b0
      · go_wp2_with fail
        go_roundg 2
        case measure => omega
        case rel => exact ⟨1, rfl, rfl, rfl, fun _ => trivial, fun h => absurd h (by omega), fun h => absurd h (by omega)⟩
      · go_wp2_with fail
        refine bodyPost_ret (v := .tuple #[.int .i64 0, .bool true]) (by simp [results, Tryd.results106, go_sem]) rfl ⟨?_, rfl⟩
        rw [← (Lib.bytes_beq_iff _ _).1 H0.out]
        rfl
    · obtain rfl := HJ.out.1 (by omega)
      cases b1
      · go_wp2_with fail
        go_roundg 1
        case measure => omega
        case rel => exact ⟨2, rfl, rfl, rfl, fun _ => trivial, fun _ => trivial, fun h => absurd h (by omega)⟩
      · go_wp2_with fail
        refine bodyPost_ret (v := .tuple #[.int .i64 1, .bool true]) (by simp [results, Tryd.results106, go_sem]) rfl ⟨?_, rfl⟩
        rw [← (Lib.bytes_beq_iff _ _).1 H1.out]
        rfl
    · obtain rfl := HJ.out.1 (by omega)
      obtain rfl := HJ.out.2.1 (by omega)
      cases b2
      · go_wp2_with fail
        go_roundg 0
        case measure => omega
        case rel => exact ⟨3, rfl, rfl, rfl, fun _ => trivial, fun _ => trivial, fun _ => trivial⟩
      · go_wp2_with fail
        refine bodyPost_ret (v := .tuple #[.int .i64 2, .bool true]) (by simp [results, Tryd.results106, go_sem]) rfl ⟨?_, rfl⟩
        rw [← (Lib.bytes_beq_iff _ _).1 H2.out]
        rfl
    · obtain rfl := HJ.out.1 (by omega)
      obtain rfl := HJ.out.2.1 (by omega)
      obtain rfl := HJ.out.2.2 (by omega)
      go_wp2_with fail
      refine bodyPost_ret (v := .tuple #[.int .i64 0, .bool false]) (by simp [results, Tryd.results106, go_sem]) rfl ⟨?_, rfl⟩
      simp [foundV, atWord, typeWs, ne_of_beq H0.out, ne_of_beq H1.out, ne_of_beq H2.out]
end Go.Proofs.YtibjnkpmnimgoaaDoor
