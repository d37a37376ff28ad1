/-
  What the call of kindOf answers.
-/
import Derived.Test.YtibjnkpmnimgoaaDoorLook
namespace Go.Proofs.YtibjnkpmnimgoaaDoor
open Go.RowKit

theorem idx85_0 (v0 v1 v2 v3 v4 v5 v6 v7 v8 v9 : Value) (w : World) : (Instr.index 85 (.agg #[v0, v1, v2, v3, v4, v5, v6, v7, v8, v9]) (.int .i64 0)).run Tryd.prog w = .ok v0 w := by
  simp [Instr.index, run_underlying Tryd.underlying85, go_sem]
theorem idx85_1 (v0 v1 v2 v3 v4 v5 v6 v7 v8 v9 : Value) (w : World) : (Instr.index 85 (.agg #[v0, v1, v2, v3, v4, v5, v6, v7, v8, v9]) (.int .i64 1)).run Tryd.prog w = .ok v1 w := by
  simp [Instr.index, run_underlying Tryd.underlying85, go_sem]
theorem idx85_2 (v0 v1 v2 v3 v4 v5 v6 v7 v8 v9 : Value) (w : World) : (Instr.index 85 (.agg #[v0, v1, v2, v3, v4, v5, v6, v7, v8, v9]) (.int .i64 2)).run Tryd.prog w = .ok v2 w := by
  simp [Instr.index, run_underlying Tryd.underlying85, go_sem]
theorem idx85_3 (v0 v1 v2 v3 v4 v5 v6 v7 v8 v9 : Value) (w : World) : (Instr.index 85 (.agg #[v0, v1, v2, v3, v4, v5, v6, v7, v8, v9]) (.int .i64 3)).run Tryd.prog w = .ok v3 w := by
  simp [Instr.index, run_underlying Tryd.underlying85, go_sem]
theorem idx85_4 (v0 v1 v2 v3 v4 v5 v6 v7 v8 v9 : Value) (w : World) : (Instr.index 85 (.agg #[v0, v1, v2, v3, v4, v5, v6, v7, v8, v9]) (.int .i64 4)).run Tryd.prog w = .ok v4 w := by
  simp [Instr.index, run_underlying Tryd.underlying85, go_sem]
theorem idx85_5 (v0 v1 v2 v3 v4 v5 v6 v7 v8 v9 : Value) (w : World) : (Instr.index 85 (.agg #[v0, v1, v2, v3, v4, v5, v6, v7, v8, v9]) (.int .i64 5)).run Tryd.prog w = .ok v5 w := by
  simp [Instr.index, run_underlying Tryd.underlying85, go_sem]
theorem idx85_6 (v0 v1 v2 v3 v4 v5 v6 v7 v8 v9 : Value) (w : World) : (Instr.index 85 (.agg #[v0, v1, v2, v3, v4, v5, v6, v7, v8, v9]) (.int .i64 6)).run Tryd.prog w = .ok v6 w := by
  simp [Instr.index, run_underlying Tryd.underlying85, go_sem]
theorem idx85_7 (v0 v1 v2 v3 v4 v5 v6 v7 v8 v9 : Value) (w : World) : (Instr.index 85 (.agg #[v0, v1, v2, v3, v4, v5, v6, v7, v8, v9]) (.int .i64 7)).run Tryd.prog w = .ok v7 w := by
  simp [Instr.index, run_underlying Tryd.underlying85, go_sem]
theorem idx85_8 (v0 v1 v2 v3 v4 v5 v6 v7 v8 v9 : Value) (w : World) : (Instr.index 85 (.agg #[v0, v1, v2, v3, v4, v5, v6, v7, v8, v9]) (.int .i64 8)).run Tryd.prog w = .ok v8 w := by
  simp [Instr.index, run_underlying Tryd.underlying85, go_sem]
theorem idx85_9 (v0 v1 v2 v3 v4 v5 v6 v7 v8 v9 : Value) (w : World) : (Instr.index 85 (.agg #[v0, v1, v2, v3, v4, v5, v6, v7, v8, v9]) (.int .i64 9)).run Tryd.prog w = .ok v9 w := by
  simp [Instr.index, run_underlying Tryd.underlying85, go_sem]

set_option maxRecDepth 20000 in
set_option maxHeartbeats 2000000 in
theorem kindOf_any (x : ByteArray) (w : World) (hg : Gl w) : Calls Tryd.prog 84 #[.string x] w fun e w' => e = .returned (foundV (kindAt x)) ∧ w' = w := by
  have c0 := hg.wd.cell 0
  have c1 := hg.wd.cell 1
  have c2 := hg.wd.cell 2
  have c3 := hg.wd.cell 3
  have c4 := hg.wd.cell 4
  have c5 := hg.wd.cell 5
  have c6 := hg.wd.cell 6
  have c7 := hg.wd.cell 7
  have c8 := hg.wd.cell 8
  have c9 := hg.wd.cell 9
  simp only [List.getElem?_toArray, List.getElem?_cons_zero, List.getElem?_cons_succ] at c0 c1 c2 c3 c4 c5 c6 c7 c8 c9
  clear hg
  obtain ⟨be, he⟩ : ∃ b, x.toList.isEmpty = b := ⟨_, rfl⟩
  have HE : Hid (x.toList.isEmpty = be) := he
  obtain ⟨b4, h4⟩ : ∃ b, ((⟨#[97, 100, 100]⟩ : ByteArray).toList == x.toList) = b := ⟨_, rfl⟩
  have H4 : Hid (((⟨#[97, 100, 100]⟩ : ByteArray).toList == x.toList) = b4) := h4
  have k4 : ([97, 100, 100] == x.toList) = b4 := by rw [← h4, Lib.toList_data ⟨#[97, 100, 100]⟩]
  obtain ⟨b5, h5⟩ : ∃ b, ((⟨#[108, 101, 115, 115]⟩ : ByteArray).toList == x.toList) = b := ⟨_, rfl⟩
  have H5 : Hid (((⟨#[108, 101, 115, 115]⟩ : ByteArray).toList == x.toList) = b5) := h5
  have k5 : ([108, 101, 115, 115] == x.toList) = b5 := by rw [← h5, Lib.toList_data ⟨#[108, 101, 115, 115]⟩]
  obtain ⟨b6, h6⟩ : ∃ b, ((⟨#[105, 102]⟩ : ByteArray).toList == x.toList) = b := ⟨_, rfl⟩
  have H6 : Hid (((⟨#[105, 102]⟩ : ByteArray).toList == x.toList) = b6) := h6
  have k6 : ([105, 102] == x.toList) = b6 := by rw [← h6, Lib.toList_data ⟨#[105, 102]⟩]
  obtain ⟨b7, h7⟩ : ∃ b, ((⟨#[102, 117, 110]⟩ : ByteArray).toList == x.toList) = b := ⟨_, rfl⟩
  have H7 : Hid (((⟨#[102, 117, 110]⟩ : ByteArray).toList == x.toList) = b7) := h7
  have k7 : ([102, 117, 110] == x.toList) = b7 := by rw [← h7, Lib.toList_data ⟨#[102, 117, 110]⟩]
  obtain ⟨b8, h8⟩ : ∃ b, ((⟨#[99, 97, 108, 108]⟩ : ByteArray).toList == x.toList) = b := ⟨_, rfl⟩
  have H8 : Hid (((⟨#[99, 97, 108, 108]⟩ : ByteArray).toList == x.toList) = b8) := h8
  have k8 : ([99, 97, 108, 108] == x.toList) = b8 := by rw [← h8, Lib.toList_data ⟨#[99, 97, 108, 108]⟩]
  obtain ⟨b9, h9⟩ : ∃ b, ((⟨#[97, 115]⟩ : ByteArray).toList == x.toList) = b := ⟨_, rfl⟩
  have H9 : Hid (((⟨#[97, 115]⟩ : ByteArray).toList == x.toList) = b9) := h9
  have k9 : ([97, 115] == x.toList) = b9 := by rw [← h9, Lib.toList_data ⟨#[97, 115]⟩]
  clear h4 h5 h6 h7 h8 h9
  have x0 := idx85_0 (.string ⟨#[]⟩) (.string ⟨#[]⟩) (.string ⟨#[]⟩) (.string ⟨#[]⟩) (.string ⟨#[97, 100, 100]⟩) (.string ⟨#[108, 101, 115, 115]⟩) (.string ⟨#[105, 102]⟩) (.string ⟨#[102, 117, 110]⟩) (.string ⟨#[99, 97, 108, 108]⟩) (.string ⟨#[97, 115]⟩)
  have x1 := idx85_1 (.string ⟨#[]⟩) (.string ⟨#[]⟩) (.string ⟨#[]⟩) (.string ⟨#[]⟩) (.string ⟨#[97, 100, 100]⟩) (.string ⟨#[108, 101, 115, 115]⟩) (.string ⟨#[105, 102]⟩) (.string ⟨#[102, 117, 110]⟩) (.string ⟨#[99, 97, 108, 108]⟩) (.string ⟨#[97, 115]⟩)
  have x2 := idx85_2 (.string ⟨#[]⟩) (.string ⟨#[]⟩) (.string ⟨#[]⟩) (.string ⟨#[]⟩) (.string ⟨#[97, 100, 100]⟩) (.string ⟨#[108, 101, 115, 115]⟩) (.string ⟨#[105, 102]⟩) (.string ⟨#[102, 117, 110]⟩) (.string ⟨#[99, 97, 108, 108]⟩) (.string ⟨#[97, 115]⟩)
  have x3 := idx85_3 (.string ⟨#[]⟩) (.string ⟨#[]⟩) (.string ⟨#[]⟩) (.string ⟨#[]⟩) (.string ⟨#[97, 100, 100]⟩) (.string ⟨#[108, 101, 115, 115]⟩) (.string ⟨#[105, 102]⟩) (.string ⟨#[102, 117, 110]⟩) (.string ⟨#[99, 97, 108, 108]⟩) (.string ⟨#[97, 115]⟩)
  have x4 := idx85_4 (.string ⟨#[]⟩) (.string ⟨#[]⟩) (.string ⟨#[]⟩) (.string ⟨#[]⟩) (.string ⟨#[97, 100, 100]⟩) (.string ⟨#[108, 101, 115, 115]⟩) (.string ⟨#[105, 102]⟩) (.string ⟨#[102, 117, 110]⟩) (.string ⟨#[99, 97, 108, 108]⟩) (.string ⟨#[97, 115]⟩)
  have x5 := idx85_5 (.string ⟨#[]⟩) (.string ⟨#[]⟩) (.string ⟨#[]⟩) (.string ⟨#[]⟩) (.string ⟨#[97, 100, 100]⟩) (.string ⟨#[108, 101, 115, 115]⟩) (.string ⟨#[105, 102]⟩) (.string ⟨#[102, 117, 110]⟩) (.string ⟨#[99, 97, 108, 108]⟩) (.string ⟨#[97, 115]⟩)
  have x6 := idx85_6 (.string ⟨#[]⟩) (.string ⟨#[]⟩) (.string ⟨#[]⟩) (.string ⟨#[]⟩) (.string ⟨#[97, 100, 100]⟩) (.string ⟨#[108, 101, 115, 115]⟩) (.string ⟨#[105, 102]⟩) (.string ⟨#[102, 117, 110]⟩) (.string ⟨#[99, 97, 108, 108]⟩) (.string ⟨#[97, 115]⟩)
  have x7 := idx85_7 (.string ⟨#[]⟩) (.string ⟨#[]⟩) (.string ⟨#[]⟩) (.string ⟨#[]⟩) (.string ⟨#[97, 100, 100]⟩) (.string ⟨#[108, 101, 115, 115]⟩) (.string ⟨#[105, 102]⟩) (.string ⟨#[102, 117, 110]⟩) (.string ⟨#[99, 97, 108, 108]⟩) (.string ⟨#[97, 115]⟩)
  have x8 := idx85_8 (.string ⟨#[]⟩) (.string ⟨#[]⟩) (.string ⟨#[]⟩) (.string ⟨#[]⟩) (.string ⟨#[97, 100, 100]⟩) (.string ⟨#[108, 101, 115, 115]⟩) (.string ⟨#[105, 102]⟩) (.string ⟨#[102, 117, 110]⟩) (.string ⟨#[99, 97, 108, 108]⟩) (.string ⟨#[97, 115]⟩)
  have x9 := idx85_9 (.string ⟨#[]⟩) (.string ⟨#[]⟩) (.string ⟨#[]⟩) (.string ⟨#[]⟩) (.string ⟨#[97, 100, 100]⟩) (.string ⟨#[108, 101, 115, 115]⟩) (.string ⟨#[105, 102]⟩) (.string ⟨#[102, 117, 110]⟩) (.string ⟨#[99, 97, 108, 108]⟩) (.string ⟨#[97, 115]⟩)
  have HNE : Hid (∀ l : List UInt8, l ≠ [] → (l == x.toList) = true → be = false) := by
    intro l hl h
    have e : l = x.toList := by simpa using h
    rw [← HE.out, ← e]
    cases l with
    | nil => exact absurd rfl hl
    | cons _ _ => rfl
  go_enter Tryd.func84, Tryd.ntmps84
  go_wp2_with fail
  go_loopg [7] 10 (fun k i wr => ∃ j : Nat, k + j = 10 ∧ i = .int .i64 (j : Int) ∧ wr = w ∧ Hid ((5 ≤ j → b4 = false) ∧ (6 ≤ j → b5 = false) ∧ (7 ≤ j → b6 = false) ∧ (8 ≤ j → b7 = false) ∧ (9 ≤ j → b8 = false) ∧ (10 ≤ j → b9 = false)))
  case atStart => exact ⟨0, rfl, rfl, rfl, fun h => absurd h (by omega), fun h => absurd h (by omega), fun h => absurd h (by omega), fun h => absurd h (by omega), fun h => absurd h (by omega), fun h => absurd h (by omega)⟩
  case round =>
    obtain ⟨j, hj, rfl, rfl, HJ⟩ := hrel
    obtain rfl | rfl | rfl | rfl | rfl | rfl | rfl | rfl | rfl | rfl | rfl : j = 0 ∨ j = 1 ∨ j = 2 ∨ j = 3 ∨ j = 4 ∨ j = 5 ∨ j = 6 ∨ j = 7 ∨ j = 8 ∨ j = 9 ∨ j = 10 := by omega
    · cases be
      · go_wp2_with fail
        go_roundg 9
        case measure => omega
        case rel => exact ⟨1, rfl, rfl, rfl, fun h => absurd h (by omega), fun h => absurd h (by omega), fun h => absurd h (by omega), fun h => absurd h (by omega), fun h => absurd h (by omega), fun h => absurd h (by omega)⟩
      · go_wp2_with fail
        go_roundg 9
        case measure => omega
        case rel => exact ⟨1, rfl, rfl, rfl, fun h => absurd h (by omega), fun h => absurd h (by omega), fun h => absurd h (by omega), fun h => absurd h (by omega), fun h => absurd h (by omega), fun h => absurd h (by omega)⟩
    · cases be
      · go_wp2_with fail
        go_roundg 8
        case measure => omega
        case rel => exact ⟨2, rfl, rfl, rfl, fun h => absurd h (by omega), fun h => absurd h (by omega), fun h => absurd h (by omega), fun h => absurd h (by omega), fun h => absurd h (by omega), fun h => absurd h (by omega)⟩
      · go_wp2_with fail
        go_roundg 8
        case measure => omega
        case rel => exact ⟨2, rfl, rfl, rfl, fun h => absurd h (by omega), fun h => absurd h (by omega), fun h => absurd h (by omega), fun h => absurd h (by omega), fun h => absurd h (by omega), fun h => absurd h (by omega)⟩
    · cases be
      · go_wp2_with fail
        go_roundg 7
        case measure => omega
        case rel => exact ⟨3, rfl, rfl, rfl, fun h => absurd h (by omega), fun h => absurd h (by omega), fun h => absurd h (by omega), fun h => absurd h (by omega), fun h => absurd h (by omega), fun h => absurd h (by omega)⟩
      · go_wp2_with fail
        go_roundg 7
        case measure => omega
        case rel => exact ⟨3, rfl, rfl, rfl, fun h => absurd h (by omega), fun h => absurd h (by omega), fun h => absurd h (by omega), fun h => absurd h (by omega), fun h => absurd h (by omega), fun h => absurd h (by omega)⟩
    · cases be
      · go_wp2_with fail
        go_roundg 6
        case measure => omega
        case rel => exact ⟨4, rfl, rfl, rfl, fun h => absurd h (by omega), fun h => absurd h (by omega), fun h => absurd h (by omega), fun h => absurd h (by omega), fun h => absurd h (by omega), fun h => absurd h (by omega)⟩
      · go_wp2_with fail
        go_roundg 6
        case measure => omega
        case rel => exact ⟨4, rfl, rfl, rfl, fun h => absurd h (by omega), fun h => absurd h (by omega), fun h => absurd h (by omega), fun h => absurd h (by omega), fun h => absurd h (by omega), fun h => absurd h (by omega)⟩
    · cases b4
      · go_wp2_with fail
        go_roundg 5
        case measure => omega
        case rel => exact ⟨5, rfl, rfl, rfl, fun _ => trivial, fun h => absurd h (by omega), fun h => absurd h (by omega), fun h => absurd h (by omega), fun h => absurd h (by omega), fun h => absurd h (by omega)⟩
      · obtain rfl := HNE.out [97, 100, 100] (by simp) k4
        go_wp2_with fail
        refine bodyPost_ret (v := .tuple #[.int .i64 4, .bool true]) (by simp [results, Tryd.results84, go_sem]) rfl ⟨?_, rfl⟩
        rw [← (Lib.bytes_beq_iff _ _).1 H4.out]
        rfl
    · obtain rfl := HJ.out.1 (by omega)
      cases b5
      · go_wp2_with fail
        go_roundg 4
        case measure => omega
        case rel => exact ⟨6, rfl, rfl, rfl, fun _ => trivial, fun _ => trivial, fun h => absurd h (by omega), fun h => absurd h (by omega), fun h => absurd h (by omega), fun h => absurd h (by omega)⟩
      · obtain rfl := HNE.out [108, 101, 115, 115] (by simp) k5
        go_wp2_with fail
        refine bodyPost_ret (v := .tuple #[.int .i64 5, .bool true]) (by simp [results, Tryd.results84, go_sem]) rfl ⟨?_, rfl⟩
        rw [← (Lib.bytes_beq_iff _ _).1 H5.out]
        rfl
    · obtain rfl := HJ.out.1 (by omega)
      obtain rfl := HJ.out.2.1 (by omega)
      cases b6
      · go_wp2_with fail
        go_roundg 3
        case measure => omega
        case rel => exact ⟨7, rfl, rfl, rfl, fun _ => trivial, fun _ => trivial, fun _ => trivial, fun h => absurd h (by omega), fun h => absurd h (by omega), fun h => absurd h (by omega)⟩
      · obtain rfl := HNE.out [105, 102] (by simp) k6
        go_wp2_with fail
        refine bodyPost_ret (v := .tuple #[.int .i64 6, .bool true]) (by simp [results, Tryd.results84, go_sem]) rfl ⟨?_, rfl⟩
        rw [← (Lib.bytes_beq_iff _ _).1 H6.out]
        rfl
    · obtain rfl := HJ.out.1 (by omega)
      obtain rfl := HJ.out.2.1 (by omega)
      obtain rfl := HJ.out.2.2.1 (by omega)
      cases b7
      · go_wp2_with fail
        go_roundg 2
        case measure => omega
        case rel => exact ⟨8, rfl, rfl, rfl, fun _ => trivial, fun _ => trivial, fun _ => trivial, fun _ => trivial, fun h => absurd h (by omega), fun h => absurd h (by omega)⟩
      · obtain rfl := HNE.out [102, 117, 110] (by simp) k7
        go_wp2_with fail
        refine bodyPost_ret (v := .tuple #[.int .i64 7, .bool true]) (by simp [results, Tryd.results84, go_sem]) rfl ⟨?_, rfl⟩
        rw [← (Lib.bytes_beq_iff _ _).1 H7.out]
        rfl
    · obtain rfl := HJ.out.1 (by omega)
      obtain rfl := HJ.out.2.1 (by omega)
      obtain rfl := HJ.out.2.2.1 (by omega)
      obtain rfl := HJ.out.2.2.2.1 (by omega)
      cases b8
      · go_wp2_with fail
        go_roundg 1
        case measure => omega
        case rel => exact ⟨9, rfl, rfl, rfl, fun _ => trivial, fun _ => trivial, fun _ => trivial, fun _ => trivial, fun _ => trivial, fun h => absurd h (by omega)⟩
      · obtain rfl := HNE.out [99, 97, 108, 108] (by simp) k8
        go_wp2_with fail
        refine bodyPost_ret (v := .tuple #[.int .i64 8, .bool true]) (by simp [results, Tryd.results84, go_sem]) rfl ⟨?_, rfl⟩
        rw [← (Lib.bytes_beq_iff _ _).1 H8.out]
        rfl
    · obtain rfl := HJ.out.1 (by omega)
      obtain rfl := HJ.out.2.1 (by omega)
      obtain rfl := HJ.out.2.2.1 (by omega)
      obtain rfl := HJ.out.2.2.2.1 (by omega)
      obtain rfl := HJ.out.2.2.2.2.1 (by omega)
      cases b9
      · go_wp2_with fail
        go_roundg 0
        case measure => omega
        case rel => exact ⟨10, rfl, rfl, rfl, fun _ => trivial, fun _ => trivial, fun _ => trivial, fun _ => trivial, fun _ => trivial, fun _ => trivial⟩
      · obtain rfl := HNE.out [97, 115] (by simp) k9
        go_wp2_with fail
        refine bodyPost_ret (v := .tuple #[.int .i64 9, .bool true]) (by simp [results, Tryd.results84, go_sem]) rfl ⟨?_, rfl⟩
        rw [← (Lib.bytes_beq_iff _ _).1 H9.out]
        rfl
    · obtain rfl := HJ.out.1 (by omega)
      obtain rfl := HJ.out.2.1 (by omega)
      obtain rfl := HJ.out.2.2.1 (by omega)
      obtain rfl := HJ.out.2.2.2.1 (by omega)
      obtain rfl := HJ.out.2.2.2.2.1 (by omega)
      obtain rfl := HJ.out.2.2.2.2.2 (by omega)
      go_wp2_with fail
      refine bodyPost_ret (v := .tuple #[.int .i64 0, .bool false]) (by simp [results, Tryd.results84, go_sem]) rfl ⟨?_, rfl⟩
      simp [foundV, kindAt, atWord, kindWs, ne_of_beq H4.out, ne_of_beq H5.out, ne_of_beq H6.out, ne_of_beq H7.out, ne_of_beq H8.out, ne_of_beq H9.out]
end Go.Proofs.YtibjnkpmnimgoaaDoor
