/-
  What the call of ref's withCasts answers at every good term that has a type.
-/
import Derived.Test.YtnddkmccagiclabGreatDoorLot1145aeec2c
import Derived.Test.YtnddkmccagiclabGreatDoorLoted756f28d3
import Derived.Test.YtnddkmccagiclabGreatDoorLot3973bc6846
import Derived.Test.YtnddkmccagiclabGreatDoorLotd76c694fc3
import Derived.Test.YtnddkmccagiclabGreatDoorLot59e900709f
import Derived.Deep.RegionHeld3
import Derived.Deep.DeepCutAuto
import Derived.Test.YtnddkmccagiclabGreatDoorLotdf4e4ec170
import Derived.OpenShut
import Derived.Test.YtnddkmccagiclabGreatDoorLoteba9d6d245
import Derived.Test.YtnddkmccagiclabGreatDoorLot198e6357ab
import Derived.Test.YtnddkmccagiclabGreatDoorLot2ebbd2cd4c
namespace Go.Proofs.YtnddkmccagiclabGreatDoor
open Go.RowKit
/-- withCasts. -/
theorem withCasts_any (m : Nat) : ∀ (x : TT), x.sz ≤ m → ∀ (Q : Nat → Prop) (E : Tr) (c : Nat) (w : World), x.In w → E.In w → okTm x.tm E.l.length → (∀ u, u ∈ E.l → goodT 4 u = true) → x.sz + E.l.length ≤ 900 → c + x.sz ≤ 900 → x.Bl Q → E.Bl Q → (∀ b, w.heap.size ≤ b → Q b) → ∀ (y0 : Tm) (ty0 : Ty), readS x.tm (E.l.map Tr.ty) c = some (y0, ty0) →
    Calls Tryz.prog 58 #[.agg #[.int .i64 x.k, .int .i64 x.n, .int .i64 x.t.k, .slice x.t.a x.t.l.length x.t.c, .int .i64 x.f.k, .slice x.f.a x.f.l.length x.f.c, .slice x.a x.l.length x.c], .slice E.a E.l.length E.c, .int .i64 (c : Int)] w (WcPost Q y0 w) := by
  induction m with
  | zero =>
    intro x h
    have := x.sz_pos
    omega
  | succ m ih =>
    intro x hm Q E c w hx hE hok hEg hsz hcs xb eb nw y0 ty0 hrd
    refine cast_step Q x E c w hx hE hok hEg hsz hcs xb eb nw y0 ty0 hrd fun y hy => ih y ?_
    have h1 := x.sz_eq
    have e : y.tm.sz ≤ ((x.l.map TT.tm).map Tm.sz).sum := sz_mem _ _ (List.mem_map.2 ⟨_, hy, rfl⟩)
    have e2 : (x.l.map TT.tm).map Tm.sz = x.l.map TT.sz := by rw [List.map_map]; exact List.map_congr_left fun z _ => z.sz_tm.symm
    rw [e2, ← TT.sz_tm] at e
    omega
end Go.Proofs.YtnddkmccagiclabGreatDoor

/-
  A term is good: it has at most forty terms in it, and each is right where it stands; in plain mathematics; no program in it.
-/
namespace Go.Proofs.YtnddkmccagiclabGreatDoor
/-- A term is right where it stands. -/
def rightM (ar : Int) : Tm → Int → Bool
  | ⟨k, n, t, f, l⟩, own => okTop ar own ⟨k, n, t, f, l⟩ && (l.map fun y => rightM ar y (insOf k own)).all id
theorem rightM_mk (ar k n : Int) (t f : Ty) (l : List Tm) (own : Int) : rightM ar ⟨k, n, t, f, l⟩ own = (okTop ar own ⟨k, n, t, f, l⟩ && l.all fun y => rightM ar y (insOf k own)) := by
  rw [rightM, List.all_map]
  rfl
theorem bindL_if {f : Tm → Nat → Option Nat} {Q : Tm → Bool} (n : Nat) (hf : ∀ y q, q ≤ n → f y q = if Q y = true ∧ y.sz ≤ q then some (q - y.sz) else none) : ∀ (l : List Tm) (r : Nat), r ≤ n → bindL f l r = if l.all Q = true ∧ (l.map Tm.sz).sum ≤ r then some (r - (l.map Tm.sz).sum) else none
  | [], r, _ => by simp [bindL]
  | x :: l, r, hr => by
    simp only [bindL, List.all_cons, List.map_cons, List.sum_cons, Bool.and_eq_true]
    rw [hf x r hr]
    by_cases h1 : Q x = true ∧ x.sz ≤ r
    · rw [if_pos h1]
      simp only [Option.bind_some]
      rw [bindL_if n hf l (r - x.sz) (by omega)]
      by_cases h2 : l.all Q = true ∧ (l.map Tm.sz).sum ≤ r - x.sz
      · rw [if_pos h2, if_pos ⟨⟨h1.1, h2.1⟩, by omega⟩]
        congr 1
        omega
      · rw [if_neg h2, if_neg (fun h => h2 ⟨h.1.2, by omega⟩)]
    · rw [if_neg h1, if_neg (fun h => h1 ⟨h.1.1, by omega⟩)]
      rfl
theorem goodS_if (ar : Int) : ∀ (n : Nat) (ins : Int) (x : Tm) (r : Nat), r ≤ n → goodS ar n ins x r = if rightM ar x ins = true ∧ x.sz ≤ r then some (r - x.sz) else none
  | 0, ins, x, r, hr => by
    have := x.sz_pos
    rw [if_neg (by omega)]
    simp [goodS]
  | n + 1, ins, x, 0, _ => by
    have := x.sz_pos
    rw [if_neg (by omega)]
    simp [goodS]
  | n + 1, ins, ⟨k, m, t, f, l⟩, r + 1, hr => by
    simp only [goodS]
    rw [rightM_mk, Tm.sz_mk]
    by_cases h0 : okTop ar ins ⟨k, m, t, f, l⟩ = true
    · rw [if_pos h0, bindL_if n (fun y q hq => goodS_if ar n (insOf k ins) y q hq) l r (by omega), h0]
      simp only [Bool.true_and]
      by_cases h2 : (l.all fun y => rightM ar y (insOf k ins)) = true ∧ (l.map Tm.sz).sum ≤ r
      · rw [if_pos h2, if_pos ⟨h2.1, by omega⟩]
        congr 1
        omega
      · rw [if_neg h2, if_neg (fun h => h2 ⟨h.1, by omega⟩)]
    · have h0' : okTop ar ins ⟨k, m, t, f, l⟩ = false := by simpa using h0
      rw [if_neg h0, if_neg (by rw [h0']; simp)]
/-- Good, by the two roads. -/
theorem goodM_right (ar : Int) (x : Tm) : goodM ar x = (decide (x.sz < 41) && rightM ar x 0) := by
  unfold goodM
  rw [goodS_if ar 40 0 x 40 (Nat.le_refl _)]
  by_cases h : rightM ar x 0 = true ∧ x.sz ≤ 40
  · rw [if_pos h, h.1]
    have : decide (x.sz < 41) = true := by simp; omega
    rw [this]
    rfl
  · rw [if_neg h]
    by_cases h1 : x.sz < 41
    · have : rightM ar x 0 = false := by
        cases hr : rightM ar x 0 with
        | false => rfl
        | true => exact absurd ⟨hr, by omega⟩ h
      rw [this]
      simp
    · have : decide (x.sz < 41) = false := by simp; omega
      rw [this]
      rfl
end Go.Proofs.YtnddkmccagiclabGreatDoor

/-
  What the call of ref's right answers.
-/
namespace Go.Proofs.YtnddkmccagiclabGreatDoor
open Go.RowKit
set_option maxRecDepth 20000 in
set_option maxHeartbeats 1000000 in
/-- right, of what has no kind. -/
theorem right_kind (x : TT) (ar own : Int) (w : World) (hk : x.k < 1 ∨ 9 < x.k) :
    Calls Tryz.prog 61 #[.agg #[.int .i64 x.k, .int .i64 x.n, .int .i64 x.t.k, .slice x.t.a x.t.l.length x.t.c, .int .i64 x.f.k, .slice x.f.a x.f.l.length x.f.c, .slice x.a x.l.length x.c], .int .i64 ar, .int .i64 own] w fun e w' => e = .returned (.bool false) ∧ Below w.heap.size w w' := by
  obtain ⟨W1, hW1⟩ : ∃ W, W = w.alloc (.cells #[.int .i64 x.k, .int .i64 x.n, .int .i64 x.t.k, .slice x.t.a x.t.l.length x.t.c, .int .i64 x.f.k, .slice x.f.a x.f.l.length x.f.c, .slice x.a x.l.length x.c] 27) := ⟨_, rfl⟩
  have hb1 : Below w.heap.size w W1 := by rw [hW1]; exact (Below.refl _ _).alloc (Nat.le_refl _) _
  have HB : Hid (Below w.heap.size w W1.drew) := hb1.drew
  clear hb1
  by_cases h1 : x.k < 1
  · have e1 : decide (x.k < 1) = true := by simpa using h1
    clear hk h1
    go_enter Tryz.func61, Tryz.ntmps61
    go_upto_region 1 with fail
    go_region
    rw [← hW1]
    go_wp2_with fail
    go_ret
    exact ⟨rfl, HB.out⟩
  · have e1 : decide (x.k < 1) = false := by simpa using h1
    have e2 : decide (9 < x.k) = true := by simp; omega
    clear hk h1
    go_enter Tryz.func61, Tryz.ntmps61
    go_upto_region 1 with fail
    go_region
    rw [← hW1]
    go_wp2_with fail
    go_ret
    exact ⟨rfl, HB.out⟩
set_option maxRecDepth 20000 in
set_option maxHeartbeats 1000000 in
/-- right, of another number of parts. -/
theorem right_parts (x : TT) (ar own : Int) (w : World) (hw : (Lit.int .i64 x.k).wf = true) (h1 : 1 ≤ x.k) (h9 : x.k ≤ 9) (hne : x.l.length ≠ partsOf x.k) :
    Calls Tryz.prog 61 #[.agg #[.int .i64 x.k, .int .i64 x.n, .int .i64 x.t.k, .slice x.t.a x.t.l.length x.t.c, .int .i64 x.f.k, .slice x.f.a x.f.l.length x.f.c, .slice x.a x.l.length x.c], .int .i64 ar, .int .i64 own] w fun e w' => e = .returned (.bool false) ∧ Below w.heap.size w w' := by
  obtain ⟨W1, hW1⟩ : ∃ W, W = w.alloc (.cells #[.int .i64 x.k, .int .i64 x.n, .int .i64 x.t.k, .slice x.t.a x.t.l.length x.t.c, .int .i64 x.f.k, .slice x.f.a x.f.l.length x.f.c, .slice x.a x.l.length x.c] 27) := ⟨_, rfl⟩
  have hb1 : Below w.heap.size w W1 := by rw [hW1]; exact (Below.refl _ _).alloc (Nat.le_refl _) _
  have e1 : decide (x.k < 1) = false := by simp; omega
  have e2 : decide (9 < x.k) = false := by simp; omega
  obtain ⟨PP, hPP⟩ : ∃ P : Int, P = (partsOf x.k : Int) := ⟨_, rfl⟩
  have e3 : ((x.l.length : Int) != PP) = true := by simp; omega
  have HP : Hid (∀ W, Below W1.heap.size W1 W → Calls Tryz.prog 98 #[.int .i64 x.k] W fun e w' => e = .returned (.int .i64 PP) ∧ Below W1.heap.size W1 w') := fun W hW => by
    refine (parts_any x.k hw W).mono ?_
    rintro e w' ⟨rfl, hb⟩
    rw [hPP]
    exact ⟨rfl, hW.trans (hb.mono hW.size)⟩
  have h7 : At7 W1 w.heap.size 0 x := by constructor <;> (rw [hW1]; simp [go_sem])
  have HK : Hid (∀ W, Below W1.heap.size W1 W → W.cell? ⟨w.heap.size, 0, none⟩ = some (.int .i64 x.k) ∧ W.cell? ⟨w.heap.size, 4, none⟩ = some (.int .i64 x.f.k) ∧ W.cell? ⟨w.heap.size, 5, none⟩ = some (.slice x.f.a x.f.l.length x.f.c) ∧ W.cell? ⟨w.heap.size, 6, none⟩ = some (.slice x.a x.l.length x.c)) := fun W hW => by
    obtain ⟨a0, a1, a2, a3, a4, a5, a6⟩ := h7.below hW
    simp only [Nat.zero_add] at a0 a1 a2 a3 a4 a5 a6
    exact ⟨a0, a4, a5, a6⟩
  have HK0 : Hid (W1.cell? ⟨w.heap.size, 0, none⟩ = some (.int .i64 x.k) ∧ W1.cell? ⟨w.heap.size, 4, none⟩ = some (.int .i64 x.f.k) ∧ W1.cell? ⟨w.heap.size, 5, none⟩ = some (.slice x.f.a x.f.l.length x.f.c) ∧ W1.cell? ⟨w.heap.size, 6, none⟩ = some (.slice x.a x.l.length x.c)) := HK.out _ (Below.refl _ _)
  have HK1 : Hid (W1.drew.cell? ⟨w.heap.size, 0, none⟩ = some (.int .i64 x.k) ∧ W1.drew.cell? ⟨w.heap.size, 4, none⟩ = some (.int .i64 x.f.k) ∧ W1.drew.cell? ⟨w.heap.size, 5, none⟩ = some (.slice x.f.a x.f.l.length x.f.c) ∧ W1.drew.cell? ⟨w.heap.size, 6, none⟩ = some (.slice x.a x.l.length x.c)) := HK.out _ ((Below.refl _ _).drew)
  have HB : Hid (Below w.heap.size w W1) := hb1
  have hb : Below W1.heap.size W1 W1.drew := (Below.refl _ _).drew
  clear hb1 h1 h9 hne hw h7 hPP
  go_enter Tryz.func61, Tryz.ntmps61
  go_upto_region 1 with fail
  rw [← hW1]
  clear hW1
  clear hb
  go_cut [33] (fun s33 wx => s33 = .bool true ∧ Hid (Below W1.heap.size W1 wx))
  case first =>
    refine wp_region_class (C := fun W => Below W1.heap.size W1 W) (by kernel_rfl) (by kernel_rfl) ((Below.refl _ _).drew) ?_
    iterate 24 (first
      | go_big_quiet_skip
      | (refine quiet_value (v := ?_) (by rfl) ?_ ?_; rotate_left; (focus (intro W hW; obtain ⟨d0, d4, d5, d6⟩ := HK.out W hW; have lw : w.heap.size < W.heap.size := World.block_lt_of_cell? _ _ d0; first | (go_simp; done) | (go_simp; with_reducible rfl))); simp only [Act.put, List.setIfInBounds_toArray, List.set_cons_zero, List.set_cons_succ])
      | (refine quiet_enter (.int .i64 PP) 98 #[.int .i64 x.k] (by rfl) ?_ (fun W hW => HP.out W hW) ?_; (focus (intro W _; go_simp; done)); simp only [Act.put, List.setIfInBounds_toArray, List.set_cons_zero, List.set_cons_succ]))
    refine wpQuiet_nil ?_
    intro wq hq
    have HQ : Hid (Below W1.heap.size W1 wq) := hq
    clear hq
    go_wp2_with fail
    go_meet
    case rel => exact ⟨rfl, HQ⟩
  case rest =>
    obtain ⟨h33, HQ⟩ := hcut
    subst h33
    have HN : Hid (Below w.heap.size w wc) := HB.out.trans (HQ.out.mono HB.out.size)
    go_wp2_with fail
    go_ret
    exact ⟨rfl, HN.out⟩
set_option maxRecDepth 20000 in
set_option maxHeartbeats 1000000 in
/-- right, of a From that is not Any. -/
theorem right_from (x : TT) (ar own : Int) (w : World) (hx : x.In w) (hw : (Lit.int .i64 x.k).wf = true) (h1 : 1 ≤ x.k) (h9 : x.k ≤ 9) (hpp : x.l.length = partsOf x.k) (n : Nat) (hf : x.f.hgt ≤ n) (hs : x.f.sm) (hne : relY escSame x.f.ty ⟨0, []⟩ = false) :
    Calls Tryz.prog 61 #[.agg #[.int .i64 x.k, .int .i64 x.n, .int .i64 x.t.k, .slice x.t.a x.t.l.length x.t.c, .int .i64 x.f.k, .slice x.f.a x.f.l.length x.f.c, .slice x.a x.l.length x.c], .int .i64 ar, .int .i64 own] w fun e w' => e = .returned (.bool false) ∧ Below w.heap.size w w' := by
  obtain ⟨W1, hW1⟩ : ∃ W, W = w.alloc (.cells #[.int .i64 x.k, .int .i64 x.n, .int .i64 x.t.k, .slice x.t.a x.t.l.length x.t.c, .int .i64 x.f.k, .slice x.f.a x.f.l.length x.f.c, .slice x.a x.l.length x.c] 27) := ⟨_, rfl⟩
  have hb1 : Below w.heap.size w W1 := by rw [hW1]; exact (Below.refl _ _).alloc (Nat.le_refl _) _
  have e1 : decide (x.k < 1) = false := by simp; omega
  have e2 : decide (9 < x.k) = false := by simp; omega
  obtain ⟨PP, hPP⟩ : ∃ P : Int, P = (partsOf x.k : Int) := ⟨_, rfl⟩
  have e3 : ((x.l.length : Int) != PP) = false := by simp; omega
  have HP : Hid (∀ W, Below W1.heap.size W1 W → Calls Tryz.prog 98 #[.int .i64 x.k] W fun e w' => e = .returned (.int .i64 PP) ∧ Below W1.heap.size W1 w') := fun W hW => by
    refine (parts_any x.k hw W).mono ?_
    rintro e w' ⟨rfl, hb⟩
    rw [hPP]
    exact ⟨rfl, hW.trans (hb.mono hW.size)⟩
  have HA : Hid (∀ W, Below W1.heap.size W1 W → Calls Tryz.prog 56 #[] W fun e w' => e = .returned (.agg #[.int .i64 0, .slice none 0 0]) ∧ Below W1.heap.size W1 w') := fun W hW => by
    refine (any0_any W).mono ?_
    rintro e w' ⟨rfl, rfl⟩
    exact ⟨rfl, hW.alloc hW.size _⟩
  have HS : Hid (∀ W, Below W1.heap.size W1 W → Calls Tryz.prog 39 #[.agg #[.int .i64 x.f.k, .slice x.f.a x.f.l.length x.f.c], .agg #[.int .i64 0, .slice none 0 0]] W fun e w' => e = .returned (.bool false) ∧ Below W1.heap.size W1 w') := fun W hW => by
    have := sameType_any n x.f (leaf 0) W ((hx.below (hb1.trans (hW.mono hb1.size))).f) (leaf_in 0 W) hf hs
    rw [leaf_ty, hne] at this
    refine this.mono ?_
    rintro e w' ⟨rfl, hb⟩
    exact ⟨rfl, hW.trans (hb.mono hW.size)⟩
  have h7 : At7 W1 w.heap.size 0 x := by constructor <;> (rw [hW1]; simp [go_sem])
  have HK : Hid (∀ W, Below W1.heap.size W1 W → W.cell? ⟨w.heap.size, 0, none⟩ = some (.int .i64 x.k) ∧ W.cell? ⟨w.heap.size, 4, none⟩ = some (.int .i64 x.f.k) ∧ W.cell? ⟨w.heap.size, 5, none⟩ = some (.slice x.f.a x.f.l.length x.f.c) ∧ W.cell? ⟨w.heap.size, 6, none⟩ = some (.slice x.a x.l.length x.c)) := fun W hW => by
    obtain ⟨a0, a1, a2, a3, a4, a5, a6⟩ := h7.below hW
    simp only [Nat.zero_add] at a0 a1 a2 a3 a4 a5 a6
    exact ⟨a0, a4, a5, a6⟩
  have HB : Hid (Below w.heap.size w W1) := hb1
  clear hb1 h1 h9 hne hw h7 hPP hx hf hs hpp
  go_enter Tryz.func61, Tryz.ntmps61
  go_upto_region 1 with fail
  rw [← hW1]
  clear hW1
  go_cut [33] (fun s33 wx => s33 = .bool true ∧ Hid (Below W1.heap.size W1 wx))
  case first =>
    refine wp_region_class (C := fun W => Below W1.heap.size W1 W) (by kernel_rfl) (by kernel_rfl) ((Below.refl _ _).drew) ?_
    iterate 24 (first
      | go_big_quiet_skip
      | (refine quiet_value (v := ?_) (by rfl) ?_ ?_; rotate_left; (focus (intro W hW; obtain ⟨d0, d4, d5, d6⟩ := HK.out W hW; have lw : w.heap.size < W.heap.size := World.block_lt_of_cell? _ _ d0; first | (go_simp; done) | (go_simp; with_reducible rfl))); simp only [Act.put, List.setIfInBounds_toArray, List.set_cons_zero, List.set_cons_succ])
      | (refine quiet_enter (.int .i64 PP) 98 #[.int .i64 x.k] (by rfl) ?_ (fun W hW => HP.out W hW) ?_; (focus (intro W _; go_simp; done)); simp only [Act.put, List.setIfInBounds_toArray, List.set_cons_zero, List.set_cons_succ])
      | (refine quiet_enter (.agg #[.int .i64 0, .slice none 0 0]) 56 #[] (by rfl) ?_ (fun W hW => HA.out W hW) ?_; (focus (intro W _; go_simp; done)); simp only [Act.put, List.setIfInBounds_toArray, List.set_cons_zero, List.set_cons_succ])
      | (refine quiet_enter (.bool false) 39 #[.agg #[.int .i64 x.f.k, .slice x.f.a x.f.l.length x.f.c], .agg #[.int .i64 0, .slice none 0 0]] (by rfl) ?_ (fun W hW => HS.out W hW) ?_; (focus (intro W _; go_simp; done)); simp only [Act.put, List.setIfInBounds_toArray, List.set_cons_zero, List.set_cons_succ]))
    refine wpQuiet_nil ?_
    intro wq hq
    have HQ : Hid (Below W1.heap.size W1 wq) := hq
    clear hq
    go_wp2_with fail
    go_meet
    case rel => exact ⟨rfl, HQ⟩
  case rest =>
    obtain ⟨h33, HQ⟩ := hcut
    subst h33
    have HN : Hid (Below w.heap.size w wc) := HB.out.trans (HQ.out.mono HB.out.size)
    go_wp2_with fail
    go_ret
    exact ⟨rfl, HN.out⟩
end Go.Proofs.YtnddkmccagiclabGreatDoor

/-
  What the call of ref's right answers: the way on.
-/
namespace Go.Proofs.YtnddkmccagiclabGreatDoor
open Go.RowKit
set_option maxRecDepth 20000 in
set_option maxHeartbeats 1000000 in
/-- right, of what is right at its top. -/
theorem right_main (x : TT) (ar own : Int) (w : World) (hx : x.In w) (hw : (Lit.int .i64 x.k).wf = true) (h1 : 1 ≤ x.k) (h9 : x.k ≤ 9) (hpp : x.l.length = partsOf x.k) (n : Nat) (hf : x.f.hgt ≤ n) (hs : x.f.sm) (hne : relY escSame x.f.ty ⟨0, []⟩ = true) (hn1 : n ≤ 1000000000) (hth : x.t.hgt ≤ n) (hts : x.t.sm) (hn9 : x.n ≤ 9223372036854775807) (ho0 : 0 ≤ own) (ho1 : own ≤ 1000000000) (hll : x.l.length ≤ 3)
    (ih : ∀ j (h : j < x.l.length) (W : World), x.l[j].In W → Calls Tryz.prog 61 #[.agg #[.int .i64 x.l[j].k, .int .i64 x.l[j].n, .int .i64 x.l[j].t.k, .slice x.l[j].t.a x.l[j].t.l.length x.l[j].t.c, .int .i64 x.l[j].f.k, .slice x.l[j].f.a x.l[j].f.l.length x.l[j].f.c, .slice x.l[j].a x.l[j].l.length x.l[j].c], .int .i64 ar, .int .i64 (insOf x.k own)] W fun e w' => e = .returned (.bool (rightM ar x.l[j].tm (insOf x.k own))) ∧ Below W.heap.size W w') :
    Calls Tryz.prog 61 #[.agg #[.int .i64 x.k, .int .i64 x.n, .int .i64 x.t.k, .slice x.t.a x.t.l.length x.t.c, .int .i64 x.f.k, .slice x.f.a x.f.l.length x.f.c, .slice x.a x.l.length x.c], .int .i64 ar, .int .i64 own] w fun e w' => e = .returned (.bool (okNum ar own x.k x.n && (if tells x.k = true then goodY 4 x.t.ty else isAnyY x.t.ty) && x.l.all fun y => rightM ar y.tm (insOf x.k own))) ∧ Below w.heap.size w w' := by
  obtain ⟨W1, hW1⟩ : ∃ W, W = w.alloc (.cells #[.int .i64 x.k, .int .i64 x.n, .int .i64 x.t.k, .slice x.t.a x.t.l.length x.t.c, .int .i64 x.f.k, .slice x.f.a x.f.l.length x.f.c, .slice x.a x.l.length x.c] 27) := ⟨_, rfl⟩
  have hb1 : Below w.heap.size w W1 := by rw [hW1]; exact (Below.refl _ _).alloc (Nat.le_refl _) _
  have e1 : decide (x.k < 1) = false := by simp; omega
  have e2 : decide (9 < x.k) = false := by simp; omega
  obtain ⟨PP, hPP⟩ : ∃ P : Int, P = (partsOf x.k : Int) := ⟨_, rfl⟩
  have e3 : ((x.l.length : Int) != PP) = false := by simp; omega
  have HP : Hid (∀ W, Below W1.heap.size W1 W → Calls Tryz.prog 98 #[.int .i64 x.k] W fun e w' => e = .returned (.int .i64 PP) ∧ Below W1.heap.size W1 w') := fun W hW => by
    refine (parts_any x.k hw W).mono ?_
    rintro e w' ⟨rfl, hb⟩
    rw [hPP]
    exact ⟨rfl, hW.trans (hb.mono hW.size)⟩
  have HA : Hid (∀ W, Below W1.heap.size W1 W → Calls Tryz.prog 56 #[] W fun e w' => e = .returned (.agg #[.int .i64 0, .slice none 0 0]) ∧ Below W1.heap.size W1 w') := fun W hW => by
    refine (any0_any W).mono ?_
    rintro e w' ⟨rfl, rfl⟩
    exact ⟨rfl, hW.alloc hW.size _⟩
  have HS : Hid (∀ W, Below W1.heap.size W1 W → Calls Tryz.prog 39 #[.agg #[.int .i64 x.f.k, .slice x.f.a x.f.l.length x.f.c], .agg #[.int .i64 0, .slice none 0 0]] W fun e w' => e = .returned (.bool true) ∧ Below W1.heap.size W1 w') := fun W hW => by
    have := sameType_any n x.f (leaf 0) W ((hx.below (hb1.trans (hW.mono hb1.size))).f) (leaf_in 0 W) hf hs
    rw [leaf_ty, hne] at this
    refine this.mono ?_
    rintro e w' ⟨rfl, hb⟩
    exact ⟨rfl, hW.trans (hb.mono hW.size)⟩
  have h7 : At7 W1 w.heap.size 0 x := by constructor <;> (rw [hW1]; simp [go_sem])
  have HK : Hid (∀ W, Below W1.heap.size W1 W → W.cell? ⟨w.heap.size, 0, none⟩ = some (.int .i64 x.k) ∧ W.cell? ⟨w.heap.size, 4, none⟩ = some (.int .i64 x.f.k) ∧ W.cell? ⟨w.heap.size, 5, none⟩ = some (.slice x.f.a x.f.l.length x.f.c) ∧ W.cell? ⟨w.heap.size, 6, none⟩ = some (.slice x.a x.l.length x.c)) := fun W hW => by
    obtain ⟨a0, a1, a2, a3, a4, a5, a6⟩ := h7.below hW
    simp only [Nat.zero_add] at a0 a1 a2 a3 a4 a5 a6
    exact ⟨a0, a4, a5, a6⟩
  have HK7 : Hid (∀ W, Below W1.heap.size W1 W → W.cell? ⟨w.heap.size, 0, none⟩ = some (.int .i64 x.k) ∧ W.cell? ⟨w.heap.size, 1, none⟩ = some (.int .i64 x.n) ∧ W.cell? ⟨w.heap.size, 2, none⟩ = some (.int .i64 x.t.k) ∧ W.cell? ⟨w.heap.size, 3, none⟩ = some (.slice x.t.a x.t.l.length x.t.c) ∧ W.cell? ⟨w.heap.size, 6, none⟩ = some (.slice x.a x.l.length x.c)) := fun W hW => by
    obtain ⟨a0, a1, a2, a3, a4, a5, a6⟩ := h7.below hW
    simp only [Nat.zero_add] at a0 a1 a2 a3 a4 a5 a6
    exact ⟨a0, a1, a2, a3, a6⟩
  obtain ⟨q, hq⟩ : ∃ q, q = okNum ar own x.k x.n := ⟨_, rfl⟩
  rw [← hq]
  have HQN : Hid (q = okNum ar own x.k x.n) := hq
  have HKK : Hid (1 ≤ x.k ∧ x.k ≤ 9) := ⟨h1, h9⟩
  have HN9 : Hid (x.n ≤ 9223372036854775807 ∧ 0 ≤ own ∧ own ≤ 1000000000) := ⟨hn9, ho0, ho1⟩
  clear hq hn9 ho0 ho1
  obtain ⟨tt, htt⟩ : ∃ tt, tt = (if tells x.k = true then goodY 4 x.t.ty else isAnyY x.t.ty) := ⟨_, rfl⟩
  rw [← htt]
  have HIT : Hid (x.k = 7 ∨ x.k = 9 → ∀ W, Below W1.heap.size W1 W → Calls Tryz.prog 99 #[.agg #[.int .i64 x.t.k, .slice x.t.a x.t.l.length x.t.c]] W fun e w' => e = .returned (.bool tt) ∧ Below W1.heap.size W1 w') := fun hk W hW => by
    have e : tt = goodT 4 x.t := by rw [htt, if_pos (by rcases hk with h | h <;> simp [tells, h]), goodT_eq]
    rw [e]
    refine (isType_any n hn1 x.t W ((hx.below (hb1.trans (hW.mono hb1.size))).t) hth hts).mono ?_
    rintro e w' ⟨rfl, hb⟩
    exact ⟨rfl, hW.trans (hb.mono hW.size)⟩
  have HST : Hid (¬ (x.k = 7 ∨ x.k = 9) → ∀ W, Below W1.heap.size W1 W → Calls Tryz.prog 39 #[.agg #[.int .i64 x.t.k, .slice x.t.a x.t.l.length x.t.c], .agg #[.int .i64 0, .slice none 0 0]] W fun e w' => e = .returned (.bool tt) ∧ Below W1.heap.size W1 w') := fun hk W hW => by
    have e : tt = relY escSame x.t.ty ⟨0, []⟩ := by rw [htt, if_neg (by simp [tells]; omega)]; rfl
    have := sameType_any n x.t (leaf 0) W ((hx.below (hb1.trans (hW.mono hb1.size))).t) (leaf_in 0 W) hth hts
    rw [leaf_ty, ← e] at this
    refine this.mono ?_
    rintro e w' ⟨rfl, hb⟩
    exact ⟨rfl, hW.trans (hb.mono hW.size)⟩
  have HTT : Hid (tt = (if tells x.k = true then goodY 4 x.t.ty else isAnyY x.t.ty)) := htt
  clear htt hn1 hth hts
  obtain ⟨oo, hoo⟩ : ∃ oo, oo = insOf x.k own := ⟨_, rfl⟩
  have HOO : Hid (oo = insOf x.k own) := hoo
  have HX : Hid (∀ W, Below W1.heap.size W1 W → x.In W) := fun W hW => (hx.below hb1).below hW
  have HIH : Hid (∀ j (h : j < x.l.length) (W : World), Below W1.heap.size W1 W → Calls Tryz.prog 61 #[.agg #[.int .i64 x.l[j].k, .int .i64 x.l[j].n, .int .i64 x.l[j].t.k, .slice x.l[j].t.a x.l[j].t.l.length x.l[j].t.c, .int .i64 x.l[j].f.k, .slice x.l[j].f.a x.l[j].f.l.length x.l[j].f.c, .slice x.l[j].a x.l[j].l.length x.l[j].c], .int .i64 ar, .int .i64 oo] W fun e w' => e = .returned (.bool (rightM ar x.l[j].tm oo)) ∧ Below W1.heap.size W1 w') := fun j h W hW => by
    obtain ⟨_, _, _, _, hin⟩ := ((hx.below hb1).below hW).part j h
    rw [hoo]
    refine (ih j h W hin).mono ?_
    rintro e w' ⟨rfl, hb⟩
    exact ⟨rfl, hW.trans (hb.mono hW.size)⟩
  rw [← hoo]
  clear hoo ih
  have HB : Hid (Below w.heap.size w W1) := hb1
  clear hb1 h1 h9 hne hw h7 hPP hx hf hs hpp
  go_enter Tryz.func61, Tryz.ntmps61
  go_upto_region 1 with fail
  rw [← hW1]
  clear hW1
  go_cut [33] (fun s33 wx => s33 = .bool false ∧ Hid (Below W1.heap.size W1 wx))
  case first =>
    refine wp_region_class (C := fun W => Below W1.heap.size W1 W) (by kernel_rfl) (by kernel_rfl) ((Below.refl _ _).drew) ?_
    iterate 24 (first
      | go_big_quiet_skip
      | (refine quiet_value (v := ?_) (by rfl) ?_ ?_; rotate_left; (focus (intro W hW; obtain ⟨d0, d4, d5, d6⟩ := HK.out W hW; have lw : w.heap.size < W.heap.size := World.block_lt_of_cell? _ _ d0; first | (go_simp; done) | (go_simp; with_reducible rfl))); simp only [Act.put, List.setIfInBounds_toArray, List.set_cons_zero, List.set_cons_succ])
      | (refine quiet_enter (.int .i64 PP) 98 #[.int .i64 x.k] (by rfl) ?_ (fun W hW => HP.out W hW) ?_; (focus (intro W _; go_simp; done)); simp only [Act.put, List.setIfInBounds_toArray, List.set_cons_zero, List.set_cons_succ])
      | (refine quiet_enter (.agg #[.int .i64 0, .slice none 0 0]) 56 #[] (by rfl) ?_ (fun W hW => HA.out W hW) ?_; (focus (intro W _; go_simp; done)); simp only [Act.put, List.setIfInBounds_toArray, List.set_cons_zero, List.set_cons_succ])
      | (refine quiet_enter (.bool true) 39 #[.agg #[.int .i64 x.f.k, .slice x.f.a x.f.l.length x.f.c], .agg #[.int .i64 0, .slice none 0 0]] (by rfl) ?_ (fun W hW => HS.out W hW) ?_; (focus (intro W _; go_simp; done)); simp only [Act.put, List.setIfInBounds_toArray, List.set_cons_zero, List.set_cons_succ]))
    refine wpQuiet_nil ?_
    intro wq hq
    have HQ : Hid (Below W1.heap.size W1 wq) := hq
    clear hq
    go_wp2_with fail
    go_meet
    case rel => exact ⟨rfl, HQ⟩
  case rest =>
    obtain ⟨h33, HQ⟩ := hcut
    subst h33
    obtain ⟨d0, d1, d2, d3, d6⟩ := HK7.out wc HQ.out
    have lw : w.heap.size < wc.heap.size := World.block_lt_of_cell? _ _ d0
    go_upto_region 3 with fail
    go_cut [7] (fun s7 wx => s7 = .bool (x.n == 0) ∧ Hid (Below W1.heap.size W1 wx))
    case first =>
      go_wp2_with fail
      go_meet
      case rel => exact ⟨rfl, HQ⟩
    obtain ⟨h7, HQ2⟩ := hcut
    subst h7
    clear HQ d0 d1 d2 d3 d6 lw
    apply_assumption
    refine wp_seq_k fun Kx hKx => ?_
    go_cut [7] (fun s7 wx => s7 = .bool q ∧ Hid (Below W1.heap.size W1 wx))
    case first =>
      obtain ⟨d0, d1, d2, d3, d6⟩ := HK7.out _ HQ2.out
      have lw := World.block_lt_of_cell? _ _ d0
      have hcs : x.k = 1 ∨ x.k = 2 ∨ x.k = 3 ∨ 4 ≤ x.k := by have := HKK.out; omega
      rcases hcs with hk | hk | hk | hk
      · rw [hk] at d0
        have HV : Hid (q = (decide (0 ≤ x.n) && decide (x.n - own < ar))) := by rw [HQN.out, hk]; simp [okNum, Hid]
        clear hk
        by_cases a : 0 ≤ x.n
        · have ea : decide (0 ≤ x.n) = true := by simpa using a
          have hwr : IntKind.i64.wrap (x.n - own) = x.n - own := by have := HN9.out; rw [IntKind.wrap_i64]; omega
          by_cases b : x.n - own < ar
          · have eb : decide (x.n - own < ar) = true := by simpa using b
            clear a b
            go_wp2_with fail
            go_meet
            case rel => exact ⟨by rw [HV.out, ea, eb]; rfl, HQ2⟩
          · have eb : decide (x.n - own < ar) = false := by simpa using b
            clear a b
            go_wp2_with fail
            go_meet
            case rel => exact ⟨by rw [HV.out, ea, eb]; rfl, HQ2⟩
        · have ea : decide (0 ≤ x.n) = false := by simpa using a
          clear a
          go_wp2_with fail
          go_meet
          case rel => exact ⟨by rw [HV.out, ea]; rfl, HQ2⟩
      · rw [hk] at d0
        have HV : Hid (q = (decide (-1000000 ≤ x.n) && decide (x.n ≤ 1000000))) := by rw [HQN.out, hk]; simp [okNum, Hid]
        clear hk
        by_cases a : x.n ≤ 1000000
        · have ea : decide (x.n ≤ 1000000) = true := by simpa using a
          by_cases b : -1000000 ≤ x.n
          · have eb : decide (-1000000 ≤ x.n) = true := by simpa using b
            clear a b
            go_wp2_with fail
            go_meet
            case rel => exact ⟨by rw [HV.out, ea, eb]; rfl, HQ2⟩
          · have eb : decide (-1000000 ≤ x.n) = false := by simpa using b
            clear a b
            go_wp2_with fail
            go_meet
            case rel => exact ⟨by rw [HV.out, ea, eb]; rfl, HQ2⟩
        · have ea : decide (x.n ≤ 1000000) = false := by simpa using a
          clear a
          go_wp2_with fail
          go_meet
          case rel => exact ⟨by rw [HV.out, ea, Bool.and_false], HQ2⟩
      · rw [hk] at d0
        have HV : Hid (q = (x.n == 0 || x.n == 1)) := by rw [HQN.out, hk]; simp [okNum, Hid]
        clear hk
        by_cases h01 : x.n = 0 ∨ x.n = 1
        · have ea : (wrap64 (x.n * x.n) == x.n) = true := by rcases h01 with h | h <;> (rw [h]; unfold wrap64; rfl)
          have eb : decide (x.n < 2) = true := by simp; omega
          have ec : decide (0 ≤ x.n) = true := by simp; omega
          have ev : (x.n == 0 || x.n == 1) = true := by rcases h01 with h | h <;> rw [h] <;> rfl
          clear h01
          go_wp2_with fail
          go_meet
          case rel => exact ⟨by rw [HV.out, ev], HQ2⟩
        · have ev : (x.n == 0 || x.n == 1) = false := by simp; omega
          by_cases a : wrap64 (x.n * x.n) = x.n
          · have ea : (wrap64 (x.n * x.n) == x.n) = true := by simpa using a
            by_cases b : x.n < 2
            · have eb : decide (x.n < 2) = true := by simpa using b
              have ec : decide (0 ≤ x.n) = false := by simp; omega
              clear a b h01
              go_wp2_with fail
              go_meet
              case rel => exact ⟨by rw [HV.out, ev], HQ2⟩
            · have eb : decide (x.n < 2) = false := by simpa using b
              clear a b h01
              go_wp2_with fail
              go_meet
              case rel => exact ⟨by rw [HV.out, ev], HQ2⟩
          · have ea : (wrap64 (x.n * x.n) == x.n) = false := by simpa using a
            clear a h01
            go_wp2_with fail
            go_meet
            case rel => exact ⟨by rw [HV.out, ev], HQ2⟩
      · have e1' : (x.k == 1) = false := by simp; omega
        have e2' : (x.k == 2) = false := by simp; omega
        have e3' : (x.k == 3) = false := by simp; omega
        have HV : Hid (q = (x.n == 0)) := by rw [HQN.out]; unfold okNum; rw [if_neg (by omega), if_neg (by omega), if_neg (by omega)]; exact rfl
        clear hk
        go_wp2_with fail
        go_meet
        case rel => exact ⟨by rw [HV.out], HQ2⟩
    obtain ⟨h7, HQ3⟩ := hcut
    subst h7
    clear HQ2
    apply_assumption
    refine wp_seq_k fun Ky hKy => ?_
    go_cut [7] (fun s7 wx => s7 = .bool (q && tt) ∧ Hid (Below W1.heap.size W1 wx))
    case first =>
      obtain ⟨d0, d1, d2, d3, d6⟩ := HK7.out _ HQ3.out
      have lw := World.block_lt_of_cell? _ _ d0
      by_cases h79 : x.k = 7 ∨ x.k = 9
      · have HIT2 : Hid (∀ W, Below W1.heap.size W1 W → Calls Tryz.prog 99 #[.agg #[.int .i64 x.t.k, .slice x.t.a x.t.l.length x.t.c]] W fun e w' => e = .returned (.bool tt) ∧ Below W1.heap.size W1 w') := HIT.out h79
        rcases h79 with hk | hk
        all_goals
          rw [hk] at d0
          clear hk
          cases q
          · go_wp2_with fail
            go_meet
            case rel => exact ⟨rfl, HQ3⟩
          · go_wp2_with fail
            refine (HIT2.out _ HQ3.out).mono ?_
            rintro e wt ⟨rfl, hbt⟩
            have HT : Hid (Below W1.heap.size W1 wt) := hbt
            clear hbt
            go_wp2_with fail
            go_meet
            case rel => exact ⟨by rw [Bool.true_and], HT⟩
      · have HST2 : Hid (∀ W, Below W1.heap.size W1 W → Calls Tryz.prog 39 #[.agg #[.int .i64 x.t.k, .slice x.t.a x.t.l.length x.t.c], .agg #[.int .i64 0, .slice none 0 0]] W fun e w' => e = .returned (.bool tt) ∧ Below W1.heap.size W1 w') := HST.out h79
        have e7 : (x.k == 7) = false := by simp; omega
        have e9 : (x.k == 9) = false := by simp; omega
        clear h79
        cases q
        · have HD : Hid (Below W1.heap.size W1 wc.drew) := HQ3.out.drew
          go_upto_region 13 with fail
          go_region
          go_wp2_with fail
          go_meet
          case rel => exact ⟨rfl, HD⟩
        · have HC0 : Hid (wc.cell? ⟨w.heap.size, 2, none⟩ = some (.int .i64 x.t.k) ∧ wc.cell? ⟨w.heap.size, 3, none⟩ = some (.slice x.t.a x.t.l.length x.t.c)) := ⟨d2, d3⟩
          have HC1 : Hid (wc.drew.cell? ⟨w.heap.size, 2, none⟩ = some (.int .i64 x.t.k) ∧ wc.drew.cell? ⟨w.heap.size, 3, none⟩ = some (.slice x.t.a x.t.l.length x.t.c)) := ⟨d2, d3⟩
          have HC2 : Hid (∀ W, Below W1.heap.size W1 W → W.cell? ⟨w.heap.size, 2, none⟩ = some (.int .i64 x.t.k) ∧ W.cell? ⟨w.heap.size, 3, none⟩ = some (.slice x.t.a x.t.l.length x.t.c)) := fun W hW => ⟨(HK7.out W hW).2.2.1, (HK7.out W hW).2.2.2.1⟩
          go_upto_region 13 with fail
          have hb : Below W1.heap.size W1 wc.drew := HQ3.out.drew
          clear d0 d1 d2 d3 d6
          go_region_held3 (fun W => W.cell? ⟨w.heap.size, 2, none⟩ = some (.int .i64 x.t.k) ∧ W.cell? ⟨w.heap.size, 3, none⟩ = some (.slice x.t.a x.t.l.length x.t.c))
            (first
              | (with_reducible exact HC0.out)
              | (with_reducible exact HC1.out)
              | (with_reducible exact HC2.out _ hb)
              | fail)
            (first
              | (go_at_call 56; (with_reducible refine (HA.out _ hb).mono ?_); rintro e wN ⟨rfl, hb⟩)
              | (go_at_call 39; (with_reducible refine (HST2.out _ hb).mono ?_); rintro e wM ⟨rfl, hb⟩)
              | fail)
          have HD : Hid (Below W1.heap.size W1 wM) := hb
          clear hb
          go_wp2_with fail
          go_meet
          case rel => exact ⟨by rw [Bool.true_and], HD⟩
    obtain ⟨h7, HQ4⟩ := hcut
    subst h7
    clear HQ3
    apply_assumption
    refine wp_seq_k fun Kz hKz => ?_
    go_cut [2] (fun s2 wx => s2 = .int .i64 oo ∧ Hid (Below W1.heap.size W1 wx))
    case first =>
      obtain ⟨d0, d1, d2, d3, d6⟩ := HK7.out _ HQ4.out
      have lw := World.block_lt_of_cell? _ _ d0
      by_cases hk : x.k = 7
      · rw [hk] at d0
        have hwr : IntKind.i64.wrap (own + 1) = own + 1 := by have := HN9.out; rw [IntKind.wrap_i64]; omega
        have HV : Hid (oo = own + 1) := by rw [HOO.out, hk]; rfl
        clear hk
        go_wp2_with fail
        go_meet
        case rel => exact ⟨by rw [HV.out], HQ4⟩
      · have e7 : (x.k == 7) = false := by simpa using hk
        have HV : Hid (oo = own) := by rw [HOO.out]; unfold insOf; rw [if_neg hk]; exact rfl
        clear hk
        go_wp2_with fail
        go_meet
        case rel => exact ⟨by rw [HV.out], HQ4⟩
    obtain ⟨h2, HQ5⟩ := hcut
    subst h2
    clear HQ4
    obtain ⟨d0, d1, d2, d3, d6⟩ := HK7.out _ HQ5.out
    have lw := World.block_lt_of_cell? _ _ d0
    apply_assumption
    go_wp2_with fail
    clear d0 d1 d2 d3 d6 lw
    go_loopg [7, 111] x.l.length (fun g s7 i wr => ∃ j : Nat, g + j = x.l.length ∧ i = .int .i64 (j : Int) ∧ s7 = .bool (q && tt && (x.l.take j).all fun y => rightM ar y.tm oo) ∧ Hid (Below W1.heap.size W1 wr))
    case atStart => exact ⟨0, by omega, rfl, by simp, HQ5⟩
    case round =>
      obtain ⟨j, hj, rfl, rfl, HW⟩ := hrel
      by_cases hlt : j < x.l.length
      · obtain ⟨W0, hW0⟩ : ∃ W, W = wr := ⟨_, rfl⟩
        subst hW0
        obtain ⟨xb, xo, xa, ⟨c0, c1, c2, c3, c4, c5, c6⟩, _⟩ := (HX.out W0 HW.out).part j hlt
        obtain ⟨y, hy⟩ : ∃ y, x.l[j] = y := ⟨_, rfl⟩
        have HI := HIH.out j hlt
        rw [hy] at c0 c1 c2 c3 c4 c5 c6 HI
        have hta : ((x.l.take (j + 1)).all fun y => rightM ar y.tm oo) = (((x.l.take j).all fun y => rightM ar y.tm oo) && rightM ar y.tm oo) := by
          rw [List.take_succ_eq_append_getElem hlt, List.all_append, hy]
          simp
        obtain ⟨s, hs⟩ : ∃ s, (q && tt && (x.l.take j).all fun y => rightM ar y.tm oo) = s := ⟨_, rfl⟩
        have HTA : Hid ((q && tt && (x.l.take (j + 1)).all fun y => rightM ar y.tm oo) = (s && rightM ar y.tm oo)) := by rw [hta, ← hs, Bool.and_assoc, Bool.and_assoc, Bool.and_assoc]; exact rfl
        rw [hs]
        obtain ⟨WX, hWX⟩ : ∃ W, W = W0.alloc (.cells #[.int .i64 y.k, .int .i64 y.n, .int .i64 y.t.k, .slice y.t.a y.t.l.length y.t.c, .int .i64 y.f.k, .slice y.f.a y.f.l.length y.f.c, .slice y.a y.l.length y.c] 27) := ⟨_, rfl⟩
        have hAX : Below W1.heap.size W1 WX := by rw [hWX]; exact HW.out.alloc HW.out.size _
        have HXB : Hid (Below W1.heap.size W1 WX) := hAX
        have HI2 : Hid (Calls Tryz.prog 61 #[.agg #[.int .i64 y.k, .int .i64 y.n, .int .i64 y.t.k, .slice y.t.a y.t.l.length y.t.c, .int .i64 y.f.k, .slice y.f.a y.f.l.length y.f.c, .slice y.a y.l.length y.c], .int .i64 ar, .int .i64 oo] WX fun e w' => e = .returned (.bool (rightM ar y.tm oo)) ∧ Below W1.heap.size W1 w') := HI WX hAX
        have y7 : At7 WX W0.heap.size 0 y := by constructor <;> (rw [hWX]; simp [go_sem])
        obtain ⟨y0, y1, y2, y3, y4, y5, y6⟩ := y7
        simp only [Nat.zero_add] at y0 y1 y2 y3 y4 y5 y6
        have ly : W0.heap.size < WX.heap.size := World.block_lt_of_cell? _ _ y0
        have i1 : (j : Int) < (x.l.length : Int) := by omega
        have i0 : (0 : Int) ≤ (j : Int) := by omega
        have i3 : (j : Int) ≤ 3 := by omega
        have HJ : Hid (gk + j = x.l.length) := hj
        have HXA : Hid (x.a = some ⟨xb, xo, none⟩) := xa
        obtain ⟨rr, hrr⟩ : ∃ rr, rr = rightM ar y.tm oo := ⟨_, rfl⟩
        rw [← hrr] at HI2 HTA
        rw [xa]
        clear hta hs HI hAX hj HW xa hy hrr
        cases s
        · go_upto_region 19 with fail
          rw [← hWX]
          clear hWX c0 c1 c2 c3 c4 c5 c6
          go_wp2_with fail
          rw [← HXA.out]
          go_roundg (x.l.length - (j + 1))
          case measure => have := HJ.out; omega
          case rel => exact ⟨j + 1, by have := HJ.out; omega, by go_num, by rw [HTA.out]; rfl, HXB⟩
        · go_upto_region 19 with fail
          rw [← hWX]
          clear hWX c0 c1 c2 c3 c4 c5 c6
          go_wp2_with fail
          refine HI2.out.mono ?_
          rintro e wt ⟨rfl, hbt⟩
          have HT : Hid (Below W1.heap.size W1 wt) := hbt
          clear hbt
          go_wp2_with fail
          rw [← HXA.out]
          go_roundg (x.l.length - (j + 1))
          case measure => have := HJ.out; omega
          case rel => exact ⟨j + 1, by have := HJ.out; omega, by go_num, by rw [HTA.out]; simp, HT⟩
      · have hjl : j = x.l.length := by omega
        have HN : Hid (Below w.heap.size w wr) := HB.out.trans (HW.out.mono HB.out.size)
        have i1 : ¬ (j : Int) < (x.l.length : Int) := by omega
        have HE : Hid ((q && tt && (x.l.take j).all fun y => rightM ar y.tm oo) = (q && tt && x.l.all fun y => rightM ar y.tm oo)) := by rw [hjl, List.take_length]; exact rfl
        clear HW hj hlt hjl
        go_wp2_with fail
        go_ret
        exact ⟨by rw [← HE.out]; rfl, HN.out⟩
end Go.Proofs.YtnddkmccagiclabGreatDoor

/-
  What the calls of ref's right and IsTerm answer at every term that lies in memory.
-/
namespace Go.Proofs.YtnddkmccagiclabGreatDoor
open Go.RowKit
/-- Each number within a term is one of sixty-four bits, its types and lists are of at most so many nodes. -/
def TT.ok (m : Nat) : TT → Prop
  | ⟨k, n, t, f, _, _, l⟩ => ((Lit.int .i64 k).wf = true ∧ (Lit.int .i64 n).wf = true ∧ t.sz ≤ m ∧ f.sz ≤ m ∧ l.length ≤ m) ∧ ∀ y, y ∈ l → y.ok m
theorem TT.ok_mk {m : Nat} {k n : Int} {t f : Tr} {a : Option Addr} {c : Nat} {l : List TT} : (TT.mk k n t f a c l).ok m ↔ ((Lit.int .i64 k).wf = true ∧ (Lit.int .i64 n).wf = true ∧ t.sz ≤ m ∧ f.sz ≤ m ∧ l.length ≤ m) ∧ ∀ y, y ∈ l → y.ok m := by
  rw [TT.ok]
theorem TT.ok.top {m : Nat} {x : TT} (h : x.ok m) : (Lit.int .i64 x.k).wf = true ∧ (Lit.int .i64 x.n).wf = true ∧ x.t.sz ≤ m ∧ x.f.sz ≤ m ∧ x.l.length ≤ m := by cases x; exact (TT.ok_mk.1 h).1
theorem TT.ok.mem {m : Nat} {x y : TT} (h : x.ok m) (hy : y ∈ x.l) : y.ok m := by
  obtain ⟨k, n, t, f, a, c, l⟩ := x
  exact (TT.ok_mk.1 h).2 y hy
theorem tsz_mem : ∀ (l : List Tr) (t : Tr), t ∈ l → t.sz ≤ (l.map Tr.sz).sum
  | [], _, h => by cases h
  | y :: r, t, h => by
    rcases List.mem_cons.1 h with rfl | h
    · simp
    · have := tsz_mem r t h
      simp; omega
theorem maxes_le : ∀ (l : List Nat) (m : Nat), (∀ x, x ∈ l → x ≤ m) → l.foldr max 0 ≤ m
  | [], m, _ => by simp
  | x :: r, m, h => by
    have h1 := maxes_le r m fun y hy => h y (by simp [hy])
    have h2 := h x (by simp)
    simp only [List.foldr_cons]; omega
theorem Tr.hgt_sz (t : Tr) : t.hgt ≤ t.sz := by
  induction t using Tr.ind with
  | h k a c l ih =>
    rw [Tr.hgt_mk, Tr.sz_mk]
    have : (l.map Tr.hgt).foldr max 0 ≤ (l.map Tr.sz).sum := by
      refine maxes_le _ _ fun x hx => ?_
      obtain ⟨t, ht, rfl⟩ := List.mem_map.1 hx
      exact Nat.le_trans (ih t ht) (tsz_mem l t ht)
    omega
theorem tlen_sz : ∀ (l : List Tr), l.length ≤ (l.map Tr.sz).sum
  | [] => by simp
  | t :: r => by
    have := tlen_sz r
    have := t.sz_pos
    simp; omega
theorem Tr.sm_sz (t : Tr) (h : t.sz ≤ 100000000) : t.sm := by
  induction t using Tr.ind with
  | h k a c l ih =>
    rw [Tr.sz_mk] at h
    refine Tr.sm_mk.2 ⟨?_, fun t ht => ih t ht ?_⟩
    · have := tlen_sz l
      omega
    · have := tsz_mem l t ht
      omega
theorem TT.ok.tsm {m : Nat} (hm : m ≤ 100000000) {x : TT} : x.ok m → x.tsm := by
  induction x using TT.ind with
  | h k n t f a c l ih =>
    intro h
    obtain ⟨⟨_, _, ht, hf, _⟩, hl⟩ := TT.ok_mk.1 h
    exact TT.tsm_mk.2 ⟨t.sm_sz (by omega), f.sm_sz (by omega), fun y hy => ih y hy (hl y hy)⟩
theorem TT.ok.csz {m : Nat} (hm : m ≤ 100000000) {x : TT} : x.ok m → x.csz := by
  induction x using TT.ind with
  | h k n t f a c l ih =>
    intro h
    obtain ⟨⟨_, _, ht, hf, _⟩, hl⟩ := TT.ok_mk.1 h
    exact TT.csz_mk.2 ⟨by omega, by omega, fun y hy => ih y hy (hl y hy)⟩
theorem TT.ok.lw {m : Nat} (hm : m ≤ 100000000) {x : TT} : x.ok m → x.lw := by
  induction x using TT.ind with
  | h k n t f a c l ih =>
    intro h
    obtain ⟨⟨_, _, _, _, hk⟩, hl⟩ := TT.ok_mk.1 h
    exact TT.lw_mk.2 ⟨by omega, fun y hy => ih y hy (hl y hy)⟩
theorem TT.ok.nb {m : Nat} {x : TT} : x.ok m → x.nb := by
  induction x using TT.ind with
  | h k n t f a c l ih =>
    intro h
    obtain ⟨⟨_, hn, _, _, _⟩, hl⟩ := TT.ok_mk.1 h
    exact TT.nb_mk.2 ⟨(bounds_i64 hn).2, fun y hy => ih y hy (hl y hy)⟩
theorem rightM_all (ar : Int) (x : TT) (own : Int) (h1 : 1 ≤ x.k) (h9 : x.k ≤ 9) (hp : x.l.length = partsOf x.k) (hf : relY escSame x.f.ty ⟨0, []⟩ = true) :
    (okNum ar own x.k x.n && (if tells x.k = true then goodY 4 x.t.ty else isAnyY x.t.ty) && x.l.all fun y => rightM ar y.tm (insOf x.k own)) = rightM ar x.tm own := by
  obtain ⟨k, n, t, f, a, c, l⟩ := x
  rw [TT.tm_mk, rightM_mk]
  have e1 : decide (1 ≤ k) = true := by simpa using h1
  have e9 : decide (k ≤ 9) = true := by simpa using h9
  have ep : ((l.map TT.tm).length == partsOf k) = true := by simpa using hp
  have ef : isAnyY f.ty = true := hf
  have el : ((l.map TT.tm).all fun y => rightM ar y (insOf k own)) = (l.all fun y => rightM ar y.tm (insOf k own)) := by rw [List.all_map]; rfl
  simp only [okTop, okTypes, e1, e9, ep, ef, Bool.true_and, el]
  cases okNum ar own k n <;> cases (if tells k = true then goodY 4 t.ty else isAnyY t.ty) <;> rfl
theorem rightM_not (ar : Int) (x : TT) (own : Int) (h : okTop ar own x.tm = false) : rightM ar x.tm own = false := by
  obtain ⟨k, n, t, f, a, c, l⟩ := x
  rw [TT.tm_mk] at h
  rw [TT.tm_mk, rightM_mk, h]
  rfl
/-- right. -/
theorem right_any (ar : Int) : ∀ (m : Nat) (x : TT) (own : Int) (w : World), x.In w → x.sz ≤ m → x.ok 100000000 → 0 ≤ own → own + (m : Int) ≤ 1000000000 →
    Calls Tryz.prog 61 #[.agg #[.int .i64 x.k, .int .i64 x.n, .int .i64 x.t.k, .slice x.t.a x.t.l.length x.t.c, .int .i64 x.f.k, .slice x.f.a x.f.l.length x.f.c, .slice x.a x.l.length x.c], .int .i64 ar, .int .i64 own] w fun e w' => e = .returned (.bool (rightM ar x.tm own)) ∧ Below w.heap.size w w' := by
  intro m
  induction m with
  | zero =>
    intro x own w _ h
    have := x.sz_pos
    omega
  | succ m ih =>
    intro x own w hx hm hok h0 h1
    obtain ⟨hkw, hnw, ht, hf, _⟩ := hok.top
    by_cases hk : x.k < 1 ∨ 9 < x.k
    · rw [rightM_not ar x own (by simp only [okTop, TT.tm_k]; rcases hk with h | h <;> simp <;> omega)]
      exact right_kind x ar own w hk
    by_cases hl : x.l.length = partsOf x.k
    · by_cases hfe : relY escSame x.f.ty ⟨0, []⟩ = true
      · rw [← rightM_all ar x own (by omega) (by omega) hl hfe]
        have h3 : x.l.length ≤ 3 := by rw [hl]; unfold partsOf; split <;> (try split) <;> (try split) <;> omega
        refine right_main x ar own w hx hkw (by omega) (by omega) hl 100000000 (Nat.le_trans x.f.hgt_sz hf) (x.f.sm_sz hf) hfe (by omega) (Nat.le_trans x.t.hgt_sz ht) (x.t.sm_sz ht) (bounds_i64 hnw).2 h0 (by omega) h3 ?_
        intro j hj W hin
        have hs : x.l[j].sz ≤ m := by
          have h1 := x.sz_eq
          have h2 : x.l[j].sz ≤ (x.l.map TT.sz).sum := by
            have : ∀ (l : List TT) (y : TT), y ∈ l → y.sz ≤ (l.map TT.sz).sum := by
              intro l
              induction l with
              | nil => intro y h; cases h
              | cons a r ih =>
                intro y h
                rcases List.mem_cons.1 h with rfl | h
                · simp
                · have := ih y h
                  simp; omega
            exact this x.l _ (List.getElem_mem hj)
          omega
        have hi : 0 ≤ insOf x.k own ∧ insOf x.k own ≤ own + 1 := by unfold insOf; split <;> omega
        exact ih x.l[j] (insOf x.k own) W hin hs (hok.mem (List.getElem_mem hj)) hi.1 (by omega)
      · have hfe' : relY escSame x.f.ty ⟨0, []⟩ = false := by simpa using hfe
        rw [rightM_not ar x own (by simp only [okTop, okTypes, TT.tm_f, isAnyY, anyY, hfe']; simp)]
        exact right_from x ar own w hx hkw (by omega) (by omega) hl 100000000 (Nat.le_trans x.f.hgt_sz hf) (x.f.sm_sz hf) hfe'
    · rw [rightM_not ar x own (by simp only [okTop, TT.tm_k, TT.tm_l]; simp [hl])]
      exact right_parts x ar own w hkw (by omega) (by omega) hl
set_option maxRecDepth 20000 in
set_option maxHeartbeats 1000000 in
/-- IsTerm. -/
theorem isTerm_any (x : TT) (ar : Int) (w : World) (hx : x.In w) (hsz : x.sz ≤ 2000000) (hok : x.ok 100000000) :
    Calls Tryz.prog 37 #[.agg #[.int .i64 x.k, .int .i64 x.n, .int .i64 x.t.k, .slice x.t.a x.t.l.length x.t.c, .int .i64 x.f.k, .slice x.f.a x.f.l.length x.f.c, .slice x.a x.l.length x.c], .int .i64 ar] w fun e w' => e = .returned (.bool (goodM ar x.tm)) ∧ Below w.heap.size w w' := by
  have HN : Hid (∀ W, x.In W → Calls Tryz.prog 60 #[.agg #[.int .i64 x.k, .int .i64 x.n, .int .i64 x.t.k, .slice x.t.a x.t.l.length x.t.c, .int .i64 x.f.k, .slice x.f.a x.f.l.length x.f.c, .slice x.a x.l.length x.c]] W fun e w' => e = .returned (.int .i64 (x.sz : Int)) ∧ Below W.heap.size W w') := fun W h => nodesOf_any x W h hsz
  have HR : Hid (∀ W, x.In W → Calls Tryz.prog 61 #[.agg #[.int .i64 x.k, .int .i64 x.n, .int .i64 x.t.k, .slice x.t.a x.t.l.length x.t.c, .int .i64 x.f.k, .slice x.f.a x.f.l.length x.f.c, .slice x.a x.l.length x.c], .int .i64 ar, .int .i64 0] W fun e w' => e = .returned (.bool (rightM ar x.tm 0)) ∧ Below W.heap.size W w') := fun W h => right_any ar x.sz x 0 W h (Nat.le_refl _) hok (by omega) (by omega)
  have HG : Hid (goodM ar x.tm = (decide (x.sz < 41) && rightM ar x.tm 0)) := by rw [x.sz_tm]; exact goodM_right ar x.tm
  obtain ⟨g, hg⟩ : ∃ g, g = goodM ar x.tm := ⟨_, rfl⟩
  rw [← hg] at HG ⊢
  clear hg
  obtain ⟨W1, hW1⟩ : ∃ W, W = w.alloc (.cells #[.int .i64 x.k, .int .i64 x.n, .int .i64 x.t.k, .slice x.t.a x.t.l.length x.t.c, .int .i64 x.f.k, .slice x.f.a x.f.l.length x.f.c, .slice x.a x.l.length x.c] 27) := ⟨_, rfl⟩
  have hb1 : Below w.heap.size w W1 := by rw [hW1]; exact (Below.refl _ _).alloc (Nat.le_refl _) _
  obtain ⟨SZ, hSZ⟩ : ∃ S : Int, S = (x.sz : Int) := ⟨_, rfl⟩
  obtain ⟨r, hr⟩ : ∃ r, r = rightM ar x.tm 0 := ⟨_, rfl⟩
  rw [← hr] at HG
  have HP : Hid (∀ W, Below W1.heap.size W1 W → Calls Tryz.prog 60 #[.agg #[.int .i64 x.k, .int .i64 x.n, .int .i64 x.t.k, .slice x.t.a x.t.l.length x.t.c, .int .i64 x.f.k, .slice x.f.a x.f.l.length x.f.c, .slice x.a x.l.length x.c]] W fun e w' => e = .returned (.int .i64 SZ) ∧ Below W1.heap.size W1 w') := fun W hW => by
    refine (HN.out W (hx.below (hb1.trans (hW.mono hb1.size)))).mono ?_
    rintro e w' ⟨rfl, hb⟩
    rw [hSZ]
    exact ⟨rfl, hW.trans (hb.mono hW.size)⟩
  have HQ : Hid (∀ W, Below W1.heap.size W1 W → Calls Tryz.prog 61 #[.agg #[.int .i64 x.k, .int .i64 x.n, .int .i64 x.t.k, .slice x.t.a x.t.l.length x.t.c, .int .i64 x.f.k, .slice x.f.a x.f.l.length x.f.c, .slice x.a x.l.length x.c], .int .i64 ar, .int .i64 0] W fun e w' => e = .returned (.bool r) ∧ Below W1.heap.size W1 w') := fun W hW => by
    refine (HR.out W (hx.below (hb1.trans (hW.mono hb1.size)))).mono ?_
    rintro e w' ⟨rfl, hb⟩
    rw [hr]
    exact ⟨rfl, hW.trans (hb.mono hW.size)⟩
  have h7 : At7 W1 w.heap.size 0 x := by constructor <;> (rw [hW1]; simp [go_sem])
  have HK : Hid (∀ W, Below W1.heap.size W1 W → W.cell? ⟨w.heap.size, 0, none⟩ = some (.int .i64 x.k) ∧ W.cell? ⟨w.heap.size, 1, none⟩ = some (.int .i64 x.n) ∧ W.cell? ⟨w.heap.size, 2, none⟩ = some (.int .i64 x.t.k) ∧ W.cell? ⟨w.heap.size, 3, none⟩ = some (.slice x.t.a x.t.l.length x.t.c) ∧ W.cell? ⟨w.heap.size, 4, none⟩ = some (.int .i64 x.f.k) ∧ W.cell? ⟨w.heap.size, 5, none⟩ = some (.slice x.f.a x.f.l.length x.f.c) ∧ W.cell? ⟨w.heap.size, 6, none⟩ = some (.slice x.a x.l.length x.c)) := fun W hW => by
    obtain ⟨a0, a1, a2, a3, a4, a5, a6⟩ := h7.below hW
    simp only [Nat.zero_add] at a0 a1 a2 a3 a4 a5 a6
    exact ⟨a0, a1, a2, a3, a4, a5, a6⟩
  have HB : Hid (Below w.heap.size w W1) := hb1
  obtain ⟨d0, d1, d2, d3, d4, d5, d6⟩ := HK.out W1 (Below.refl _ _)
  have lw1 : w.heap.size < W1.heap.size := World.block_lt_of_cell? _ _ d0
  by_cases h41 : x.sz < 41
  · have e1 : decide (SZ < 41) = true := by simp; omega
    have HE : Hid (g = r) := by
      have := HG.out
      rw [show decide (x.sz < 41) = true by simpa using h41, Bool.true_and] at this
      exact this
    clear hb1 h7 hx hsz hok HN HR hSZ hr h41 HG
    go_enter Tryz.func37, Tryz.ntmps37
    go_upto_region 1 with fail
    rw [← hW1]
    clear hW1
    go_wp2_with (first
      | (go_at_call 60; refine (HP.out _ (Below.refl _ _)).mono ?_; rintro e w2 ⟨rfl, hb2⟩; obtain ⟨d0, d1, d2, d3, d4, d5, d6⟩ := HK.out _ hb2; have lw2 : w.heap.size < w2.heap.size := World.block_lt_of_cell? _ _ d0)
      | (go_at_call 61; refine (HQ.out _ hb2).mono ?_; rintro e w3 ⟨rfl, hb3⟩))
    have HZ : Hid (Below w.heap.size w w3) := HB.out.trans (hb3.mono HB.out.size)
    clear hb3 hb2
    go_ret
    exact ⟨by rw [HE.out]; cases r <;> rfl, HZ.out⟩
  · have e1 : decide (SZ < 41) = false := by simp; omega
    have HE : Hid (g = false) := by
      have := HG.out
      rw [show decide (x.sz < 41) = false by simpa using h41, Bool.false_and] at this
      exact this
    clear hb1 h7 hx hsz hok HN HR hSZ hr h41 HG HQ
    go_enter Tryz.func37, Tryz.ntmps37
    go_upto_region 1 with fail
    rw [← hW1]
    clear hW1
    go_wp2_with (first
      | (go_at_call 60; refine (HP.out _ (Below.refl _ _)).mono ?_; rintro e w2 ⟨rfl, hb2⟩; obtain ⟨d0, d1, d2, d3, d4, d5, d6⟩ := HK.out _ hb2; have lw2 : w.heap.size < w2.heap.size := World.block_lt_of_cell? _ _ d0))
    have HZ : Hid (Below w.heap.size w w2) := HB.out.trans (hb2.mono HB.out.size)
    clear hb2
    go_ret
    exact ⟨by rw [HE.out]; cases r <;> rfl, HZ.out⟩
end Go.Proofs.YtnddkmccagiclabGreatDoor

/-
  What the call of ref's CheckTerm answers.
-/
namespace Go.Proofs.YtnddkmccagiclabGreatDoor
open Go.RowKit
set_option maxRecDepth 20000 in
set_option maxHeartbeats 8000000 in
/-- CheckTerm. -/
theorem checkTerm_any (x : TT) (w : World) (hx : x.In w) (hsz : x.sz ≤ 2000000) (hok : x.ok 100000000) : Calls Tryz.prog 35 #[.agg #[.int .i64 x.k, .int .i64 x.n, .int .i64 x.t.k, .slice x.t.a x.t.l.length x.t.c, .int .i64 x.f.k, .slice x.f.a x.f.l.length x.f.c, .slice x.a x.l.length x.c]] w (CkPost x w) := by
  have hst := CF.start x w
  obtain ⟨W1, hW1⟩ : ∃ W1, W1 = (((w.alloc (.cells #[.int .i64 x.k, .int .i64 x.n, .int .i64 x.t.k, .slice x.t.a x.t.l.length x.t.c, .int .i64 x.f.k, .slice x.f.a x.f.l.length x.f.c, .slice x.a x.l.length x.c] 27)).alloc (.cells #[.int .i64 0, .int .i64 0, .int .i64 0, .slice none 0 0, .int .i64 0, .slice none 0 0, .slice none 0 0] 27)).alloc (.cells #[.int .i64 0, .slice none 0 0] 24)) := ⟨_, rfl⟩
  have hb1 : Below w.heap.size w W1 := by rw [hW1]; exact (((Below.refl _ _).alloc (Nat.le_refl _) _).alloc (by simp) _).alloc (by simp; omega) _
  rw [← hW1] at hst
  obtain ⟨gd, hgd⟩ : ∃ gd, goodM 0 x.tm = gd := ⟨_, rfl⟩
  have HG : Hid (Calls Tryz.prog 37 #[.agg #[.int .i64 x.k, .int .i64 x.n, .int .i64 x.t.k, .slice x.t.a x.t.l.length x.t.c, .int .i64 x.f.k, .slice x.f.a x.f.l.length x.f.c, .slice x.a x.l.length x.c], .int .i64 0] W1 fun e w' => e = .returned (.bool gd) ∧ Below W1.heap.size W1 w') := by
    have := isTerm_any x 0 W1 (hx.below hb1) hsz hok
    rw [hgd] at this
    exact this
  have HX : Hid (x.In w ∧ goodM 0 x.tm = gd ∧ Below w.heap.size w W1 ∧ CF w.heap.size x W1) := ⟨hx, hgd, hb1, hst⟩
  obtain ⟨p0, p1, p2, p3, p4, p5, p6⟩ := hst.at7
  simp only [Nat.zero_add] at p0 p1 p2 p3 p4 p5 p6
  have lw1 : w.heap.size < W1.heap.size := World.block_lt_of_cell? _ _ p0
  clear hx hsz hok hst hgd hb1
  go_enter Tryz.func35, Tryz.ntmps35
  go_wp2_with fail
  rw [← hW1]
  refine HG.out.mono ?_
  rintro e w2 ⟨rfl, hb2⟩
  have hcf : CF w.heap.size x w2 := HX.out.2.2.2.below hb2
  have hbw : Below w.heap.size w w2 := HX.out.2.2.1.trans (hb2.mono HX.out.2.2.1.size)
  have HX2 : Hid (x.In w ∧ goodM 0 x.tm = gd) := ⟨HX.out.1, HX.out.2.1⟩
  clear p0 p1 p2 p3 p4 p5 p6 HG HX hb2 hW1 lw1
  cases gd
  · have HA0 : Hid (∀ W, CF w.heap.size x W → Below w.heap.size w W → Calls Tryz.prog 56 #[] W fun e w' => e = .returned (.agg #[.int .i64 0, .slice none 0 0]) ∧ CF w.heap.size x w' ∧ Below w.heap.size w w') := fun W h1 h2 => by
      refine (any0_any W).mono ?_
      rintro e w' ⟨rfl, rfl⟩
      have hb : Below W.heap.size W (W.alloc (.cells #[.int .i64 0, .slice none 0 0] 24)) := (Below.refl _ _).alloc (Nat.le_refl _) _
      exact ⟨rfl, h1.below hb, h2.trans (hb.mono h2.size)⟩
    go_wp2_with fail
    refine (HA0.out _ hcf hbw).mono ?_
    clear hcf hbw
    rintro e w3 ⟨rfl, hcf, hbw⟩
    have HN : Hid (CkPost x w (.returned (.tuple #[.agg #[.int .i64 0, .int .i64 0, .int .i64 0, .slice none 0 0, .int .i64 0, .slice none 0 0, .slice none 0 0], .agg #[.int .i64 0, .slice none 0 0], .int .i64 1])) (ckEnd w3 w.heap.size (tleaf 0 0) (leaf 0))) := ⟨hbw.trans ((ckEnd_below w3 w.heap.size (tleaf 0 0) (leaf 0) hcf.lt).mono (Nat.le_refl _)), .inl ⟨HX2.out.2, rfl⟩⟩
    obtain ⟨e0, e1, e2, e3, e4, e5, e6, e7, e8⟩ := hcf.ends (tleaf 0 0) (leaf 0)
    obtain ⟨_, ⟨⟨y0, y1, y2, y3, y4, y5, y6⟩, f0, f1, f2, f3, f4, f5, f6⟩, u0, u1, g0, g1⟩ := hcf
    clear hbw
    go_wp2_with fail
    refine bodyPost_ret (v := .tuple #[.agg #[.int .i64 0, .int .i64 0, .int .i64 0, .slice none 0 0, .int .i64 0, .slice none 0 0, .slice none 0 0], .agg #[.int .i64 0, .slice none 0 0], .int .i64 1]) ?_ rfl HN.out
    unfold ckEnd put7 at e0 e1 e2 e3 e4 e5 e6 e7 e8
    simp only [tleaf, leaf, List.length_nil] at e0 e1 e2 e3 e4 e5 e6 e7 e8
    simp [results, Tryz.results35, go_sem, e0, e1, e2, e3, e4, e5, e6, e7, e8]
  · obtain ⟨hok, hsz⟩ := goodM_ok HX2.out.2
    have hlt := hcf.lt
    have hxsz : x.sz ≤ 40 := by rw [x.sz_tm]; exact hsz
    have hx2 : x.In w2 := HX2.out.1.below hbw
    have HC : Hid (Calls Tryz.prog 57 #[.agg #[.int .i64 x.k, .int .i64 x.n, .int .i64 x.t.k, .slice x.t.a x.t.l.length x.t.c, .int .i64 x.f.k, .slice x.f.a x.f.l.length x.f.c, .slice x.a x.l.length x.c], .slice none 0 0] w2 (TyPost (fun b => b ≠ w.heap.size + 1 ∧ b ≠ w.heap.size + 1 + 1) (typeS x.tm []) w2)) :=
      type_any x.sz x (Nat.le_refl _) _ (leaf 0) w2 hx2 (leaf_in _ _) hok (fun u h => by cases h) (by simp [leaf]; omega) (HX2.out.1.bl.mono fun b hb => ⟨by omega, by omega⟩) (leaf_bl _ _) (fun b hb => ⟨by omega, by omega⟩)
    have HB : Hid (x.sz ≤ 40 ∧ okTm x.tm 0) := ⟨hxsz, hok⟩
    obtain ⟨p0, p1, p2, p3, p4, p5, p6⟩ := hcf.at7
    simp only [Nat.zero_add] at p0 p1 p2 p3 p4 p5 p6
    have lw2 : w.heap.size < w2.heap.size := World.block_lt_of_cell? _ _ p0
    clear hok hsz hxsz
    go_wp2_with fail
    refine HC.out.mono ?_
    rintro e w3 ⟨t, bb, rfl, hbb, hty, hti, htb, hb3⟩
    obtain ⟨KB, hKB⟩ : ∃ K, K = w3.heap.size := ⟨_, rfl⟩
    obtain ⟨W4, hW4⟩ : ∃ W, W = w3.alloc (.cells #[.int .i64 t.k, .slice t.a t.l.length t.c] 24) := ⟨_, rfl⟩
    have hb34 : Below w3.heap.size w3 W4 := by rw [hW4]; exact (Below.refl _ _).alloc (Nat.le_refl _) _
    have hb24 : Below w2.heap.size w2 W4 := hb3.trans (hb34.mono hb3.size)
    have hcf4 : CF w.heap.size x W4 := hcf.below hb24
    have hbw4 : Below w.heap.size w W4 := hbw.trans (hb24.mono hbw.size)
    have k0 : W4.cell? ⟨KB, 0, none⟩ = some (.int .i64 t.k) := by rw [hW4, hKB]; simp [go_sem]
    have k1 : W4.cell? ⟨KB, 1, none⟩ = some (.slice t.a t.l.length t.c) := by rw [hW4, hKB]; simp [go_sem]
    have hKl : w.heap.size + 1 + 1 < KB := by have := hb3.size; omega
    have ht4 : t.In W4 := hti.below hb34
    cases bb with
    | false =>
      have HNO : Hid (readS x.tm [] 0 = none) := by
        cases h : readS x.tm [] 0 with
        | none => rfl
        | some q =>
          have := read_type x.tm [] 0
          rw [h] at this
          rw [← this] at hbb
          cases hbb
      have HA0 : Hid (∀ W, CF w.heap.size x W → Below w.heap.size w W → Calls Tryz.prog 56 #[] W fun e w' => e = .returned (.agg #[.int .i64 0, .slice none 0 0]) ∧ CF w.heap.size x w' ∧ Below w.heap.size w w') := fun W h1 h2 => by
        refine (any0_any W).mono ?_
        rintro e w' ⟨rfl, rfl⟩
        have hb : Below W.heap.size W (W.alloc (.cells #[.int .i64 0, .slice none 0 0] 24)) := (Below.refl _ _).alloc (Nat.le_refl _) _
        exact ⟨rfl, h1.below hb, h2.trans (hb.mono h2.size)⟩
      clear HC hcf hbb hty hti htb hb3 hb34 hb24 hbw k0 k1 ht4 p0 p1 p2 p3 p4 p5 p6 lw2 hlt
      go_wp2_with fail
      rw [← hW4]
      refine (HA0.out _ hcf4 hbw4).mono ?_
      clear hcf4 hbw4
      rintro e w5 ⟨rfl, hcf, hbw⟩
      have HN : Hid (CkPost x w (.returned (.tuple #[.agg #[.int .i64 0, .int .i64 0, .int .i64 0, .slice none 0 0, .int .i64 0, .slice none 0 0, .slice none 0 0], .agg #[.int .i64 0, .slice none 0 0], .int .i64 2])) (ckEnd w5 w.heap.size (tleaf 0 0) (leaf 0))) := ⟨hbw.trans ((ckEnd_below w5 w.heap.size (tleaf 0 0) (leaf 0) hcf.lt).mono (Nat.le_refl _)), .inr (.inl ⟨HX2.out.2, HNO.out, rfl⟩)⟩
      obtain ⟨e0, e1, e2, e3, e4, e5, e6, e7, e8⟩ := hcf.ends (tleaf 0 0) (leaf 0)
      obtain ⟨_, ⟨⟨y0, y1, y2, y3, y4, y5, y6⟩, f0, f1, f2, f3, f4, f5, f6⟩, u0, u1, g0, g1⟩ := hcf
      clear hbw
      go_wp2_with fail
      refine bodyPost_ret (v := .tuple #[.agg #[.int .i64 0, .int .i64 0, .int .i64 0, .slice none 0 0, .int .i64 0, .slice none 0 0, .slice none 0 0], .agg #[.int .i64 0, .slice none 0 0], .int .i64 2]) ?_ rfl HN.out
      unfold ckEnd put7 at e0 e1 e2 e3 e4 e5 e6 e7 e8
      simp only [tleaf, leaf, List.length_nil] at e0 e1 e2 e3 e4 e5 e6 e7 e8
      simp [results, Tryz.results35, go_sem, e0, e1, e2, e3, e4, e5, e6, e7, e8]
    | true =>
      obtain ⟨y0, i0, HRS⟩ : ∃ (y0 : Tm) (i0 : Ty), Hid (readS x.tm [] 0 = some (y0, i0) ∧ t.ty = i0) := by
        cases h : readS x.tm [] 0 with
        | none =>
          have := read_type x.tm [] 0
          rw [h] at this
          rw [← this] at hbb
          cases hbb
        | some q =>
          have := read_type x.tm [] 0
          rw [h] at this
          exact ⟨q.1, q.2, rfl, hty _ this.symm⟩
      have HT : Hid (t.In W4 ∧ t.Bl (fun b => b ≠ w.heap.size + 1 ∧ b ≠ w.heap.size + 1 + 1)) := ⟨ht4, htb⟩
      have HWC : Hid (Calls Tryz.prog 58 #[.agg #[.int .i64 x.k, .int .i64 x.n, .int .i64 x.t.k, .slice x.t.a x.t.l.length x.t.c, .int .i64 x.f.k, .slice x.f.a x.f.l.length x.f.c, .slice x.a x.l.length x.c], .slice none 0 0, .int .i64 0] W4.drew (WcPost (fun b => b ≠ w.heap.size + 1 ∧ b ≠ w.heap.size + 1 + 1) y0 W4.drew)) := by
        have := withCasts_any x.sz x (Nat.le_refl _) (fun b => b ≠ w.heap.size + 1 ∧ b ≠ w.heap.size + 1 + 1) (leaf 0) 0 W4.drew (HX2.out.1.below hbw4.drew) (leaf_in _ _) HB.out.2 (fun u h => by cases h) (by have := HB.out.1; simp [leaf]; omega) (by have := HB.out.1; omega) (HX2.out.1.bl.mono fun b hb => ⟨by omega, by omega⟩) (leaf_bl _ _) (fun b hb => by have h := hcf4.lt; have h2 : W4.drew.heap.size = W4.heap.size := rfl; exact ⟨by omega, by omega⟩) y0 i0 HRS.out.1
        exact this
      have HS : Hid (∀ W : World, (∀ k, k = w.heap.size ∨ k = KB → W.heap[k]? = W4.heap[k]?) → (fun W : World => W.cell? ⟨w.heap.size, 0, none⟩ = some (.int .i64 x.k) ∧ W.cell? ⟨w.heap.size, 1, none⟩ = some (.int .i64 x.n) ∧ W.cell? ⟨w.heap.size, 2, none⟩ = some (.int .i64 x.t.k) ∧ W.cell? ⟨w.heap.size, 3, none⟩ = some (.slice x.t.a x.t.l.length x.t.c) ∧ W.cell? ⟨w.heap.size, 4, none⟩ = some (.int .i64 x.f.k) ∧ W.cell? ⟨w.heap.size, 5, none⟩ = some (.slice x.f.a x.f.l.length x.f.c) ∧ W.cell? ⟨w.heap.size, 6, none⟩ = some (.slice x.a x.l.length x.c) ∧ W.cell? ⟨KB, 0, none⟩ = some (.int .i64 t.k) ∧ W.cell? ⟨KB, 1, none⟩ = some (.slice t.a t.l.length t.c)) W) := by
        intro W h
        have h7 := hcf4.at7
        obtain ⟨c0, c1, c2, c3, c4, c5, c6⟩ := h7.of (w' := W) fun i => World.cell?_of_block (a := ⟨w.heap.size, i, none⟩) (h _ (.inl rfl))
        simp only [Nat.zero_add] at c0 c1 c2 c3 c4 c5 c6
        exact ⟨c0, c1, c2, c3, c4, c5, c6, (World.cell?_of_block (a := ⟨KB, 0, none⟩) (h _ (.inr rfl))).trans k0, (World.cell?_of_block (a := ⟨KB, 1, none⟩) (h _ (.inr rfl))).trans k1⟩
      have lK : KB < W4.heap.size := World.block_lt_of_cell? _ _ k0
      have HC4 : Hid (CF w.heap.size x W4 ∧ Below w.heap.size w W4) := ⟨hcf4, hbw4⟩
      clear HC hcf hbb hty hti htb hb3 hb34 hb24 hbw ht4 p0 p1 p2 p3 p4 p5 p6 lw2 hlt hcf4 hbw4 k0 k1
      go_upto_region 6 with fail
      rw [← hW4, ← hKB]
      clear hW4 hKB
      refine wp_region_held_drew (S := fun W : World => W.cell? ⟨w.heap.size, 0, none⟩ = some (.int .i64 x.k) ∧ W.cell? ⟨w.heap.size, 1, none⟩ = some (.int .i64 x.n) ∧ W.cell? ⟨w.heap.size, 2, none⟩ = some (.int .i64 x.t.k) ∧ W.cell? ⟨w.heap.size, 3, none⟩ = some (.slice x.t.a x.t.l.length x.t.c) ∧ W.cell? ⟨w.heap.size, 4, none⟩ = some (.int .i64 x.f.k) ∧ W.cell? ⟨w.heap.size, 5, none⟩ = some (.slice x.f.a x.f.l.length x.f.c) ∧ W.cell? ⟨w.heap.size, 6, none⟩ = some (.slice x.a x.l.length x.c) ∧ W.cell? ⟨KB, 0, none⟩ = some (.int .i64 t.k) ∧ W.cell? ⟨KB, 1, none⟩ = some (.slice t.a t.l.length t.c)) (by kernel_rfl) (HS.out _ (fun k _ => rfl)) (fun hHeld => ?_)
      refine takeH (i := 0) (v := ?_) rfl (by kernel_rfl) (by kernel_rfl) (by kernel_rfl) (fun _ _ _ h => h) (Or.inl ⟨by rfl, ?_⟩) hHeld ?_; rotate_left; (focus (intro w' hSw; (try dsimp only at hSw); go_split_ands; first | (go_simp; done) | (go_simp; with_reducible rfl))); simp only [Act.put, List.setIfInBounds_toArray, List.set_cons_zero, List.set_cons_succ]
      refine takeH (i := 2) (v := ?_) rfl (by kernel_rfl) (by kernel_rfl) (by kernel_rfl) (fun _ _ _ h => h) (Or.inl ⟨by rfl, ?_⟩) hHeld ?_; rotate_left; (focus (intro w' hSw; (try dsimp only at hSw); go_split_ands; first | (go_simp; done) | (go_simp; with_reducible rfl))); simp only [Act.put, List.setIfInBounds_toArray, List.set_cons_zero, List.set_cons_succ]
      refine oneH (i := 1) rfl (by kernel_rfl) (fun K hK => ?_)
      go_simp
      go_at_call 58
      refine HWC.out.mono ?_
      rintro e w5 ⟨y, rfl, hyt, hyi, hyb, hb5⟩
      have hb45 : Below W4.heap.size W4 w5 := ((Below.refl _ _).drew).trans (hb5.mono (Nat.le_refl _))
      have hcf := HC4.out.1.below hb45
      have hbw := HC4.out.2.trans (hb45.mono HC4.out.2.size)
      have hk5 : ∀ k, k = w.heap.size ∨ k = KB → w5.heap[k]? = W4.heap[k]? := fun k hk => hb45.block k (by rcases hk with rfl | rfl <;> omega)
      refine hK.out _ _ (HS.out _ hk5) (fun hHeld => ?_)
      clear hK K
      have HN : Hid (CkPost x w (.returned (.tuple #[.agg #[.int .i64 y.k, .int .i64 y.n, .int .i64 y.t.k, .slice y.t.a y.t.l.length y.t.c, .int .i64 y.f.k, .slice y.f.a y.f.l.length y.f.c, .slice y.a y.l.length y.c], .agg #[.int .i64 t.k, .slice t.a t.l.length t.c], .int .i64 0])) (ckEnd w5 w.heap.size y t)) := by
        have h1 := put7_kept (w := w5) (J := w.heap.size + 1) (x := y)
        have h2 : Kept (w.heap.size + 1 + 1) none (put7 w5 (w.heap.size + 1) y) (ckEnd w5 w.heap.size y t) := setR_kept.trans setR_kept
        refine ⟨hbw.trans ((ckEnd_below w5 w.heap.size y t hcf.lt).mono (Nat.le_refl _)), .inr (.inr ⟨HX2.out.2, y, t, ?_, rfl, ?_, ?_, ?_⟩)⟩
        · rw [HRS.out.1, hyt, HRS.out.2]
        · exact (hyi.keptR h1 (hyb.mono fun b hb => hb.1)).keptR h2 (hyb.mono fun b hb => hb.2)
        · exact ((HT.out.1.below hb45).keptR h1 (HT.out.2.mono fun b hb => hb.1)).keptR h2 (HT.out.2.mono fun b hb => hb.2)
        · rw [goodT_eq]
          have := read_good x.tm [] 0 y0 t.ty HB.out.2 (fun u h => by cases h) (by rw [HRS.out.1, HRS.out.2])
          have h40 := HB.out.1
          rw [x.sz_tm] at h40
          exact goodY_more _ 44 _ (by omega) this
      obtain ⟨e0, e1, e2, e3, e4, e5, e6, e7, e8⟩ := hcf.ends y t
      have HSP : Hid ((fun W : World => W.cell? ⟨w.heap.size, 0, none⟩ = some (.int .i64 x.k) ∧ W.cell? ⟨w.heap.size, 1, none⟩ = some (.int .i64 x.n) ∧ W.cell? ⟨w.heap.size, 2, none⟩ = some (.int .i64 x.t.k) ∧ W.cell? ⟨w.heap.size, 3, none⟩ = some (.slice x.t.a x.t.l.length x.t.c) ∧ W.cell? ⟨w.heap.size, 4, none⟩ = some (.int .i64 x.f.k) ∧ W.cell? ⟨w.heap.size, 5, none⟩ = some (.slice x.f.a x.f.l.length x.f.c) ∧ W.cell? ⟨w.heap.size, 6, none⟩ = some (.slice x.a x.l.length x.c) ∧ W.cell? ⟨KB, 0, none⟩ = some (.int .i64 t.k) ∧ W.cell? ⟨KB, 1, none⟩ = some (.slice t.a t.l.length t.c)) (put7 w5 (w.heap.size + 1) y)) := HS.out _ fun k hk => (put7_kept.block k (by have := hb45.size; rcases hk with rfl | rfl <;> omega) (by rcases hk with rfl | rfl <;> omega) (by simp)).trans (hk5 k hk)
      have HSQ : Hid ((fun W : World => W.cell? ⟨w.heap.size, 0, none⟩ = some (.int .i64 x.k) ∧ W.cell? ⟨w.heap.size, 1, none⟩ = some (.int .i64 x.n) ∧ W.cell? ⟨w.heap.size, 2, none⟩ = some (.int .i64 x.t.k) ∧ W.cell? ⟨w.heap.size, 3, none⟩ = some (.slice x.t.a x.t.l.length x.t.c) ∧ W.cell? ⟨w.heap.size, 4, none⟩ = some (.int .i64 x.f.k) ∧ W.cell? ⟨w.heap.size, 5, none⟩ = some (.slice x.f.a x.f.l.length x.f.c) ∧ W.cell? ⟨w.heap.size, 6, none⟩ = some (.slice x.a x.l.length x.c) ∧ W.cell? ⟨KB, 0, none⟩ = some (.int .i64 t.k) ∧ W.cell? ⟨KB, 1, none⟩ = some (.slice t.a t.l.length t.c)) (ckEnd w5 w.heap.size y t)) := HS.out _ fun k hk => by
        have h2 : Kept (w.heap.size + 1 + 1) none (put7 w5 (w.heap.size + 1) y) (ckEnd w5 w.heap.size y t) := setR_kept.trans setR_kept
        have hsz : (put7 w5 (w.heap.size + 1) y).heap.size = w5.heap.size := by simp [put7, World.setCell]
        exact (h2.block k (by have := hb45.size; rcases hk with rfl | rfl <;> omega) (by rcases hk with rfl | rfl <;> omega) (by simp)).trans ((put7_kept.block k (by have := hb45.size; rcases hk with rfl | rfl <;> omega) (by rcases hk with rfl | rfl <;> omega) (by simp)).trans (hk5 k hk))
      obtain ⟨_, ⟨⟨y0', y1, y2, y3, y4, y5, y6⟩, f0, f1, f2, f3, f4, f5, f6⟩, u0, u1, g0, g1⟩ := hcf
      unfold ckEnd at HSQ
      unfold put7 at HSP HSQ
      unfold ckEnd put7 at e0 e1 e2 e3 e4 e5 e6 e7 e8
      clear hyi hyb hb5 hb45 hbw hk5 HS HC4 HWC HT
      refine oneH (i := 3) rfl (by kernel_rfl) (fun K hK => ?_)
      go_simp
      refine hK.out _ _ HSP.out (fun hHeld => ?_)
      clear hK K
      refine oneH (i := 4) rfl (by kernel_rfl) (fun K hK => ?_)
      go_simp
      refine hK.out _ _ HSQ.out (fun hHeld => ?_)
      clear hK K
      refine takeH (i := 5) (v := ?_) rfl (by kernel_rfl) (by kernel_rfl) (by kernel_rfl) (fun _ _ _ h => h) (Or.inl ⟨by rfl, ?_⟩) hHeld ?_; rotate_left; (focus (intro w' hSw; (try dsimp only at hSw); go_split_ands; first | (go_simp; done) | (go_simp; with_reducible rfl))); simp only [Act.put, List.setIfInBounds_toArray, List.set_cons_zero, List.set_cons_succ]
      refine wpAnyH_done (by kernel_rfl) ?_ _
      go_wp2_with fail
      refine bodyPost_ret (v := .tuple #[.agg #[.int .i64 y.k, .int .i64 y.n, .int .i64 y.t.k, .slice y.t.a y.t.l.length y.t.c, .int .i64 y.f.k, .slice y.f.a y.f.l.length y.f.c, .slice y.a y.l.length y.c], .agg #[.int .i64 t.k, .slice t.a t.l.length t.c], .int .i64 0]) ?_ rfl HN.out
      simp [results, Tryz.results35, go_sem, e0, e1, e2, e3, e4, e5, e6, e7, e8]
end Go.Proofs.YtnddkmccagiclabGreatDoor

/-
  What Check makes of a term has a type, and the machine can go through it: plain mathematics; no program in it.
-/
namespace Go.Proofs.YtnddkmccagiclabGreatDoor
theorem tsz_sz' : ∀ x : Tm, x.tsz = x.sz := by
  intro x
  induction x using Tm.ind with
  | h k n t f l ih =>
    rw [Tm.tsz_mk, Tm.sz_mk]
    congr 2
    exact List.map_congr_left ih
theorem okNum_bounds {ar ins k n : Int} (h : okNum ar ins k n = true) (hi : ins + ar ≤ 1000) : -1000000 ≤ n ∧ n ≤ 1000000 ∧ (k = 1 → 0 ≤ n) := by
  unfold okNum at h
  split at h
  · simp at h; omega
  · split at h
    · simp at h; rename_i h1 _; exact ⟨by omega, by omega, fun e => absurd e h1⟩
    · split at h
      · simp at h; rename_i h1 _ _; exact ⟨by omega, by omega, fun e => absurd e h1⟩
      · simp at h; rename_i h1 _ _; exact ⟨by omega, by omega, fun e => absurd e h1⟩
/-- What a cast part is. -/
structure PartOk (takes : List Ty) (y : Tm) (i : Ty) (z : Nat) : Prop where
  sh : shp y
  ty : tyM y takes i
  sz : y.sz + 1 ≤ 2 * z
  gi : goodY 45 i = true
theorem castY_ok {takes : List Ty} {y : Tm} {i u : Ty} {z n : Nat} (h : PartOk takes y i z) (hu : goodY 46 u = true) (hf : relY escFits i u = true) (hn : n ≤ 1000) : shp (castY (n : Int) y i u) ∧ tyM (castY (n : Int) y i u) takes u ∧ (castY (n : Int) y i u).sz ≤ 2 * z := by
  unfold castY
  split
  · rename_i hs
    have e := same_eq i u hs
    subst e
    exact ⟨h.sh, h.ty, by have := h.sz; omega⟩
  · refine ⟨shp_mk.2 ⟨⟨by omega, by omega, rfl, by omega, by omega, fun e => by omega, fun _ => ⟨hu, goodY_more 45 46 i (by omega) h.gi⟩⟩, fun x hx => ?_⟩, ?_, ?_⟩
    · rcases List.mem_singleton.1 hx with rfl
      exact h.sh
    · refine tyM_mk.2 ⟨[i], rfl, fun j hj _ => ?_, .inr (.inr (.inr (.inr (.inr (.inr (.inr (.inr (.inr ⟨rfl, rfl, rfl, hf, goodY_more 45 46 i (by omega) h.gi, hu⟩))))))))⟩
      match j, hj with
      | 0, _ => exact h.ty
    · rw [Tm.sz_mk]
      have := h.sz
      simp
      omega
theorem castL_ok {takes : List Ty} : ∀ (l : List Tm) (c : Nat) (ps : List (Nat × Tm × Ty)) (us : List Ty), readL l takes c = some ps → us.length = ps.length → fitL (ps.map fun p => p.2.2) us = true → (∀ u, u ∈ us → goodY 46 u = true) → c + (l.map Tm.sz).sum ≤ 1000 →
    (∀ x, x ∈ l → ∀ c y i, readS x takes c = some (y, i) → c + x.sz ≤ 1000 → PartOk takes y i x.sz) →
    (castL ps us).length = l.length ∧ (∀ x, x ∈ castL ps us → shp x) ∧ ((castL ps us).map Tm.sz).sum ≤ 2 * (l.map Tm.sz).sum ∧ ∀ j (h : j < (castL ps us).length) (h' : j < us.length), tyM (castL ps us)[j] takes us[j]
  | [], c, ps, us, h, _, _, _, _, _ => by rw [readL] at h; cases h; simp [castL]
  | x :: r, c, ps, us, h, hl, hf, hu, hc, hQ => by
    obtain ⟨y, i, q, h1, h2, rfl⟩ := readL_cons h
    match us, hl, hf, hu with
    | [], hl, _, _ => simp at hl
    | u :: vs, hl, hf, hu =>
      simp only [List.map_cons, fitL, Bool.and_eq_true] at hf
      simp only [List.map_cons, List.sum_cons] at hc
      have hp := hQ x (by simp) c y i h1 (by omega)
      obtain ⟨a1, a2, a3⟩ := castY_ok (n := c) hp (hu u (by simp)) hf.1 (by omega)
      obtain ⟨b0, b1, b2, b3⟩ := castL_ok r (c + x.sz) q vs h2 (by simpa using hl) hf.2 (fun v hv => hu v (by simp [hv])) (by omega) fun z hz => hQ z (by simp [hz])
      have e : castL ((c, y, i) :: q) (u :: vs) = castY (c : Int) y i u :: castL q vs := rfl
      rw [e]
      refine ⟨by simp [b0], fun z hz => ?_, ?_, fun j hj hj' => ?_⟩
      · rcases List.mem_cons.1 hz with rfl | hz
        · exact a1
        · exact b1 z hz
      · simp only [List.map_cons, List.sum_cons]; omega
      · match j with
        | 0 => exact a2
        | j + 1 => exact b3 j (by simpa using hj) (by simpa using hj')
theorem rule_ty {k n : Int} {t : Ty} {ps takes : List Ty} {i : Ty} {us : List Ty} {m : Nat} (h1 : 1 ≤ k) (h9 : k ≤ 9) (hl : ps.length = partsOf k) (hn : k = 1 → n.toNat < takes.length) (hp : ∀ u, u ∈ ps → goodY (m + 1) u = true) (h : ruleY k n t ps takes = some (i, us)) (G : List Ty) (hG : k ≠ 7 → G = takes) : ruleT k n t anyY us G i := by
  have hk : k = 1 ∨ k = 2 ∨ k = 3 ∨ k = 4 ∨ k = 5 ∨ k = 6 ∨ k = 7 ∨ k = 8 ∨ k = 9 := by omega
  rcases hk with rfl | rfl | rfl | rfl | rfl | rfl | rfl | rfl | rfl
  · have h' : takes.getD n.toNat ⟨0, []⟩ = i ∧ [] = us := by simpa [ruleY] using h
    obtain ⟨rfl, rfl⟩ := h'
    refine .inl ⟨rfl, rfl, ?_⟩
    rw [hG (by omega), List.getD_eq_getElem?_getD, List.getElem?_eq_getElem (hn rfl)]
    rfl
  · simp [ruleY] at h
    obtain ⟨rfl, rfl⟩ := h
    exact .inr (.inl ⟨rfl, rfl, rfl⟩)
  · simp [ruleY] at h
    obtain ⟨rfl, rfl⟩ := h
    exact .inr (.inr (.inl ⟨rfl, rfl, rfl⟩))
  · simp [ruleY] at h
    obtain ⟨rfl, rfl⟩ := h
    exact .inr (.inr (.inr (.inl ⟨rfl, rfl, rfl⟩)))
  · simp [ruleY] at h
    obtain ⟨rfl, rfl⟩ := h
    exact .inr (.inr (.inr (.inr (.inl ⟨rfl, rfl, rfl⟩))))
  · have h' : ifY ⟨2, []⟩ (ps.getD 1 ⟨0, []⟩) (ps.getD 2 ⟨0, []⟩) = some (i, us) := by simpa [ruleY] using h
    unfold ifY at h'
    split at h'
    · cases h'
      exact .inr (.inr (.inr (.inr (.inr (.inl ⟨rfl, rfl⟩)))))
    · cases h'
  · have h' : i = ⟨3, [t, ps.getD 0 ⟨0, []⟩]⟩ ∧ us = ps := by
      have : some (Ty.mk 3 [t, ps.getD 0 ⟨0, []⟩], ps) = some (i, us) := by simpa [ruleY] using h
      cases this; exact ⟨rfl, rfl⟩
    obtain ⟨rfl, rfl⟩ := h'
    match us, hl with
    | [b], _ => exact .inr (.inr (.inr (.inr (.inr (.inr (.inl ⟨rfl, b, rfl, rfl⟩))))))
  · have h' : callY (ps.getD 0 ⟨0, []⟩) = some (i, us) := by simpa [ruleY] using h
    match ps, hl, hp, h' with
    | [p, q], _, hp, h' =>
      have h'' : callY p = some (i, us) := h'
      refine .inr (.inr (.inr (.inr (.inr (.inr (.inr (.inl ⟨rfl, ?_⟩)))))))
      rcases goodY_cases (hp p (by simp)) with ⟨k, rfl, hk⟩ | ⟨x, y, rfl, _, _⟩
      · rcases hk with rfl | rfl | rfl
        · simp [callY] at h''
          obtain ⟨rfl, rfl⟩ := h''
          exact ⟨anyY, rfl⟩
        · simp [callY] at h''
        · simp [callY] at h''
      · simp [callY] at h''
        obtain ⟨rfl, rfl⟩ := h''
        exact ⟨x, rfl⟩
  · have h' : i = t ∧ us = [t] := by
      have : some (t, [t]) = some (i, us) := by simpa [ruleY] using h
      cases this; exact ⟨rfl, rfl⟩
    obtain ⟨rfl, rfl⟩ := h'
    exact .inr (.inr (.inr (.inr (.inr (.inr (.inr (.inr (.inl ⟨rfl, rfl, rfl⟩))))))))
theorem read_run : ∀ (x : Tm) (takes : List Ty) (c : Nat) (y : Tm) (i : Ty), okTm x takes.length → (∀ u, u ∈ takes → goodY 4 u = true) → readS x takes c = some (y, i) → x.sz ≤ 40 → takes.length + x.sz ≤ 900 → c + x.sz ≤ 1000 → PartOk takes y i x.sz := by
  intro x
  induction x using Tm.ind with
  | h k n t f l ih =>
    intro takes c y i hok hT h hz ht9 hc
    have hgi := read_good _ _ c y i hok hT h
    obtain ⟨h0, h1⟩ := okTm_mk.1 hok
    obtain ⟨k1, k9, hl, _, ht, hnt, hn1⟩ := okTop_all h0
    obtain ⟨ps, us, e1, e2, e3, rfl⟩ := readS_some h
    have hlen := readL_length _ _ _ _ e1
    rw [Tm.sz_mk] at hz hc ht9 hgi
    have hp : ∀ x, x ∈ l → ∀ c y i, readS x (takesIn k t takes) c = some (y, i) → c + x.sz ≤ 1000 → PartOk (takesIn k t takes) y i x.sz := by
      intro x hx c y i hr hc
      have hs := sz_mem l x hx
      have ho : okTm x (takesIn k t takes).length := by rw [takesIn_length]; exact h1 x hx
      have hle : (takesIn k t takes).length ≤ takes.length + 1 := by rw [takesIn_length]; split <;> omega
      exact ih x hx _ c y i ho (takesIn_good ht hT) hr (by omega) (by omega) hc
    have hg : ∀ u, u ∈ ps.map (fun p => p.2.2) → goodY ((l.map Tm.sz).sum + 4) u = true := by
      intro u hu
      obtain ⟨j, hj, rfl⟩ := List.getElem_of_mem hu
      have hj' : j < ps.length := by simpa using hj
      have := readL_all (Q := fun x _ _ i => goodY (x.sz + 4) i = true) l _ ps e1 (fun x hx c y i hr => read_good x _ c y i (by rw [takesIn_length]; exact h1 x hx) (takesIn_good ht hT) hr) j hj' (by omega)
      have hs := sz_mem l l[j] (List.getElem_mem _)
      simpa using goodY_more _ ((l.map Tm.sz).sum + 4) _ (by omega) this
    obtain ⟨r1, _, r3⟩ := rule_good ((l.map Tm.sz).sum + 4) (by omega) k1 k9 (by simpa using hlen.trans hl) ht (takesIn_good ht hT) hg e2
    obtain ⟨c0, c1, c2, c3⟩ := castL_ok l (c + 1) ps us e1 (by simpa using r1) e3 (fun u hu => goodY_more _ 46 u (by omega) (r3 u hu)) (by omega) hp
    have hnum : okNum 0 (takes.length : Int) k n = true := by
      simp only [okTop, Bool.and_eq_true] at h0
      exact h0.2.2
    obtain ⟨n1, n2, n3⟩ := okNum_bounds hnum (by omega)
    refine ⟨shp_mk.2 ⟨⟨k1, by omega, ?_, n1, n2, n3, fun e => by omega⟩, c1⟩, ?_, ?_, goodY_more _ 45 i (by omega) hgi⟩
    · rw [c0, hl]; unfold partsR; rw [if_neg (by omega)]
    · have hTk : (if k = 7 then t :: takes else takes) = takesIn k t takes := rfl
      refine tyM_mk.2 ⟨us, ?_, fun j hj hj' => ?_, ?_⟩
      · rw [c0, r1]; simpa using hlen.symm
      · rw [hTk]; exact c3 j hj hj'
      · refine rule_ty (m := (l.map Tm.sz).sum + 3) k1 k9 (by simpa using hlen.trans hl) (fun e => ?_) hg e2 takes fun hk => ?_
        · have := hn1 e
          rw [takesIn_length, if_neg (by omega)]
          omega
        · unfold takesIn; rw [if_neg hk]
    · rw [Tm.sz_mk, Tm.sz_mk]; omega
/-- What Check makes of a good term. -/
theorem check_run {x y : Tm} {i : Ty} (hg : goodM 0 x = true) (h : readS x [] 0 = some (y, i)) : shp y ∧ y.tsz ≤ 100 ∧ tyM y [] i := by
  obtain ⟨hok, hsz⟩ := goodM_ok hg
  have := read_run x [] 0 y i hok (fun u hu => by cases hu) h hsz (by simp; omega) (by omega)
  refine ⟨this.sh, ?_, this.ty⟩
  rw [tsz_sz']
  have := this.sz
  omega
/-- A good term itself. -/
theorem good_run : ∀ (x : Tm) (ins : Nat), okTm x ins → ins + x.sz ≤ 900 → shp x := by
  intro x
  induction x using Tm.ind with
  | h k n t f l ih =>
    intro ins hok hz
    obtain ⟨h0, h1⟩ := okTm_mk.1 hok
    obtain ⟨k1, k9, hl, _, ht, hnt, hn1⟩ := okTop_all h0
    have hnum : okNum 0 (ins : Int) k n = true := by
      simp only [okTop, Bool.and_eq_true] at h0
      exact h0.2.2
    rw [Tm.sz_mk] at hz
    obtain ⟨n1, n2, n3⟩ := okNum_bounds hnum (by omega)
    refine shp_mk.2 ⟨⟨k1, by omega, ?_, n1, n2, n3, fun e => by omega⟩, fun x hx => ?_⟩
    · rw [hl]; unfold partsR; rw [if_neg (by omega)]
    · have hs := sz_mem l x hx
      refine ih x hx _ (h1 x hx) ?_
      split <;> omega
end Go.Proofs.YtnddkmccagiclabGreatDoor

/-
  What the calls of (*reader).readType and (*reader).readTypeInBrackets do: the type that the words tell, or something went wrong.
-/
namespace Go.Proofs.YtnddkmccagiclabGreatDoor
open Go.RowKit
/-- The state behind a step: the words left, or none and something went wrong. -/
def After (R : Nat) (b : Bool) (o : Option (List ByteArray)) (w' : World) : Prop := (∃ r, o = some r ∧ RS R r b w') ∨ (o = none ∧ RS R [] true w')
theorem want_any (R : Nat) (word : ByteArray) (hw : (⟨#[]⟩ : ByteArray) ≠ word) (ws : List ByteArray) (b : Bool) (w : World) (h : RS R ws b w) :
    Calls Tryz.prog 87 #[.pointer (some ⟨R, 0, none⟩), .string word] w fun e w' => e = .returned (.tuple #[]) ∧ After R b (behind word ws) w' ∧ Kept R none w w' := by
  cases ws with
  | nil =>
    refine (want_nil R word hw b w h).mono ?_
    rintro e w' ⟨rfl, hr, hk⟩
    exact ⟨rfl, .inr ⟨rfl, hr⟩, hk⟩
  | cons x r =>
    refine (want_walk R x word r b w h).mono ?_
    rintro e w' ⟨rfl, ⟨hx, hr⟩ | ⟨hx, hr⟩, hk⟩
    · exact ⟨rfl, .inl ⟨r, by simp [behind, hx], hr⟩, hk⟩
    · exact ⟨rfl, .inr ⟨by simp [behind, hx], hr⟩, hk⟩
/-- What the call leaves: a tree, and the state. -/
def TyPostP (R : Nat) (b : Bool) (o : Option (Ty × List ByteArray)) (w : World) (e : Ending) (w' : World) : Prop :=
  ∃ t : Tr, e = .returned (.agg #[.int .i64 t.k, .slice t.a t.l.length t.c]) ∧ t.In w' ∧ t.Bl (w.heap.size ≤ ·) ∧ Kept R none w w' ∧ After R b (o.map (·.2)) w' ∧ ∀ p, o = some p → t.ty = p.1
theorem set_two {k : Nat} {w : World} {u v u' v' : Value} (h0 : w.cell? ⟨k, 0, none⟩ = some u') (h1 : w.cell? ⟨k, 1, none⟩ = some v') :
    ((w.setCell ⟨k, 0, none⟩ u).setCell ⟨k, 1, none⟩ v).cell? ⟨k, 0, none⟩ = some u ∧ ((w.setCell ⟨k, 0, none⟩ u).setCell ⟨k, 1, none⟩ v).cell? ⟨k, 1, none⟩ = some v := by
  constructor
  · rw [World.cell?_setCell_other _ _ _ _ (by simp)]
    exact World.cell?_setCell_same _ _ _ h0
  · refine World.cell?_setCell_same _ _ _ (u := v') ?_
    rw [World.cell?_setCell_other _ _ _ _ (by simp)]
    exact h1
theorem kept_set2 {R k : Nat} {w w' : World} {u v : Value} (h : Kept R none w w') (hk : w.heap.size ≤ k) : Kept R none w ((w'.setCell ⟨k, 0, none⟩ u).setCell ⟨k, 1, none⟩ v) :=
  ⟨h.os, h.tape, h.output, by have := h.size; simpa [World.setCell] using this, fun q hq h1 h2 => by
    have hn : q ≠ k := by omega
    rw [Below.heap_setCell _ _ _ _ hn, Below.heap_setCell _ _ _ _ hn]
    exact h.block q hq h1 h2⟩
set_option maxRecDepth 20000 in
set_option maxHeartbeats 1000000 in
/-- (*reader).readType at a word that opens no brackets. -/
theorem readType_word (R n : Nat) (x : ByteArray) (r : List ByteArray) (hx : x ≠ opB) (b : Bool) (w : World) (hg : Gl w) (hR : 12 ≤ R) (h : RS R (x :: r) b w) :
    Calls Tryz.prog 86 #[.pointer (some ⟨R, 0, none⟩)] w (TyPostP R b (readTy (n + 1) (x :: r)) w) := by
  have hb0 : Below w.heap.size w (w.alloc (.cells #[.int .i64 0, .slice none 0 0] 24)) := (Below.refl _ _).alloc (Nat.le_refl _) _
  have HN : Hid (Calls Tryz.prog 51 #[.pointer (some ⟨R, 0, none⟩)] (w.alloc (.cells #[.int .i64 0, .slice none 0 0] 24)) fun e w' => e = .returned (.string x) ∧ RS R r b w' ∧ Kept R none (w.alloc (.cells #[.int .i64 0, .slice none 0 0] 24)) w') := next_cons R x r b _ (h.below hb0)
  have hRl := h.lt
  have hq : (x.toList == [40]) = false := by
    have := (Lib.bytes_beq_false_iff x opB).2 hx
    rw [opB, Lib.toList_data ⟨#[40]⟩] at this
    exact this
  have HG : Hid (Gl (w.alloc (.cells #[.int .i64 0, .slice none 0 0] 24))) := hg.below hb0
  have HX : Hid (readTy (n + 1) (x :: r) = (atWord x typeWs 0).map fun (k : Nat) => (Ty.mk (k : Int) [], r)) := by
    have e : readTy (n + 1) (x :: r) = if x = opB then (behind toB r).bind fun r1 => (readTy n r1).bind fun p => (readTy n p.2).bind fun q => (behind clB q.2).map fun r4 => (⟨3, [p.1, q.1]⟩, r4) else (atWord x typeWs 0).map fun (k : Nat) => (Ty.mk (k : Int) [], r) := rfl
    exact e.trans (if_neg hx)
  clear h hx hg
  go_enter Tryz.func86, Tryz.ntmps86
  go_wp2_with fail
  refine HN.out.mono ?_
  rintro e w1 ⟨rfl, hr, hk⟩
  have z0 : w1.cell? ⟨w.heap.size, 0, none⟩ = some (.int .i64 0) := hk.cell (by simp [go_sem]) (by omega)
  have z1 : w1.cell? ⟨w.heap.size, 1, none⟩ = some (.slice none 0 0) := hk.cell (by simp [go_sem]) (by omega)
  have hzb := hk.block w.heap.size (by simp) (by omega) (by simp)
  have z2 : w1.frozen? ⟨w.heap.size, 0, none⟩ = false := (World.frozen?_of_block (a := ⟨w.heap.size, 0, none⟩) hzb).trans (by simp [go_sem])
  have z3 : w1.frozen? ⟨w.heap.size, 1, none⟩ = false := (World.frozen?_of_block (a := ⟨w.heap.size, 1, none⟩) hzb).trans (by simp [go_sem])
  have HG1 : Hid (Gl w1) := HG.out.kept hR hk
  have HK : Hid (Kept R none w w1) := (Kept.of_below hb0).trans hk
  have HR : Hid (RS R r b w1) := hr
  have hs1 : w.heap.size < w1.heap.size := World.block_lt_of_cell? _ _ z0
  clear hk hr hzb HN HG
  cases ha : atWord x typeWs 0 with
  | none =>
    have HT : Hid (Calls Tryz.prog 126 #[.string x] w1 fun e w' => e = .returned (.tuple #[.int .i64 0, .bool false]) ∧ w' = w1) := by
      have := typeKindOf_any x w1 HG1.out
      rw [ha] at this
      exact this
    have HO : Hid (readTy (n + 1) (x :: r) = none) := by show _ = _; rw [HX.out, ha]; rfl
    have HF : Hid (Calls Tryz.prog 83 #[.pointer (some ⟨R, 0, none⟩)] w1 fun e w' => e = .returned (.tuple #[]) ∧ RS R [] true w' ∧ Kept R none w1 w') := fail_any R r b w1 HR.out
    clear ha HX HG1
    go_wp2_with fail
    refine HT.out.mono ?_
    rintro e w2 ⟨rfl, rfl⟩
    go_wp2_with fail
    refine HF.out.mono ?_
    rintro e w3 ⟨rfl, hr3, hk3⟩
    have hne : w.heap.size ≠ R := by omega
    have y0 := hk3.cell z0 hne
    have y1 := hk3.cell z1 hne
    have hyb := hk3.block w.heap.size hs1 hne (by simp)
    have y2 := (World.frozen?_of_block (a := ⟨w.heap.size, 0, none⟩) hyb).trans z2
    have y3 := (World.frozen?_of_block (a := ⟨w.heap.size, 1, none⟩) hyb).trans z3
    have HR3 : Hid (RS R [] true w3 ∧ Kept R none w w3) := ⟨hr3, HK.out.trans hk3⟩
    clear hr3 hk3 hyb z0 z1 z2 z3 HF HT HR HK
    go_wp2_with fail
    refine bodyPost_ret (v := .agg #[.int .i64 0, .slice none 0 0]) ?_ rfl ⟨leaf 0, rfl, leaf_in _ _, leaf_bl _ _, ?_, ?_, ?_⟩
    · have hc := set_two (u := .int .i64 0) (v := .slice none 0 0) y0 y1
      simp [results, Tryz.results86, go_sem, hc.1, hc.2]
    · exact kept_set2 HR3.out.2 (Nat.le_refl _)
    · exact .inr ⟨by rw [HO.out]; rfl, HR3.out.1.set2 (by omega)⟩
    · intro p hp; rw [HO.out] at hp; cases hp
  | some k =>
    have HT : Hid (Calls Tryz.prog 126 #[.string x] w1 fun e w' => e = .returned (.tuple #[.int .i64 (k : Int), .bool true]) ∧ w' = w1) := by
      have := typeKindOf_any x w1 HG1.out
      rw [ha] at this
      exact this
    have HO : Hid (readTy (n + 1) (x :: r) = some (⟨(k : Int), []⟩, r)) := by show _ = _; rw [HX.out, ha]; rfl
    clear ha HX HG1
    go_wp2_with fail
    refine HT.out.mono ?_
    rintro e w2 ⟨rfl, rfl⟩
    go_wp2_with fail
    refine bodyPost_ret (v := .agg #[.int .i64 (k : Int), .slice none 0 0]) ?_ rfl ⟨leaf (k : Int), rfl, leaf_in _ _, leaf_bl _ _, ?_, ?_, ?_⟩
    · have hc := set_two (u := .int .i64 (k : Int)) (v := .slice none 0 0) z0 z1
      simp [results, Tryz.results86, go_sem, hc.1, hc.2]
    · exact kept_set2 HK.out (Nat.le_refl _)
    · exact .inl ⟨r, by rw [HO.out]; rfl, HR.out.set2 (by omega)⟩
    · intro p hp; rw [HO.out] at hp; cases hp; simp [leaf, Tr.ty_mk]
end Go.Proofs.YtnddkmccagiclabGreatDoor
