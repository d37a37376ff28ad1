/-
  What the call of ref's withCasts answers at every good term that has a type.
-/
import Derived.Test.YtnddkmccagiclaaDoorLot016a56cb0a
import Derived.Test.YtnddkmccagiclaaDoorLote5d78291b2
import Derived.Test.YtnddkmccagiclaaDoorLot85abe7a429
import Derived.Test.YtnddkmccagiclaaDoorLot674b6fc84c
import Derived.Test.YtnddkmccagiclaaDoorLot0072f1a7a7
import Derived.Deep.RegionHeld3
import Derived.Test.YtnddkmccagiclaaDoorLot38d13d156e
import Derived.Deep.DeepCutAuto
import Derived.OpenShut
namespace Go.Proofs.YtnddkmccagiclaaDoor
open Go.RowKit
/-- withCasts. -/
theorem withCasts_any (m : Nat) : ∀ (x : TT), x.sz ≤ m → ∀ (Q : Nat → Prop) (E : Tr) (c : Nat) (w : World), x.In w → E.In w → okTm x.tm E.l.length → (∀ u, u ∈ E.l → goodT 4 u = true) → x.sz + E.l.length ≤ 900 → c + x.sz ≤ 900 → x.Bl Q → E.Bl Q → (∀ b, w.heap.size ≤ b → Q b) → ∀ (y0 : Tm) (ty0 : Ty), readS x.tm (E.l.map Tr.ty) c = some (y0, ty0) →
    Calls Tryd.prog 42 #[.agg #[.int .i64 x.k, .int .i64 x.n, .int .i64 x.t.k, .slice x.t.a x.t.l.length x.t.c, .int .i64 x.f.k, .slice x.f.a x.f.l.length x.f.c, .slice x.a x.l.length x.c], .slice E.a E.l.length E.c, .int .i64 (c : Int)] w (WcPost Q y0 w) := by
  induction m with
  | zero =>
    intro x h
    have := x.sz_pos
    omega
  | succ m ih =>
    intro x hm Q E c w hx hE hok hEg hsz hcs xb eb nw y0 ty0 hrd
    refine cast_step Q x E c w hx hE hok hEg hsz hcs xb eb nw y0 ty0 hrd fun y hy => ih y ?_
    have h1 := x.sz_eq
    have e : y.tm.sz ≤ ((x.l.map TT.tm).map Tm.sz).sum := sz_mem _ _ (List.mem_map.2 ⟨_, hy, rfl⟩)
    have e2 : (x.l.map TT.tm).map Tm.sz = x.l.map TT.sz := by rw [List.map_map]; exact List.map_congr_left fun z _ => z.sz_tm.symm
    rw [e2, ← TT.sz_tm] at e
    omega
end Go.Proofs.YtnddkmccagiclaaDoor

/-
  A term is good: it has at most forty terms in it, and each is right where it stands; in plain mathematics; no program in it.
-/
namespace Go.Proofs.YtnddkmccagiclaaDoor
/-- A term is right where it stands. -/
def rightM (ar : Int) : Tm → Int → Bool
  | ⟨k, n, t, f, l⟩, own => okTop ar own ⟨k, n, t, f, l⟩ && (l.map fun y => rightM ar y (insOf k own)).all id
theorem rightM_mk (ar k n : Int) (t f : Ty) (l : List Tm) (own : Int) : rightM ar ⟨k, n, t, f, l⟩ own = (okTop ar own ⟨k, n, t, f, l⟩ && l.all fun y => rightM ar y (insOf k own)) := by
  rw [rightM, List.all_map]
  rfl
theorem bindL_if {f : Tm → Nat → Option Nat} {Q : Tm → Bool} (n : Nat) (hf : ∀ y q, q ≤ n → f y q = if Q y = true ∧ y.sz ≤ q then some (q - y.sz) else none) : ∀ (l : List Tm) (r : Nat), r ≤ n → bindL f l r = if l.all Q = true ∧ (l.map Tm.sz).sum ≤ r then some (r - (l.map Tm.sz).sum) else none
  | [], r, _ => by simp [bindL]
  | x :: l, r, hr => by
    simp only [bindL, List.all_cons, List.map_cons, List.sum_cons, Bool.and_eq_true]
    rw [hf x r hr]
    by_cases h1 : Q x = true ∧ x.sz ≤ r
    · rw [if_pos h1]
      simp only [Option.bind_some]
      rw [bindL_if n hf l (r - x.sz) (by omega)]
      by_cases h2 : l.all Q = true ∧ (l.map Tm.sz).sum ≤ r - x.sz
      · rw [if_pos h2, if_pos ⟨⟨h1.1, h2.1⟩, by omega⟩]
        congr 1
        omega
      · rw [if_neg h2, if_neg (fun h => h2 ⟨h.1.2, by omega⟩)]
    · rw [if_neg h1, if_neg (fun h => h1 ⟨h.1.1, by omega⟩)]
      rfl
theorem goodS_if (ar : Int) : ∀ (n : Nat) (ins : Int) (x : Tm) (r : Nat), r ≤ n → goodS ar n ins x r = if rightM ar x ins = true ∧ x.sz ≤ r then some (r - x.sz) else none
  | 0, ins, x, r, hr => by
    have := x.sz_pos
    rw [if_neg (by omega)]
    simp [goodS]
  | n + 1, ins, x, 0, _ => by
    have := x.sz_pos
    rw [if_neg (by omega)]
    simp [goodS]
  | n + 1, ins, ⟨k, m, t, f, l⟩, r + 1, hr => by
    simp only [goodS]
    rw [rightM_mk, Tm.sz_mk]
    by_cases h0 : okTop ar ins ⟨k, m, t, f, l⟩ = true
    · rw [if_pos h0, bindL_if n (fun y q hq => goodS_if ar n (insOf k ins) y q hq) l r (by omega), h0]
      simp only [Bool.true_and]
      by_cases h2 : (l.all fun y => rightM ar y (insOf k ins)) = true ∧ (l.map Tm.sz).sum ≤ r
      · rw [if_pos h2, if_pos ⟨h2.1, by omega⟩]
        congr 1
        omega
      · rw [if_neg h2, if_neg (fun h => h2 ⟨h.1, by omega⟩)]
    · have h0' : okTop ar ins ⟨k, m, t, f, l⟩ = false := by simpa using h0
      rw [if_neg h0, if_neg (by rw [h0']; simp)]
/-- Good, by the two roads. -/
theorem goodM_right (ar : Int) (x : Tm) : goodM ar x = (decide (x.sz < 41) && rightM ar x 0) := by
  unfold goodM
  rw [goodS_if ar 40 0 x 40 (Nat.le_refl _)]
  by_cases h : rightM ar x 0 = true ∧ x.sz ≤ 40
  · rw [if_pos h, h.1]
    have : decide (x.sz < 41) = true := by simp; omega
    rw [this]
    rfl
  · rw [if_neg h]
    by_cases h1 : x.sz < 41
    · have : rightM ar x 0 = false := by
        cases hr : rightM ar x 0 with
        | false => rfl
        | true => exact absurd ⟨hr, by omega⟩ h
      rw [this]
      simp
    · have : decide (x.sz < 41) = false := by simp; omega
      rw [this]
      rfl
end Go.Proofs.YtnddkmccagiclaaDoor

/-
  What the call of ref's right answers.
-/
namespace Go.Proofs.YtnddkmccagiclaaDoor
open Go.RowKit
set_option maxRecDepth 20000 in
set_option maxHeartbeats 1000000 in
/-- right, of what has no kind. -/
theorem right_kind (x : TT) (ar own : Int) (w : World) (hk : x.k < 1 ∨ 9 < x.k) :
    Calls Tryd.prog 44 #[.agg #[.int .i64 x.k, .int .i64 x.n, .int .i64 x.t.k, .slice x.t.a x.t.l.length x.t.c, .int .i64 x.f.k, .slice x.f.a x.f.l.length x.f.c, .slice x.a x.l.length x.c], .int .i64 ar, .int .i64 own] w fun e w' => e = .returned (.bool false) ∧ Below w.heap.size w w' := by
  obtain ⟨W1, hW1⟩ : ∃ W, W = w.alloc (.cells #[.int .i64 x.k, .int .i64 x.n, .int .i64 x.t.k, .slice x.t.a x.t.l.length x.t.c, .int .i64 x.f.k, .slice x.f.a x.f.l.length x.f.c, .slice x.a x.l.length x.c] 27) := ⟨_, rfl⟩
  have hb1 : Below w.heap.size w W1 := by rw [hW1]; exact (Below.refl _ _).alloc (Nat.le_refl _) _
  have HB : Hid (Below w.heap.size w W1.drew) := hb1.drew
  clear hb1
  by_cases h1 : x.k < 1
  · have e1 : decide (x.k < 1) = true := by simpa using h1
    clear hk h1
    go_enter Tryd.func44, Tryd.ntmps44
    go_upto_region 1 with fail
    go_region
    rw [← hW1]
    go_wp2_with fail
    go_ret
    exact ⟨rfl, HB.out⟩
  · have e1 : decide (x.k < 1) = false := by simpa using h1
    have e2 : decide (9 < x.k) = true := by simp; omega
    clear hk h1
    go_enter Tryd.func44, Tryd.ntmps44
    go_upto_region 1 with fail
    go_region
    rw [← hW1]
    go_wp2_with fail
    go_ret
    exact ⟨rfl, HB.out⟩
set_option maxRecDepth 20000 in
set_option maxHeartbeats 1000000 in
/-- right, of another number of parts. -/
theorem right_parts (x : TT) (ar own : Int) (w : World) (hw : (Lit.int .i64 x.k).wf = true) (h1 : 1 ≤ x.k) (h9 : x.k ≤ 9) (hne : x.l.length ≠ partsOf x.k) :
    Calls Tryd.prog 44 #[.agg #[.int .i64 x.k, .int .i64 x.n, .int .i64 x.t.k, .slice x.t.a x.t.l.length x.t.c, .int .i64 x.f.k, .slice x.f.a x.f.l.length x.f.c, .slice x.a x.l.length x.c], .int .i64 ar, .int .i64 own] w fun e w' => e = .returned (.bool false) ∧ Below w.heap.size w w' := by
  obtain ⟨W1, hW1⟩ : ∃ W, W = w.alloc (.cells #[.int .i64 x.k, .int .i64 x.n, .int .i64 x.t.k, .slice x.t.a x.t.l.length x.t.c, .int .i64 x.f.k, .slice x.f.a x.f.l.length x.f.c, .slice x.a x.l.length x.c] 27) := ⟨_, rfl⟩
  have hb1 : Below w.heap.size w W1 := by rw [hW1]; exact (Below.refl _ _).alloc (Nat.le_refl _) _
  have e1 : decide (x.k < 1) = false := by simp; omega
  have e2 : decide (9 < x.k) = false := by simp; omega
  obtain ⟨PP, hPP⟩ : ∃ P : Int, P = (partsOf x.k : Int) := ⟨_, rfl⟩
  have e3 : ((x.l.length : Int) != PP) = true := by simp; omega
  have HP : Hid (∀ W, Below W1.heap.size W1 W → Calls Tryd.prog 73 #[.int .i64 x.k] W fun e w' => e = .returned (.int .i64 PP) ∧ Below W1.heap.size W1 w') := fun W hW => by
    refine (parts_any x.k hw W).mono ?_
    rintro e w' ⟨rfl, hb⟩
    rw [hPP]
    exact ⟨rfl, hW.trans (hb.mono hW.size)⟩
  have h7 : At7 W1 w.heap.size 0 x := by constructor <;> (rw [hW1]; simp [go_sem])
  have HK : Hid (∀ W, Below W1.heap.size W1 W → W.cell? ⟨w.heap.size, 0, none⟩ = some (.int .i64 x.k) ∧ W.cell? ⟨w.heap.size, 4, none⟩ = some (.int .i64 x.f.k) ∧ W.cell? ⟨w.heap.size, 5, none⟩ = some (.slice x.f.a x.f.l.length x.f.c) ∧ W.cell? ⟨w.heap.size, 6, none⟩ = some (.slice x.a x.l.length x.c)) := fun W hW => by
    obtain ⟨a0, a1, a2, a3, a4, a5, a6⟩ := h7.below hW
    simp only [Nat.zero_add] at a0 a1 a2 a3 a4 a5 a6
    exact ⟨a0, a4, a5, a6⟩
  have HK0 : Hid (W1.cell? ⟨w.heap.size, 0, none⟩ = some (.int .i64 x.k) ∧ W1.cell? ⟨w.heap.size, 4, none⟩ = some (.int .i64 x.f.k) ∧ W1.cell? ⟨w.heap.size, 5, none⟩ = some (.slice x.f.a x.f.l.length x.f.c) ∧ W1.cell? ⟨w.heap.size, 6, none⟩ = some (.slice x.a x.l.length x.c)) := HK.out _ (Below.refl _ _)
  have HK1 : Hid (W1.drew.cell? ⟨w.heap.size, 0, none⟩ = some (.int .i64 x.k) ∧ W1.drew.cell? ⟨w.heap.size, 4, none⟩ = some (.int .i64 x.f.k) ∧ W1.drew.cell? ⟨w.heap.size, 5, none⟩ = some (.slice x.f.a x.f.l.length x.f.c) ∧ W1.drew.cell? ⟨w.heap.size, 6, none⟩ = some (.slice x.a x.l.length x.c)) := HK.out _ ((Below.refl _ _).drew)
  have HB : Hid (Below w.heap.size w W1) := hb1
  have hb : Below W1.heap.size W1 W1.drew := (Below.refl _ _).drew
  clear hb1 h1 h9 hne hw h7 hPP
  go_enter Tryd.func44, Tryd.ntmps44
  go_upto_region 1 with fail
  rw [← hW1]
  clear hW1
  clear hb
  go_cut [33] (fun s33 wx => s33 = .bool true ∧ Hid (Below W1.heap.size W1 wx))
  case first =>
    refine wp_region_class (C := fun W => Below W1.heap.size W1 W) (by kernel_rfl) (by kernel_rfl) ((Below.refl _ _).drew) ?_
    iterate 24 (first
      | go_big_quiet_skip
      | (refine quiet_value (v := ?_) (by rfl) ?_ ?_; rotate_left; (focus (intro W hW; obtain ⟨d0, d4, d5, d6⟩ := HK.out W hW; have lw : w.heap.size < W.heap.size := World.block_lt_of_cell? _ _ d0; first | (go_simp; done) | (go_simp; with_reducible rfl))); simp only [Act.put, List.setIfInBounds_toArray, List.set_cons_zero, List.set_cons_succ])
      | (refine quiet_enter (.int .i64 PP) 73 #[.int .i64 x.k] (by rfl) ?_ (fun W hW => HP.out W hW) ?_; (focus (intro W _; go_simp; done)); simp only [Act.put, List.setIfInBounds_toArray, List.set_cons_zero, List.set_cons_succ]))
    refine wpQuiet_nil ?_
    intro wq hq
    have HQ : Hid (Below W1.heap.size W1 wq) := hq
    clear hq
    go_wp2_with fail
    go_meet
    case rel => exact ⟨rfl, HQ⟩
  case rest =>
    obtain ⟨h33, HQ⟩ := hcut
    subst h33
    have HN : Hid (Below w.heap.size w wc) := HB.out.trans (HQ.out.mono HB.out.size)
    go_wp2_with fail
    go_ret
    exact ⟨rfl, HN.out⟩
set_option maxRecDepth 20000 in
set_option maxHeartbeats 1000000 in
/-- right, of a From that is not Any. -/
theorem right_from (x : TT) (ar own : Int) (w : World) (hx : x.In w) (hw : (Lit.int .i64 x.k).wf = true) (h1 : 1 ≤ x.k) (h9 : x.k ≤ 9) (hpp : x.l.length = partsOf x.k) (n : Nat) (hf : x.f.hgt ≤ n) (hs : x.f.sm) (hne : relY escSame x.f.ty ⟨0, []⟩ = false) :
    Calls Tryd.prog 44 #[.agg #[.int .i64 x.k, .int .i64 x.n, .int .i64 x.t.k, .slice x.t.a x.t.l.length x.t.c, .int .i64 x.f.k, .slice x.f.a x.f.l.length x.f.c, .slice x.a x.l.length x.c], .int .i64 ar, .int .i64 own] w fun e w' => e = .returned (.bool false) ∧ Below w.heap.size w w' := by
  obtain ⟨W1, hW1⟩ : ∃ W, W = w.alloc (.cells #[.int .i64 x.k, .int .i64 x.n, .int .i64 x.t.k, .slice x.t.a x.t.l.length x.t.c, .int .i64 x.f.k, .slice x.f.a x.f.l.length x.f.c, .slice x.a x.l.length x.c] 27) := ⟨_, rfl⟩
  have hb1 : Below w.heap.size w W1 := by rw [hW1]; exact (Below.refl _ _).alloc (Nat.le_refl _) _
  have e1 : decide (x.k < 1) = false := by simp; omega
  have e2 : decide (9 < x.k) = false := by simp; omega
  obtain ⟨PP, hPP⟩ : ∃ P : Int, P = (partsOf x.k : Int) := ⟨_, rfl⟩
  have e3 : ((x.l.length : Int) != PP) = false := by simp; omega
  have HP : Hid (∀ W, Below W1.heap.size W1 W → Calls Tryd.prog 73 #[.int .i64 x.k] W fun e w' => e = .returned (.int .i64 PP) ∧ Below W1.heap.size W1 w') := fun W hW => by
    refine (parts_any x.k hw W).mono ?_
    rintro e w' ⟨rfl, hb⟩
    rw [hPP]
    exact ⟨rfl, hW.trans (hb.mono hW.size)⟩
  have HA : Hid (∀ W, Below W1.heap.size W1 W → Calls Tryd.prog 40 #[] W fun e w' => e = .returned (.agg #[.int .i64 0, .slice none 0 0]) ∧ Below W1.heap.size W1 w') := fun W hW => by
    refine (any0_any W).mono ?_
    rintro e w' ⟨rfl, rfl⟩
    exact ⟨rfl, hW.alloc hW.size _⟩
  have HS : Hid (∀ W, Below W1.heap.size W1 W → Calls Tryd.prog 16 #[.agg #[.int .i64 x.f.k, .slice x.f.a x.f.l.length x.f.c], .agg #[.int .i64 0, .slice none 0 0]] W fun e w' => e = .returned (.bool false) ∧ Below W1.heap.size W1 w') := fun W hW => by
    have := sameType_any n x.f (leaf 0) W ((hx.below (hb1.trans (hW.mono hb1.size))).f) (leaf_in 0 W) hf hs
    rw [leaf_ty, hne] at this
    refine this.mono ?_
    rintro e w' ⟨rfl, hb⟩
    exact ⟨rfl, hW.trans (hb.mono hW.size)⟩
  have h7 : At7 W1 w.heap.size 0 x := by constructor <;> (rw [hW1]; simp [go_sem])
  have HK : Hid (∀ W, Below W1.heap.size W1 W → W.cell? ⟨w.heap.size, 0, none⟩ = some (.int .i64 x.k) ∧ W.cell? ⟨w.heap.size, 4, none⟩ = some (.int .i64 x.f.k) ∧ W.cell? ⟨w.heap.size, 5, none⟩ = some (.slice x.f.a x.f.l.length x.f.c) ∧ W.cell? ⟨w.heap.size, 6, none⟩ = some (.slice x.a x.l.length x.c)) := fun W hW => by
    obtain ⟨a0, a1, a2, a3, a4, a5, a6⟩ := h7.below hW
    simp only [Nat.zero_add] at a0 a1 a2 a3 a4 a5 a6
    exact ⟨a0, a4, a5, a6⟩
  have HB : Hid (Below w.heap.size w W1) := hb1
  clear hb1 h1 h9 hne hw h7 hPP hx hf hs hpp
  go_enter Tryd.func44, Tryd.ntmps44
  go_upto_region 1 with fail
  rw [← hW1]
  clear hW1
  go_cut [33] (fun s33 wx => s33 = .bool true ∧ Hid (Below W1.heap.size W1 wx))
  case first =>
    refine wp_region_class (C := fun W => Below W1.heap.size W1 W) (by kernel_rfl) (by kernel_rfl) ((Below.refl _ _).drew) ?_
    iterate 24 (first
      | go_big_quiet_skip
      | (refine quiet_value (v := ?_) (by rfl) ?_ ?_; rotate_left; (focus (intro W hW; obtain ⟨d0, d4, d5, d6⟩ := HK.out W hW; have lw : w.heap.size < W.heap.size := World.block_lt_of_cell? _ _ d0; first | (go_simp; done) | (go_simp; with_reducible rfl))); simp only [Act.put, List.setIfInBounds_toArray, List.set_cons_zero, List.set_cons_succ])
      | (refine quiet_enter (.int .i64 PP) 73 #[.int .i64 x.k] (by rfl) ?_ (fun W hW => HP.out W hW) ?_; (focus (intro W _; go_simp; done)); simp only [Act.put, List.setIfInBounds_toArray, List.set_cons_zero, List.set_cons_succ])
      | (refine quiet_enter (.agg #[.int .i64 0, .slice none 0 0]) 40 #[] (by rfl) ?_ (fun W hW => HA.out W hW) ?_; (focus (intro W _; go_simp; done)); simp only [Act.put, List.setIfInBounds_toArray, List.set_cons_zero, List.set_cons_succ])
      | (refine quiet_enter (.bool false) 16 #[.agg #[.int .i64 x.f.k, .slice x.f.a x.f.l.length x.f.c], .agg #[.int .i64 0, .slice none 0 0]] (by rfl) ?_ (fun W hW => HS.out W hW) ?_; (focus (intro W _; go_simp; done)); simp only [Act.put, List.setIfInBounds_toArray, List.set_cons_zero, List.set_cons_succ]))
    refine wpQuiet_nil ?_
    intro wq hq
    have HQ : Hid (Below W1.heap.size W1 wq) := hq
    clear hq
    go_wp2_with fail
    go_meet
    case rel => exact ⟨rfl, HQ⟩
  case rest =>
    obtain ⟨h33, HQ⟩ := hcut
    subst h33
    have HN : Hid (Below w.heap.size w wc) := HB.out.trans (HQ.out.mono HB.out.size)
    go_wp2_with fail
    go_ret
    exact ⟨rfl, HN.out⟩
end Go.Proofs.YtnddkmccagiclaaDoor

/-
  What the call of ref's right answers: the way on.
-/
namespace Go.Proofs.YtnddkmccagiclaaDoor
open Go.RowKit
set_option maxRecDepth 20000 in
set_option maxHeartbeats 1000000 in
/-- right, of what is right at its top. -/
theorem right_main (x : TT) (ar own : Int) (w : World) (hx : x.In w) (hw : (Lit.int .i64 x.k).wf = true) (h1 : 1 ≤ x.k) (h9 : x.k ≤ 9) (hpp : x.l.length = partsOf x.k) (n : Nat) (hf : x.f.hgt ≤ n) (hs : x.f.sm) (hne : relY escSame x.f.ty ⟨0, []⟩ = true) (hn1 : n ≤ 1000000000) (hth : x.t.hgt ≤ n) (hts : x.t.sm) (hn9 : x.n ≤ 9223372036854775807) (ho0 : 0 ≤ own) (ho1 : own ≤ 1000000000) (hll : x.l.length ≤ 3)
    (ih : ∀ j (h : j < x.l.length) (W : World), x.l[j].In W → Calls Tryd.prog 44 #[.agg #[.int .i64 x.l[j].k, .int .i64 x.l[j].n, .int .i64 x.l[j].t.k, .slice x.l[j].t.a x.l[j].t.l.length x.l[j].t.c, .int .i64 x.l[j].f.k, .slice x.l[j].f.a x.l[j].f.l.length x.l[j].f.c, .slice x.l[j].a x.l[j].l.length x.l[j].c], .int .i64 ar, .int .i64 (insOf x.k own)] W fun e w' => e = .returned (.bool (rightM ar x.l[j].tm (insOf x.k own))) ∧ Below W.heap.size W w') :
    Calls Tryd.prog 44 #[.agg #[.int .i64 x.k, .int .i64 x.n, .int .i64 x.t.k, .slice x.t.a x.t.l.length x.t.c, .int .i64 x.f.k, .slice x.f.a x.f.l.length x.f.c, .slice x.a x.l.length x.c], .int .i64 ar, .int .i64 own] w fun e w' => e = .returned (.bool (okNum ar own x.k x.n && (if tells x.k = true then goodY 4 x.t.ty else isAnyY x.t.ty) && x.l.all fun y => rightM ar y.tm (insOf x.k own))) ∧ Below w.heap.size w w' := by
  obtain ⟨W1, hW1⟩ : ∃ W, W = w.alloc (.cells #[.int .i64 x.k, .int .i64 x.n, .int .i64 x.t.k, .slice x.t.a x.t.l.length x.t.c, .int .i64 x.f.k, .slice x.f.a x.f.l.length x.f.c, .slice x.a x.l.length x.c] 27) := ⟨_, rfl⟩
  have hb1 : Below w.heap.size w W1 := by rw [hW1]; exact (Below.refl _ _).alloc (Nat.le_refl _) _
  have e1 : decide (x.k < 1) = false := by simp; omega
  have e2 : decide (9 < x.k) = false := by simp; omega
  obtain ⟨PP, hPP⟩ : ∃ P : Int, P = (partsOf x.k : Int) := ⟨_, rfl⟩
  have e3 : ((x.l.length : Int) != PP) = false := by simp; omega
  have HP : Hid (∀ W, Below W1.heap.size W1 W → Calls Tryd.prog 73 #[.int .i64 x.k] W fun e w' => e = .returned (.int .i64 PP) ∧ Below W1.heap.size W1 w') := fun W hW => by
    refine (parts_any x.k hw W).mono ?_
    rintro e w' ⟨rfl, hb⟩
    rw [hPP]
    exact ⟨rfl, hW.trans (hb.mono hW.size)⟩
  have HA : Hid (∀ W, Below W1.heap.size W1 W → Calls Tryd.prog 40 #[] W fun e w' => e = .returned (.agg #[.int .i64 0, .slice none 0 0]) ∧ Below W1.heap.size W1 w') := fun W hW => by
    refine (any0_any W).mono ?_
    rintro e w' ⟨rfl, rfl⟩
    exact ⟨rfl, hW.alloc hW.size _⟩
  have HS : Hid (∀ W, Below W1.heap.size W1 W → Calls Tryd.prog 16 #[.agg #[.int .i64 x.f.k, .slice x.f.a x.f.l.length x.f.c], .agg #[.int .i64 0, .slice none 0 0]] W fun e w' => e = .returned (.bool true) ∧ Below W1.heap.size W1 w') := fun W hW => by
    have := sameType_any n x.f (leaf 0) W ((hx.below (hb1.trans (hW.mono hb1.size))).f) (leaf_in 0 W) hf hs
    rw [leaf_ty, hne] at this
    refine this.mono ?_
    rintro e w' ⟨rfl, hb⟩
    exact ⟨rfl, hW.trans (hb.mono hW.size)⟩
  have h7 : At7 W1 w.heap.size 0 x := by constructor <;> (rw [hW1]; simp [go_sem])
  have HK : Hid (∀ W, Below W1.heap.size W1 W → W.cell? ⟨w.heap.size, 0, none⟩ = some (.int .i64 x.k) ∧ W.cell? ⟨w.heap.size, 4, none⟩ = some (.int .i64 x.f.k) ∧ W.cell? ⟨w.heap.size, 5, none⟩ = some (.slice x.f.a x.f.l.length x.f.c) ∧ W.cell? ⟨w.heap.size, 6, none⟩ = some (.slice x.a x.l.length x.c)) := fun W hW => by
    obtain ⟨a0, a1, a2, a3, a4, a5, a6⟩ := h7.below hW
    simp only [Nat.zero_add] at a0 a1 a2 a3 a4 a5 a6
    exact ⟨a0, a4, a5, a6⟩
  have HK7 : Hid (∀ W, Below W1.heap.size W1 W → W.cell? ⟨w.heap.size, 0, none⟩ = some (.int .i64 x.k) ∧ W.cell? ⟨w.heap.size, 1, none⟩ = some (.int .i64 x.n) ∧ W.cell? ⟨w.heap.size, 2, none⟩ = some (.int .i64 x.t.k) ∧ W.cell? ⟨w.heap.size, 3, none⟩ = some (.slice x.t.a x.t.l.length x.t.c) ∧ W.cell? ⟨w.heap.size, 6, none⟩ = some (.slice x.a x.l.length x.c)) := fun W hW => by
    obtain ⟨a0, a1, a2, a3, a4, a5, a6⟩ := h7.below hW
    simp only [Nat.zero_add] at a0 a1 a2 a3 a4 a5 a6
    exact ⟨a0, a1, a2, a3, a6⟩
  obtain ⟨q, hq⟩ : ∃ q, q = okNum ar own x.k x.n := ⟨_, rfl⟩
  rw [← hq]
  have HQN : Hid (q = okNum ar own x.k x.n) := hq
  have HKK : Hid (1 ≤ x.k ∧ x.k ≤ 9) := ⟨h1, h9⟩
  have HN9 : Hid (x.n ≤ 9223372036854775807 ∧ 0 ≤ own ∧ own ≤ 1000000000) := ⟨hn9, ho0, ho1⟩
  clear hq hn9 ho0 ho1
  obtain ⟨tt, htt⟩ : ∃ tt, tt = (if tells x.k = true then goodY 4 x.t.ty else isAnyY x.t.ty) := ⟨_, rfl⟩
  rw [← htt]
  have HIT : Hid (x.k = 7 ∨ x.k = 9 → ∀ W, Below W1.heap.size W1 W → Calls Tryd.prog 74 #[.agg #[.int .i64 x.t.k, .slice x.t.a x.t.l.length x.t.c]] W fun e w' => e = .returned (.bool tt) ∧ Below W1.heap.size W1 w') := fun hk W hW => by
    have e : tt = goodT 4 x.t := by rw [htt, if_pos (by rcases hk with h | h <;> simp [tells, h]), goodT_eq]
    rw [e]
    refine (isType_any n hn1 x.t W ((hx.below (hb1.trans (hW.mono hb1.size))).t) hth hts).mono ?_
    rintro e w' ⟨rfl, hb⟩
    exact ⟨rfl, hW.trans (hb.mono hW.size)⟩
  have HST : Hid (¬ (x.k = 7 ∨ x.k = 9) → ∀ W, Below W1.heap.size W1 W → Calls Tryd.prog 16 #[.agg #[.int .i64 x.t.k, .slice x.t.a x.t.l.length x.t.c], .agg #[.int .i64 0, .slice none 0 0]] W fun e w' => e = .returned (.bool tt) ∧ Below W1.heap.size W1 w') := fun hk W hW => by
    have e : tt = relY escSame x.t.ty ⟨0, []⟩ := by rw [htt, if_neg (by simp [tells]; omega)]; rfl
    have := sameType_any n x.t (leaf 0) W ((hx.below (hb1.trans (hW.mono hb1.size))).t) (leaf_in 0 W) hth hts
    rw [leaf_ty, ← e] at this
    refine this.mono ?_
    rintro e w' ⟨rfl, hb⟩
    exact ⟨rfl, hW.trans (hb.mono hW.size)⟩
  have HTT : Hid (tt = (if tells x.k = true then goodY 4 x.t.ty else isAnyY x.t.ty)) := htt
  clear htt hn1 hth hts
  obtain ⟨oo, hoo⟩ : ∃ oo, oo = insOf x.k own := ⟨_, rfl⟩
  have HOO : Hid (oo = insOf x.k own) := hoo
  have HX : Hid (∀ W, Below W1.heap.size W1 W → x.In W) := fun W hW => (hx.below hb1).below hW
  have HIH : Hid (∀ j (h : j < x.l.length) (W : World), Below W1.heap.size W1 W → Calls Tryd.prog 44 #[.agg #[.int .i64 x.l[j].k, .int .i64 x.l[j].n, .int .i64 x.l[j].t.k, .slice x.l[j].t.a x.l[j].t.l.length x.l[j].t.c, .int .i64 x.l[j].f.k, .slice x.l[j].f.a x.l[j].f.l.length x.l[j].f.c, .slice x.l[j].a x.l[j].l.length x.l[j].c], .int .i64 ar, .int .i64 oo] W fun e w' => e = .returned (.bool (rightM ar x.l[j].tm oo)) ∧ Below W1.heap.size W1 w') := fun j h W hW => by
    obtain ⟨_, _, _, _, hin⟩ := ((hx.below hb1).below hW).part j h
    rw [hoo]
    refine (ih j h W hin).mono ?_
    rintro e w' ⟨rfl, hb⟩
    exact ⟨rfl, hW.trans (hb.mono hW.size)⟩
  rw [← hoo]
  clear hoo ih
  have HB : Hid (Below w.heap.size w W1) := hb1
  clear hb1 h1 h9 hne hw h7 hPP hx hf hs hpp
  go_enter Tryd.func44, Tryd.ntmps44
  go_upto_region 1 with fail
  rw [← hW1]
  clear hW1
  go_cut [33] (fun s33 wx => s33 = .bool false ∧ Hid (Below W1.heap.size W1 wx))
  case first =>
    refine wp_region_class (C := fun W => Below W1.heap.size W1 W) (by kernel_rfl) (by kernel_rfl) ((Below.refl _ _).drew) ?_
    iterate 24 (first
      | go_big_quiet_skip
      | (refine quiet_value (v := ?_) (by rfl) ?_ ?_; rotate_left; (focus (intro W hW; obtain ⟨d0, d4, d5, d6⟩ := HK.out W hW; have lw : w.heap.size < W.heap.size := World.block_lt_of_cell? _ _ d0; first | (go_simp; done) | (go_simp; with_reducible rfl))); simp only [Act.put, List.setIfInBounds_toArray, List.set_cons_zero, List.set_cons_succ])
      | (refine quiet_enter (.int .i64 PP) 73 #[.int .i64 x.k] (by rfl) ?_ (fun W hW => HP.out W hW) ?_; (focus (intro W _; go_simp; done)); simp only [Act.put, List.setIfInBounds_toArray, List.set_cons_zero, List.set_cons_succ])
      | (refine quiet_enter (.agg #[.int .i64 0, .slice none 0 0]) 40 #[] (by rfl) ?_ (fun W hW => HA.out W hW) ?_; (focus (intro W _; go_simp; done)); simp only [Act.put, List.setIfInBounds_toArray, List.set_cons_zero, List.set_cons_succ])
      | (refine quiet_enter (.bool true) 16 #[.agg #[.int .i64 x.f.k, .slice x.f.a x.f.l.length x.f.c], .agg #[.int .i64 0, .slice none 0 0]] (by rfl) ?_ (fun W hW => HS.out W hW) ?_; (focus (intro W _; go_simp; done)); simp only [Act.put, List.setIfInBounds_toArray, List.set_cons_zero, List.set_cons_succ]))
    refine wpQuiet_nil ?_
    intro wq hq
    have HQ : Hid (Below W1.heap.size W1 wq) := hq
    clear hq
    go_wp2_with fail
    go_meet
    case rel => exact ⟨rfl, HQ⟩
  case rest =>
    obtain ⟨h33, HQ⟩ := hcut
    subst h33
    obtain ⟨d0, d1, d2, d3, d6⟩ := HK7.out wc HQ.out
    have lw : w.heap.size < wc.heap.size := World.block_lt_of_cell? _ _ d0
    go_upto_region 3 with fail
    go_cut [7] (fun s7 wx => s7 = .bool (x.n == 0) ∧ Hid (Below W1.heap.size W1 wx))
    case first =>
      go_wp2_with fail
      go_meet
      case rel => exact ⟨rfl, HQ⟩
    obtain ⟨h7, HQ2⟩ := hcut
    subst h7
    clear HQ d0 d1 d2 d3 d6 lw
    apply_assumption
    refine wp_seq_k fun Kx hKx => ?_
    go_cut [7] (fun s7 wx => s7 = .bool q ∧ Hid (Below W1.heap.size W1 wx))
    case first =>
      obtain ⟨d0, d1, d2, d3, d6⟩ := HK7.out _ HQ2.out
      have lw := World.block_lt_of_cell? _ _ d0
      have hcs : x.k = 1 ∨ x.k = 2 ∨ x.k = 3 ∨ 4 ≤ x.k := by have := HKK.out; omega
      rcases hcs with hk | hk | hk | hk
      · rw [hk] at d0
        have HV : Hid (q = (decide (0 ≤ x.n) && decide (x.n - own < ar))) := by rw [HQN.out, hk]; simp [okNum, Hid]
        clear hk
        by_cases a : 0 ≤ x.n
        · have ea : decide (0 ≤ x.n) = true := by simpa using a
          have hwr : IntKind.i64.wrap (x.n - own) = x.n - own := by have := HN9.out; rw [IntKind.wrap_i64]; omega
          by_cases b : x.n - own < ar
          · have eb : decide (x.n - own < ar) = true := by simpa using b
            clear a b
            go_wp2_with fail
            go_meet
            case rel => exact ⟨by rw [HV.out, ea, eb]; rfl, HQ2⟩
          · have eb : decide (x.n - own < ar) = false := by simpa using b
            clear a b
            go_wp2_with fail
            go_meet
            case rel => exact ⟨by rw [HV.out, ea, eb]; rfl, HQ2⟩
        · have ea : decide (0 ≤ x.n) = false := by simpa using a
          clear a
          go_wp2_with fail
          go_meet
          case rel => exact ⟨by rw [HV.out, ea]; rfl, HQ2⟩
      · rw [hk] at d0
        have HV : Hid (q = (decide (-1000000 ≤ x.n) && decide (x.n ≤ 1000000))) := by rw [HQN.out, hk]; simp [okNum, Hid]
        clear hk
        by_cases a : x.n ≤ 1000000
        · have ea : decide (x.n ≤ 1000000) = true := by simpa using a
          by_cases b : -1000000 ≤ x.n
          · have eb : decide (-1000000 ≤ x.n) = true := by simpa using b
            clear a b
            go_wp2_with fail
            go_meet
            case rel => exact ⟨by rw [HV.out, ea, eb]; rfl, HQ2⟩
          · have eb : decide (-1000000 ≤ x.n) = false := by simpa using b
            clear a b
            go_wp2_with fail
            go_meet
            case rel => exact ⟨by rw [HV.out, ea, eb]; rfl, HQ2⟩
        · have ea : decide (x.n ≤ 1000000) = false := by simpa using a
          clear a
          go_wp2_with fail
          go_meet
          case rel => exact ⟨by rw [HV.out, ea, Bool.and_false], HQ2⟩
      · rw [hk] at d0
        have HV : Hid (q = (x.n == 0 || x.n == 1)) := by rw [HQN.out, hk]; simp [okNum, Hid]
        clear hk
        by_cases h01 : x.n = 0 ∨ x.n = 1
        · have ea : (wrap64 (x.n * x.n) == x.n) = true := by rcases h01 with h | h <;> (rw [h]; unfold wrap64; rfl)
          have eb : decide (x.n < 2) = true := by simp; omega
          have ec : decide (0 ≤ x.n) = true := by simp; omega
          have ev : (x.n == 0 || x.n == 1) = true := by rcases h01 with h | h <;> rw [h] <;> rfl
          clear h01
          go_wp2_with fail
          go_meet
          case rel => exact ⟨by rw [HV.out, ev], HQ2⟩
        · have ev : (x.n == 0 || x.n == 1) = false := by simp; omega
          by_cases a : wrap64 (x.n * x.n) = x.n
          · have ea : (wrap64 (x.n * x.n) == x.n) = true := by simpa using a
            by_cases b : x.n < 2
            · have eb : decide (x.n < 2) = true := by simpa using b
              have ec : decide (0 ≤ x.n) = false := by simp; omega
              clear a b h01
              go_wp2_with fail
              go_meet
              case rel => exact ⟨by rw [HV.out, ev], HQ2⟩
            · have eb : decide (x.n < 2) = false := by simpa using b
              clear a b h01
              go_wp2_with fail
              go_meet
              case rel => exact ⟨by rw [HV.out, ev], HQ2⟩
          · have ea : (wrap64 (x.n * x.n) == x.n) = false := by simpa using a
            clear a h01
            go_wp2_with fail
            go_meet
            case rel => exact ⟨by rw [HV.out, ev], HQ2⟩
      · have e1' : (x.k == 1) = false := by simp; omega
        have e2' : (x.k == 2) = false := by simp; omega
        have e3' : (x.k == 3) = false := by simp; omega
        have HV : Hid (q = (x.n == 0)) := by rw [HQN.out]; unfold okNum; rw [if_neg (by omega), if_neg (by omega), if_neg (by omega)]; exact rfl
        clear hk
        go_wp2_with fail
        go_meet
        case rel => exact ⟨by rw [HV.out], HQ2⟩
    obtain ⟨h7, HQ3⟩ := hcut
    subst h7
    clear HQ2
    apply_assumption
    refine wp_seq_k fun Ky hKy => ?_
    go_cut [7] (fun s7 wx => s7 = .bool (q && tt) ∧ Hid (Below W1.heap.size W1 wx))
    case first =>
      obtain ⟨d0, d1, d2, d3, d6⟩ := HK7.out _ HQ3.out
      have lw := World.block_lt_of_cell? _ _ d0
      by_cases h79 : x.k = 7 ∨ x.k = 9
      · have HIT2 : Hid (∀ W, Below W1.heap.size W1 W → Calls Tryd.prog 74 #[.agg #[.int .i64 x.t.k, .slice x.t.a x.t.l.length x.t.c]] W fun e w' => e = .returned (.bool tt) ∧ Below W1.heap.size W1 w') := HIT.out h79
        rcases h79 with hk | hk
        all_goals
          rw [hk] at d0
          clear hk
          cases q
          · go_wp2_with fail
            go_meet
            case rel => exact ⟨rfl, HQ3⟩
          · go_wp2_with fail
            refine (HIT2.out _ HQ3.out).mono ?_
            rintro e wt ⟨rfl, hbt⟩
            have HT : Hid (Below W1.heap.size W1 wt) := hbt
            clear hbt
            go_wp2_with fail
            go_meet
            case rel => exact ⟨by rw [Bool.true_and], HT⟩
      · have HST2 : Hid (∀ W, Below W1.heap.size W1 W → Calls Tryd.prog 16 #[.agg #[.int .i64 x.t.k, .slice x.t.a x.t.l.length x.t.c], .agg #[.int .i64 0, .slice none 0 0]] W fun e w' => e = .returned (.bool tt) ∧ Below W1.heap.size W1 w') := HST.out h79
        have e7 : (x.k == 7) = false := by simp; omega
        have e9 : (x.k == 9) = false := by simp; omega
        clear h79
        cases q
        · have HD : Hid (Below W1.heap.size W1 wc.drew) := HQ3.out.drew
          go_upto_region 13 with fail
          go_region
          go_wp2_with fail
          go_meet
          case rel => exact ⟨rfl, HD⟩
        · have HC0 : Hid (wc.cell? ⟨w.heap.size, 2, none⟩ = some (.int .i64 x.t.k) ∧ wc.cell? ⟨w.heap.size, 3, none⟩ = some (.slice x.t.a x.t.l.length x.t.c)) := ⟨d2, d3⟩
          have HC1 : Hid (wc.drew.cell? ⟨w.heap.size, 2, none⟩ = some (.int .i64 x.t.k) ∧ wc.drew.cell? ⟨w.heap.size, 3, none⟩ = some (.slice x.t.a x.t.l.length x.t.c)) := ⟨d2, d3⟩
          have HC2 : Hid (∀ W, Below W1.heap.size W1 W → W.cell? ⟨w.heap.size, 2, none⟩ = some (.int .i64 x.t.k) ∧ W.cell? ⟨w.heap.size, 3, none⟩ = some (.slice x.t.a x.t.l.length x.t.c)) := fun W hW => ⟨(HK7.out W hW).2.2.1, (HK7.out W hW).2.2.2.1⟩
          go_upto_region 13 with fail
          have hb : Below W1.heap.size W1 wc.drew := HQ3.out.drew
          clear d0 d1 d2 d3 d6
          go_region_held3 (fun W => W.cell? ⟨w.heap.size, 2, none⟩ = some (.int .i64 x.t.k) ∧ W.cell? ⟨w.heap.size, 3, none⟩ = some (.slice x.t.a x.t.l.length x.t.c))
            (first
              | (with_reducible exact HC0.out)
              | (with_reducible exact HC1.out)
              | (with_reducible exact HC2.out _ hb)
              | fail)
            (first
              | (go_at_call 40; (with_reducible refine (HA.out _ hb).mono ?_); rintro e wN ⟨rfl, hb⟩)
              | (go_at_call 16; (with_reducible refine (HST2.out _ hb).mono ?_); rintro e wM ⟨rfl, hb⟩)
              | fail)
          have HD : Hid (Below W1.heap.size W1 wM) := hb
          clear hb
          go_wp2_with fail
          go_meet
          case rel => exact ⟨by rw [Bool.true_and], HD⟩
    obtain ⟨h7, HQ4⟩ := hcut
    subst h7
    clear HQ3
    apply_assumption
    refine wp_seq_k fun Kz hKz => ?_
    go_cut [2] (fun s2 wx => s2 = .int .i64 oo ∧ Hid (Below W1.heap.size W1 wx))
    case first =>
      obtain ⟨d0, d1, d2, d3, d6⟩ := HK7.out _ HQ4.out
      have lw := World.block_lt_of_cell? _ _ d0
      by_cases hk : x.k = 7
      · rw [hk] at d0
        have hwr : IntKind.i64.wrap (own + 1) = own + 1 := by have := HN9.out; rw [IntKind.wrap_i64]; omega
        have HV : Hid (oo = own + 1) := by rw [HOO.out, hk]; rfl
        clear hk
        go_wp2_with fail
        go_meet
        case rel => exact ⟨by rw [HV.out], HQ4⟩
      · have e7 : (x.k == 7) = false := by simpa using hk
        have HV : Hid (oo = own) := by rw [HOO.out]; unfold insOf; rw [if_neg hk]; exact rfl
        clear hk
        go_wp2_with fail
        go_meet
        case rel => exact ⟨by rw [HV.out], HQ4⟩
    obtain ⟨h2, HQ5⟩ := hcut
    subst h2
    clear HQ4
    obtain ⟨d0, d1, d2, d3, d6⟩ := HK7.out _ HQ5.out
    have lw := World.block_lt_of_cell? _ _ d0
    apply_assumption
    go_wp2_with fail
    clear d0 d1 d2 d3 d6 lw
    go_loopg [7, 111] x.l.length (fun g s7 i wr => ∃ j : Nat, g + j = x.l.length ∧ i = .int .i64 (j : Int) ∧ s7 = .bool (q && tt && (x.l.take j).all fun y => rightM ar y.tm oo) ∧ Hid (Below W1.heap.size W1 wr))
    case atStart => exact ⟨0, by omega, rfl, by simp, HQ5⟩
    case round =>
      obtain ⟨j, hj, rfl, rfl, HW⟩ := hrel
      by_cases hlt : j < x.l.length
      · obtain ⟨W0, hW0⟩ : ∃ W, W = wr := ⟨_, rfl⟩
        subst hW0
        obtain ⟨xb, xo, xa, ⟨c0, c1, c2, c3, c4, c5, c6⟩, _⟩ := (HX.out W0 HW.out).part j hlt
        obtain ⟨y, hy⟩ : ∃ y, x.l[j] = y := ⟨_, rfl⟩
        have HI := HIH.out j hlt
        rw [hy] at c0 c1 c2 c3 c4 c5 c6 HI
        have hta : ((x.l.take (j + 1)).all fun y => rightM ar y.tm oo) = (((x.l.take j).all fun y => rightM ar y.tm oo) && rightM ar y.tm oo) := by
          rw [List.take_succ_eq_append_getElem hlt, List.all_append, hy]
          simp
        obtain ⟨s, hs⟩ : ∃ s, (q && tt && (x.l.take j).all fun y => rightM ar y.tm oo) = s := ⟨_, rfl⟩
        have HTA : Hid ((q && tt && (x.l.take (j + 1)).all fun y => rightM ar y.tm oo) = (s && rightM ar y.tm oo)) := by rw [hta, ← hs, Bool.and_assoc, Bool.and_assoc, Bool.and_assoc]; exact rfl
        rw [hs]
        obtain ⟨WX, hWX⟩ : ∃ W, W = W0.alloc (.cells #[.int .i64 y.k, .int .i64 y.n, .int .i64 y.t.k, .slice y.t.a y.t.l.length y.t.c, .int .i64 y.f.k, .slice y.f.a y.f.l.length y.f.c, .slice y.a y.l.length y.c] 27) := ⟨_, rfl⟩
        have hAX : Below W1.heap.size W1 WX := by rw [hWX]; exact HW.out.alloc HW.out.size _
        have HXB : Hid (Below W1.heap.size W1 WX) := hAX
        have HI2 : Hid (Calls Tryd.prog 44 #[.agg #[.int .i64 y.k, .int .i64 y.n, .int .i64 y.t.k, .slice y.t.a y.t.l.length y.t.c, .int .i64 y.f.k, .slice y.f.a y.f.l.length y.f.c, .slice y.a y.l.length y.c], .int .i64 ar, .int .i64 oo] WX fun e w' => e = .returned (.bool (rightM ar y.tm oo)) ∧ Below W1.heap.size W1 w') := HI WX hAX
        have y7 : At7 WX W0.heap.size 0 y := by constructor <;> (rw [hWX]; simp [go_sem])
        obtain ⟨y0, y1, y2, y3, y4, y5, y6⟩ := y7
        simp only [Nat.zero_add] at y0 y1 y2 y3 y4 y5 y6
        have ly : W0.heap.size < WX.heap.size := World.block_lt_of_cell? _ _ y0
        have i1 : (j : Int) < (x.l.length : Int) := by omega
        have i0 : (0 : Int) ≤ (j : Int) := by omega
        have i3 : (j : Int) ≤ 3 := by omega
        have HJ : Hid (gk + j = x.l.length) := hj
        have HXA : Hid (x.a = some ⟨xb, xo, none⟩) := xa
        obtain ⟨rr, hrr⟩ : ∃ rr, rr = rightM ar y.tm oo := ⟨_, rfl⟩
        rw [← hrr] at HI2 HTA
        rw [xa]
        clear hta hs HI hAX hj HW xa hy hrr
        cases s
        · go_upto_region 19 with fail
          rw [← hWX]
          clear hWX c0 c1 c2 c3 c4 c5 c6
          go_wp2_with fail
          rw [← HXA.out]
          go_roundg (x.l.length - (j + 1))
          case measure => have := HJ.out; omega
          case rel => exact ⟨j + 1, by have := HJ.out; omega, by go_num, by rw [HTA.out]; rfl, HXB⟩
        · go_upto_region 19 with fail
          rw [← hWX]
          clear hWX c0 c1 c2 c3 c4 c5 c6
          go_wp2_with fail
          refine HI2.out.mono ?_
          rintro e wt ⟨rfl, hbt⟩
          have HT : Hid (Below W1.heap.size W1 wt) := hbt
          clear hbt
          go_wp2_with fail
          rw [← HXA.out]
          go_roundg (x.l.length - (j + 1))
          case measure => have := HJ.out; omega
          case rel => exact ⟨j + 1, by have := HJ.out; omega, by go_num, by rw [HTA.out]; simp, HT⟩
      · have hjl : j = x.l.length := by omega
        have HN : Hid (Below w.heap.size w wr) := HB.out.trans (HW.out.mono HB.out.size)
        have i1 : ¬ (j : Int) < (x.l.length : Int) := by omega
        have HE : Hid ((q && tt && (x.l.take j).all fun y => rightM ar y.tm oo) = (q && tt && x.l.all fun y => rightM ar y.tm oo)) := by rw [hjl, List.take_length]; exact rfl
        clear HW hj hlt hjl
        go_wp2_with fail
        go_ret
        exact ⟨by rw [← HE.out]; rfl, HN.out⟩
end Go.Proofs.YtnddkmccagiclaaDoor

/-
  What the calls of ref's right and IsTerm answer at every term that lies in memory.
-/
namespace Go.Proofs.YtnddkmccagiclaaDoor
open Go.RowKit
/-- Each number within a term is one of sixty-four bits, its types and lists are of at most so many nodes. -/
def TT.ok (m : Nat) : TT → Prop
  | ⟨k, n, t, f, _, _, l⟩ => ((Lit.int .i64 k).wf = true ∧ (Lit.int .i64 n).wf = true ∧ t.sz ≤ m ∧ f.sz ≤ m ∧ l.length ≤ m) ∧ ∀ y, y ∈ l → y.ok m
theorem TT.ok_mk {m : Nat} {k n : Int} {t f : Tr} {a : Option Addr} {c : Nat} {l : List TT} : (TT.mk k n t f a c l).ok m ↔ ((Lit.int .i64 k).wf = true ∧ (Lit.int .i64 n).wf = true ∧ t.sz ≤ m ∧ f.sz ≤ m ∧ l.length ≤ m) ∧ ∀ y, y ∈ l → y.ok m := by
  rw [TT.ok]
theorem TT.ok.top {m : Nat} {x : TT} (h : x.ok m) : (Lit.int .i64 x.k).wf = true ∧ (Lit.int .i64 x.n).wf = true ∧ x.t.sz ≤ m ∧ x.f.sz ≤ m ∧ x.l.length ≤ m := by cases x; exact (TT.ok_mk.1 h).1
theorem TT.ok.mem {m : Nat} {x y : TT} (h : x.ok m) (hy : y ∈ x.l) : y.ok m := by
  obtain ⟨k, n, t, f, a, c, l⟩ := x
  exact (TT.ok_mk.1 h).2 y hy
theorem tsz_mem : ∀ (l : List Tr) (t : Tr), t ∈ l → t.sz ≤ (l.map Tr.sz).sum
  | [], _, h => by cases h
  | y :: r, t, h => by
    rcases List.mem_cons.1 h with rfl | h
    · simp
    · have := tsz_mem r t h
      simp; omega
theorem maxes_le : ∀ (l : List Nat) (m : Nat), (∀ x, x ∈ l → x ≤ m) → l.foldr max 0 ≤ m
  | [], m, _ => by simp
  | x :: r, m, h => by
    have h1 := maxes_le r m fun y hy => h y (by simp [hy])
    have h2 := h x (by simp)
    simp only [List.foldr_cons]; omega
theorem Tr.hgt_sz (t : Tr) : t.hgt ≤ t.sz := by
  induction t using Tr.ind with
  | h k a c l ih =>
    rw [Tr.hgt_mk, Tr.sz_mk]
    have : (l.map Tr.hgt).foldr max 0 ≤ (l.map Tr.sz).sum := by
      refine maxes_le _ _ fun x hx => ?_
      obtain ⟨t, ht, rfl⟩ := List.mem_map.1 hx
      exact Nat.le_trans (ih t ht) (tsz_mem l t ht)
    omega
theorem tlen_sz : ∀ (l : List Tr), l.length ≤ (l.map Tr.sz).sum
  | [] => by simp
  | t :: r => by
    have := tlen_sz r
    have := t.sz_pos
    simp; omega
theorem Tr.sm_sz (t : Tr) (h : t.sz ≤ 100000000) : t.sm := by
  induction t using Tr.ind with
  | h k a c l ih =>
    rw [Tr.sz_mk] at h
    refine Tr.sm_mk.2 ⟨?_, fun t ht => ih t ht ?_⟩
    · have := tlen_sz l
      omega
    · have := tsz_mem l t ht
      omega
theorem TT.ok.tsm {m : Nat} (hm : m ≤ 100000000) {x : TT} : x.ok m → x.tsm := by
  induction x using TT.ind with
  | h k n t f a c l ih =>
    intro h
    obtain ⟨⟨_, _, ht, hf, _⟩, hl⟩ := TT.ok_mk.1 h
    exact TT.tsm_mk.2 ⟨t.sm_sz (by omega), f.sm_sz (by omega), fun y hy => ih y hy (hl y hy)⟩
theorem TT.ok.csz {m : Nat} (hm : m ≤ 100000000) {x : TT} : x.ok m → x.csz := by
  induction x using TT.ind with
  | h k n t f a c l ih =>
    intro h
    obtain ⟨⟨_, _, ht, hf, _⟩, hl⟩ := TT.ok_mk.1 h
    exact TT.csz_mk.2 ⟨by omega, by omega, fun y hy => ih y hy (hl y hy)⟩
theorem TT.ok.lw {m : Nat} (hm : m ≤ 100000000) {x : TT} : x.ok m → x.lw := by
  induction x using TT.ind with
  | h k n t f a c l ih =>
    intro h
    obtain ⟨⟨_, _, _, _, hk⟩, hl⟩ := TT.ok_mk.1 h
    exact TT.lw_mk.2 ⟨by omega, fun y hy => ih y hy (hl y hy)⟩
theorem TT.ok.nb {m : Nat} {x : TT} : x.ok m → x.nb := by
  induction x using TT.ind with
  | h k n t f a c l ih =>
    intro h
    obtain ⟨⟨_, hn, _, _, _⟩, hl⟩ := TT.ok_mk.1 h
    exact TT.nb_mk.2 ⟨(bounds_i64 hn).2, fun y hy => ih y hy (hl y hy)⟩
theorem rightM_all (ar : Int) (x : TT) (own : Int) (h1 : 1 ≤ x.k) (h9 : x.k ≤ 9) (hp : x.l.length = partsOf x.k) (hf : relY escSame x.f.ty ⟨0, []⟩ = true) :
    (okNum ar own x.k x.n && (if tells x.k = true then goodY 4 x.t.ty else isAnyY x.t.ty) && x.l.all fun y => rightM ar y.tm (insOf x.k own)) = rightM ar x.tm own := by
  obtain ⟨k, n, t, f, a, c, l⟩ := x
  rw [TT.tm_mk, rightM_mk]
  have e1 : decide (1 ≤ k) = true := by simpa using h1
  have e9 : decide (k ≤ 9) = true := by simpa using h9
  have ep : ((l.map TT.tm).length == partsOf k) = true := by simpa using hp
  have ef : isAnyY f.ty = true := hf
  have el : ((l.map TT.tm).all fun y => rightM ar y (insOf k own)) = (l.all fun y => rightM ar y.tm (insOf k own)) := by rw [List.all_map]; rfl
  simp only [okTop, okTypes, e1, e9, ep, ef, Bool.true_and, el]
  cases okNum ar own k n <;> cases (if tells k = true then goodY 4 t.ty else isAnyY t.ty) <;> rfl
theorem rightM_not (ar : Int) (x : TT) (own : Int) (h : okTop ar own x.tm = false) : rightM ar x.tm own = false := by
  obtain ⟨k, n, t, f, a, c, l⟩ := x
  rw [TT.tm_mk] at h
  rw [TT.tm_mk, rightM_mk, h]
  rfl
/-- right. -/
theorem right_any (ar : Int) : ∀ (m : Nat) (x : TT) (own : Int) (w : World), x.In w → x.sz ≤ m → x.ok 100000000 → 0 ≤ own → own + (m : Int) ≤ 1000000000 →
    Calls Tryd.prog 44 #[.agg #[.int .i64 x.k, .int .i64 x.n, .int .i64 x.t.k, .slice x.t.a x.t.l.length x.t.c, .int .i64 x.f.k, .slice x.f.a x.f.l.length x.f.c, .slice x.a x.l.length x.c], .int .i64 ar, .int .i64 own] w fun e w' => e = .returned (.bool (rightM ar x.tm own)) ∧ Below w.heap.size w w' := by
  intro m
  induction m with
  | zero =>
    intro x own w _ h
    have := x.sz_pos
    omega
  | succ m ih =>
    intro x own w hx hm hok h0 h1
    obtain ⟨hkw, hnw, ht, hf, _⟩ := hok.top
    by_cases hk : x.k < 1 ∨ 9 < x.k
    · rw [rightM_not ar x own (by simp only [okTop, TT.tm_k]; rcases hk with h | h <;> simp <;> omega)]
      exact right_kind x ar own w hk
    by_cases hl : x.l.length = partsOf x.k
    · by_cases hfe : relY escSame x.f.ty ⟨0, []⟩ = true
      · rw [← rightM_all ar x own (by omega) (by omega) hl hfe]
        have h3 : x.l.length ≤ 3 := by rw [hl]; unfold partsOf; split <;> (try split) <;> (try split) <;> omega
        refine right_main x ar own w hx hkw (by omega) (by omega) hl 100000000 (Nat.le_trans x.f.hgt_sz hf) (x.f.sm_sz hf) hfe (by omega) (Nat.le_trans x.t.hgt_sz ht) (x.t.sm_sz ht) (bounds_i64 hnw).2 h0 (by omega) h3 ?_
        intro j hj W hin
        have hs : x.l[j].sz ≤ m := by
          have h1 := x.sz_eq
          have h2 : x.l[j].sz ≤ (x.l.map TT.sz).sum := by
            have : ∀ (l : List TT) (y : TT), y ∈ l → y.sz ≤ (l.map TT.sz).sum := by
              intro l
              induction l with
              | nil => intro y h; cases h
              | cons a r ih =>
                intro y h
                rcases List.mem_cons.1 h with rfl | h
                · simp
                · have := ih y h
                  simp; omega
            exact this x.l _ (List.getElem_mem hj)
          omega
        have hi : 0 ≤ insOf x.k own ∧ insOf x.k own ≤ own + 1 := by unfold insOf; split <;> omega
        exact ih x.l[j] (insOf x.k own) W hin hs (hok.mem (List.getElem_mem hj)) hi.1 (by omega)
      · have hfe' : relY escSame x.f.ty ⟨0, []⟩ = false := by simpa using hfe
        rw [rightM_not ar x own (by simp only [okTop, okTypes, TT.tm_f, isAnyY, anyY, hfe']; simp)]
        exact right_from x ar own w hx hkw (by omega) (by omega) hl 100000000 (Nat.le_trans x.f.hgt_sz hf) (x.f.sm_sz hf) hfe'
    · rw [rightM_not ar x own (by simp only [okTop, TT.tm_k, TT.tm_l]; simp [hl])]
      exact right_parts x ar own w hkw (by omega) (by omega) hl
set_option maxRecDepth 20000 in
set_option maxHeartbeats 1000000 in
/-- IsTerm. -/
theorem isTerm_any (x : TT) (ar : Int) (w : World) (hx : x.In w) (hsz : x.sz ≤ 2000000) (hok : x.ok 100000000) :
    Calls Tryd.prog 18 #[.agg #[.int .i64 x.k, .int .i64 x.n, .int .i64 x.t.k, .slice x.t.a x.t.l.length x.t.c, .int .i64 x.f.k, .slice x.f.a x.f.l.length x.f.c, .slice x.a x.l.length x.c], .int .i64 ar] w fun e w' => e = .returned (.bool (goodM ar x.tm)) ∧ Below w.heap.size w w' := by
  have HN : Hid (∀ W, x.In W → Calls Tryd.prog 43 #[.agg #[.int .i64 x.k, .int .i64 x.n, .int .i64 x.t.k, .slice x.t.a x.t.l.length x.t.c, .int .i64 x.f.k, .slice x.f.a x.f.l.length x.f.c, .slice x.a x.l.length x.c]] W fun e w' => e = .returned (.int .i64 (x.sz : Int)) ∧ Below W.heap.size W w') := fun W h => nodesOf_any x W h hsz
  have HR : Hid (∀ W, x.In W → Calls Tryd.prog 44 #[.agg #[.int .i64 x.k, .int .i64 x.n, .int .i64 x.t.k, .slice x.t.a x.t.l.length x.t.c, .int .i64 x.f.k, .slice x.f.a x.f.l.length x.f.c, .slice x.a x.l.length x.c], .int .i64 ar, .int .i64 0] W fun e w' => e = .returned (.bool (rightM ar x.tm 0)) ∧ Below W.heap.size W w') := fun W h => right_any ar x.sz x 0 W h (Nat.le_refl _) hok (by omega) (by omega)
  have HG : Hid (goodM ar x.tm = (decide (x.sz < 41) && rightM ar x.tm 0)) := by rw [x.sz_tm]; exact goodM_right ar x.tm
  obtain ⟨g, hg⟩ : ∃ g, g = goodM ar x.tm := ⟨_, rfl⟩
  rw [← hg] at HG ⊢
  clear hg
  obtain ⟨W1, hW1⟩ : ∃ W, W = w.alloc (.cells #[.int .i64 x.k, .int .i64 x.n, .int .i64 x.t.k, .slice x.t.a x.t.l.length x.t.c, .int .i64 x.f.k, .slice x.f.a x.f.l.length x.f.c, .slice x.a x.l.length x.c] 27) := ⟨_, rfl⟩
  have hb1 : Below w.heap.size w W1 := by rw [hW1]; exact (Below.refl _ _).alloc (Nat.le_refl _) _
  obtain ⟨SZ, hSZ⟩ : ∃ S : Int, S = (x.sz : Int) := ⟨_, rfl⟩
  obtain ⟨r, hr⟩ : ∃ r, r = rightM ar x.tm 0 := ⟨_, rfl⟩
  rw [← hr] at HG
  have HP : Hid (∀ W, Below W1.heap.size W1 W → Calls Tryd.prog 43 #[.agg #[.int .i64 x.k, .int .i64 x.n, .int .i64 x.t.k, .slice x.t.a x.t.l.length x.t.c, .int .i64 x.f.k, .slice x.f.a x.f.l.length x.f.c, .slice x.a x.l.length x.c]] W fun e w' => e = .returned (.int .i64 SZ) ∧ Below W1.heap.size W1 w') := fun W hW => by
    refine (HN.out W (hx.below (hb1.trans (hW.mono hb1.size)))).mono ?_
    rintro e w' ⟨rfl, hb⟩
    rw [hSZ]
    exact ⟨rfl, hW.trans (hb.mono hW.size)⟩
  have HQ : Hid (∀ W, Below W1.heap.size W1 W → Calls Tryd.prog 44 #[.agg #[.int .i64 x.k, .int .i64 x.n, .int .i64 x.t.k, .slice x.t.a x.t.l.length x.t.c, .int .i64 x.f.k, .slice x.f.a x.f.l.length x.f.c, .slice x.a x.l.length x.c], .int .i64 ar, .int .i64 0] W fun e w' => e = .returned (.bool r) ∧ Below W1.heap.size W1 w') := fun W hW => by
    refine (HR.out W (hx.below (hb1.trans (hW.mono hb1.size)))).mono ?_
    rintro e w' ⟨rfl, hb⟩
    rw [hr]
    exact ⟨rfl, hW.trans (hb.mono hW.size)⟩
  have h7 : At7 W1 w.heap.size 0 x := by constructor <;> (rw [hW1]; simp [go_sem])
  have HK : Hid (∀ W, Below W1.heap.size W1 W → W.cell? ⟨w.heap.size, 0, none⟩ = some (.int .i64 x.k) ∧ W.cell? ⟨w.heap.size, 1, none⟩ = some (.int .i64 x.n) ∧ W.cell? ⟨w.heap.size, 2, none⟩ = some (.int .i64 x.t.k) ∧ W.cell? ⟨w.heap.size, 3, none⟩ = some (.slice x.t.a x.t.l.length x.t.c) ∧ W.cell? ⟨w.heap.size, 4, none⟩ = some (.int .i64 x.f.k) ∧ W.cell? ⟨w.heap.size, 5, none⟩ = some (.slice x.f.a x.f.l.length x.f.c) ∧ W.cell? ⟨w.heap.size, 6, none⟩ = some (.slice x.a x.l.length x.c)) := fun W hW => by
    obtain ⟨a0, a1, a2, a3, a4, a5, a6⟩ := h7.below hW
    simp only [Nat.zero_add] at a0 a1 a2 a3 a4 a5 a6
    exact ⟨a0, a1, a2, a3, a4, a5, a6⟩
  have HB : Hid (Below w.heap.size w W1) := hb1
  obtain ⟨d0, d1, d2, d3, d4, d5, d6⟩ := HK.out W1 (Below.refl _ _)
  have lw1 : w.heap.size < W1.heap.size := World.block_lt_of_cell? _ _ d0
  by_cases h41 : x.sz < 41
  · have e1 : decide (SZ < 41) = true := by simp; omega
    have HE : Hid (g = r) := by
      have := HG.out
      rw [show decide (x.sz < 41) = true by simpa using h41, Bool.true_and] at this
      exact this
    clear hb1 h7 hx hsz hok HN HR hSZ hr h41 HG
    go_enter Tryd.func18, Tryd.ntmps18
    go_upto_region 1 with fail
    rw [← hW1]
    clear hW1
    go_wp2_with (first
      | (go_at_call 43; refine (HP.out _ (Below.refl _ _)).mono ?_; rintro e w2 ⟨rfl, hb2⟩; obtain ⟨d0, d1, d2, d3, d4, d5, d6⟩ := HK.out _ hb2; have lw2 : w.heap.size < w2.heap.size := World.block_lt_of_cell? _ _ d0)
      | (go_at_call 44; refine (HQ.out _ hb2).mono ?_; rintro e w3 ⟨rfl, hb3⟩))
    have HZ : Hid (Below w.heap.size w w3) := HB.out.trans (hb3.mono HB.out.size)
    clear hb3 hb2
    go_ret
    exact ⟨by rw [HE.out]; cases r <;> rfl, HZ.out⟩
  · have e1 : decide (SZ < 41) = false := by simp; omega
    have HE : Hid (g = false) := by
      have := HG.out
      rw [show decide (x.sz < 41) = false by simpa using h41, Bool.false_and] at this
      exact this
    clear hb1 h7 hx hsz hok HN HR hSZ hr h41 HG HQ
    go_enter Tryd.func18, Tryd.ntmps18
    go_upto_region 1 with fail
    rw [← hW1]
    clear hW1
    go_wp2_with (first
      | (go_at_call 43; refine (HP.out _ (Below.refl _ _)).mono ?_; rintro e w2 ⟨rfl, hb2⟩; obtain ⟨d0, d1, d2, d3, d4, d5, d6⟩ := HK.out _ hb2; have lw2 : w.heap.size < w2.heap.size := World.block_lt_of_cell? _ _ d0))
    have HZ : Hid (Below w.heap.size w w2) := HB.out.trans (hb2.mono HB.out.size)
    clear hb2
    go_ret
    exact ⟨by rw [HE.out]; cases r <;> rfl, HZ.out⟩
end Go.Proofs.YtnddkmccagiclaaDoor
