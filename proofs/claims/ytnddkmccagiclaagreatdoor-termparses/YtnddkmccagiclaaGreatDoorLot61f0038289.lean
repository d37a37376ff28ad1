/-
  What the call of ref's right answers: the way on.
-/
import Derived.Test.YtnddkmccagiclaaGreatDoorLot5a19ec12aa
import Derived.Test.YtnddkmccagiclaaGreatDoorLot8074724fc1
import Derived.Test.YtnddkmccagiclaaGreatDoorLotfb68e5fec9
import Derived.Test.YtnddkmccagiclaaGreatDoorLot5a8e3fa1b2
import Derived.Test.YtnddkmccagiclaaGreatDoorLot8a8b3f08ee
namespace Go.Proofs.YtnddkmccagiclaaGreatDoor
open Go.RowKit

set_option maxRecDepth 20000 in
set_option maxHeartbeats 1000000 in
/-- right, of what is right at its top. -/
theorem right_main (x : TT) (ar own : Int) (w : World) (hx : x.In w) (hw : (Lit.int .i64 x.k).wf = true) (h1 : 1 ≤ x.k) (h9 : x.k ≤ 9) (hpp : x.l.length = partsOf x.k) (n : Nat) (hf : x.f.hgt ≤ n) (hs : x.f.sm) (hne : relY escSame x.f.ty ⟨0, []⟩ = true) (hn1 : n ≤ 1000000000) (hth : x.t.hgt ≤ n) (hts : x.t.sm) (hn9 : x.n ≤ 9223372036854775807) (ho0 : 0 ≤ own) (ho1 : own ≤ 1000000000) (hll : x.l.length ≤ 3)
    (ih : ∀ j (h : j < x.l.length) (W : World), x.l[j].In W → Calls Tryz.prog 25 #[.agg #[.int .i64 x.l[j].k, .int .i64 x.l[j].n, .int .i64 x.l[j].t.k, .slice x.l[j].t.a x.l[j].t.l.length x.l[j].t.c, .int .i64 x.l[j].f.k, .slice x.l[j].f.a x.l[j].f.l.length x.l[j].f.c, .slice x.l[j].a x.l[j].l.length x.l[j].c], .int .i64 ar, .int .i64 (insOf x.k own)] W fun e w' => e = .returned (.bool (rightM ar x.l[j].tm (insOf x.k own))) ∧ Below W.heap.size W w') :
    Calls Tryz.prog 25 #[.agg #[.int .i64 x.k, .int .i64 x.n, .int .i64 x.t.k, .slice x.t.a x.t.l.length x.t.c, .int .i64 x.f.k, .slice x.f.a x.f.l.length x.f.c, .slice x.a x.l.length x.c], .int .i64 ar, .int .i64 own] w fun e w' => e = .returned (.bool (okNum ar own x.k x.n && (if tells x.k = true then goodY 4 x.t.ty else isAnyY x.t.ty) && x.l.all fun y => rightM ar y.tm (insOf x.k own))) ∧ Below w.heap.size w w' := by
  obtain ⟨W1, hW1⟩ : ∃ W, W = w.alloc (.cells #[.int .i64 x.k, .int .i64 x.n, .int .i64 x.t.k, .slice x.t.a x.t.l.length x.t.c, .int .i64 x.f.k, .slice x.f.a x.f.l.length x.f.c, .slice x.a x.l.length x.c] 27) := ⟨_, rfl⟩
  have hb1 : Below w.heap.size w W1 := by rw [hW1]; exact (Below.refl _ _).alloc (Nat.le_refl _) _
  have e1 : decide (x.k < 1) = false := by simp; omega
  have e2 : decide (9 < x.k) = false := by simp; omega
  obtain ⟨PP, hPP⟩ : ∃ P : Int, P = (partsOf x.k : Int) := ⟨_, rfl⟩
  have e3 : ((x.l.length : Int) != PP) = false := by simp; omega
  have HP : Hid (∀ W, Below W1.heap.size W1 W → Calls Tryz.prog 45 #[.int .i64 x.k] W fun e w' => e = .returned (.int .i64 PP) ∧ Below W1.heap.size W1 w') := fun W hW => by
    refine (parts_any x.k hw W).mono ?_
    rintro e w' ⟨rfl, hb⟩
    rw [hPP]
    exact ⟨rfl, hW.trans (hb.mono hW.size)⟩
  have HA : Hid (∀ W, Below W1.heap.size W1 W → Calls Tryz.prog 46 #[] W fun e w' => e = .returned (.agg #[.int .i64 0, .slice none 0 0]) ∧ Below W1.heap.size W1 w') := fun W hW => by
    refine (any0_any W).mono ?_
    rintro e w' ⟨rfl, rfl⟩
    exact ⟨rfl, hW.alloc hW.size _⟩
  have HS : Hid (∀ W, Below W1.heap.size W1 W → Calls Tryz.prog 27 #[.agg #[.int .i64 x.f.k, .slice x.f.a x.f.l.length x.f.c], .agg #[.int .i64 0, .slice none 0 0]] W fun e w' => e = .returned (.bool true) ∧ Below W1.heap.size W1 w') := fun W hW => by
    have := sameType_any n x.f (leaf 0) W ((hx.below (hb1.trans (hW.mono hb1.size))).f) (leaf_in 0 W) hf hs
    rw [leaf_ty, hne] at this
    refine this.mono ?_
    rintro e w' ⟨rfl, hb⟩
    exact ⟨rfl, hW.trans (hb.mono hW.size)⟩
  have h7 : At7 W1 w.heap.size 0 x := by constructor <;> (rw [hW1]; simp [go_sem])
  have HK : Hid (∀ W, Below W1.heap.size W1 W → W.cell? ⟨w.heap.size, 0, none⟩ = some (.int .i64 x.k) ∧ W.cell? ⟨w.heap.size, 4, none⟩ = some (.int .i64 x.f.k) ∧ W.cell? ⟨w.heap.size, 5, none⟩ = some (.slice x.f.a x.f.l.length x.f.c) ∧ W.cell? ⟨w.heap.size, 6, none⟩ = some (.slice x.a x.l.length x.c)) := fun W hW => by
    obtain ⟨a0, a1, a2, a3, a4, a5, a6⟩ := h7.below hW
    simp only [Nat.zero_add] at a0 a1 a2 a3 a4 a5 a6
    exact ⟨a0, a4, a5, a6⟩
  have HK7 : Hid (∀ W, Below W1.heap.size W1 W → W.cell? ⟨w.heap.size, 0, none⟩ = some (.int .i64 x.k) ∧ W.cell? ⟨w.heap.size, 1, none⟩ = some (.int .i64 x.n) ∧ W.cell? ⟨w.heap.size, 2, none⟩ = some (.int .i64 x.t.k) ∧ W.cell? ⟨w.heap.size, 3, none⟩ = some (.slice x.t.a x.t.l.length x.t.c) ∧ W.cell? ⟨w.heap.size, 6, none⟩ = some (.slice x.a x.l.length x.c)) := fun W hW => by
    obtain ⟨a0, a1, a2, a3, a4, a5, a6⟩ := h7.below hW
    simp only [Nat.zero_add] at a0 a1 a2 a3 a4 a5 a6
    exact ⟨a0, a1, a2, a3, a6⟩
  obtain ⟨q, hq⟩ : ∃ q, q = okNum ar own x.k x.n := ⟨_, rfl⟩
  rw [← hq]
  have HQN : Hid (q = okNum ar own x.k x.n) := hq
  have HKK : Hid (1 ≤ x.k ∧ x.k ≤ 9) := ⟨h1, h9⟩
  have HN9 : Hid (x.n ≤ 9223372036854775807 ∧ 0 ≤ own ∧ own ≤ 1000000000) := ⟨hn9, ho0, ho1⟩
  clear hq hn9 ho0 ho1
  obtain ⟨tt, htt⟩ : ∃ tt, tt = (if tells x.k = true then goodY 4 x.t.ty else isAnyY x.t.ty) := ⟨_, rfl⟩
  rw [← htt]
  have HIT : Hid (x.k = 7 ∨ x.k = 9 → ∀ W, Below W1.heap.size W1 W → Calls Tryz.prog 47 #[.agg #[.int .i64 x.t.k, .slice x.t.a x.t.l.length x.t.c]] W fun e w' => e = .returned (.bool tt) ∧ Below W1.heap.size W1 w') := fun hk W hW => by
    have e : tt = goodT 4 x.t := by rw [htt, if_pos (by rcases hk with h | h <;> simp [tells, h]), goodT_eq]
    rw [e]
    refine (isType_any n hn1 x.t W ((hx.below (hb1.trans (hW.mono hb1.size))).t) hth hts).mono ?_
    rintro e w' ⟨rfl, hb⟩
    exact ⟨rfl, hW.trans (hb.mono hW.size)⟩
  have HST : Hid (¬ (x.k = 7 ∨ x.k = 9) → ∀ W, Below W1.heap.size W1 W → Calls Tryz.prog 27 #[.agg #[.int .i64 x.t.k, .slice x.t.a x.t.l.length x.t.c], .agg #[.int .i64 0, .slice none 0 0]] W fun e w' => e = .returned (.bool tt) ∧ Below W1.heap.size W1 w') := fun hk W hW => by
    have e : tt = relY escSame x.t.ty ⟨0, []⟩ := by rw [htt, if_neg (by simp [tells]; omega)]; rfl
    have := sameType_any n x.t (leaf 0) W ((hx.below (hb1.trans (hW.mono hb1.size))).t) (leaf_in 0 W) hth hts
    rw [leaf_ty, ← e] at this
    refine this.mono ?_
    rintro e w' ⟨rfl, hb⟩
    exact ⟨rfl, hW.trans (hb.mono hW.size)⟩
  have HTT : Hid (tt = (if tells x.k = true then goodY 4 x.t.ty else isAnyY x.t.ty)) := htt
  clear htt hn1 hth hts
  obtain ⟨oo, hoo⟩ : ∃ oo, oo = insOf x.k own := ⟨_, rfl⟩
  have HOO : Hid (oo = insOf x.k own) := hoo
  have HX : Hid (∀ W, Below W1.heap.size W1 W → x.In W) := fun W hW => (hx.below hb1).below hW
  have HIH : Hid (∀ j (h : j < x.l.length) (W : World), Below W1.heap.size W1 W → Calls Tryz.prog 25 #[.agg #[.int .i64 x.l[j].k, .int .i64 x.l[j].n, .int .i64 x.l[j].t.k, .slice x.l[j].t.a x.l[j].t.l.length x.l[j].t.c, .int .i64 x.l[j].f.k, .slice x.l[j].f.a x.l[j].f.l.length x.l[j].f.c, .slice x.l[j].a x.l[j].l.length x.l[j].c], .int .i64 ar, .int .i64 oo] W fun e w' => e = .returned (.bool (rightM ar x.l[j].tm oo)) ∧ Below W1.heap.size W1 w') := fun j h W hW => by
    obtain ⟨_, _, _, _, hin⟩ := ((hx.below hb1).below hW).part j h
    rw [hoo]
    refine (ih j h W hin).mono ?_
    rintro e w' ⟨rfl, hb⟩
    exact ⟨rfl, hW.trans (hb.mono hW.size)⟩
  rw [← hoo]
  clear hoo ih
  have HB : Hid (Below w.heap.size w W1) := hb1
  clear hb1 h1 h9 hne hw h7 hPP hx hf hs hpp
  go_enter Tryz.func25, Tryz.ntmps25
  go_upto_region 1 with fail
  rw [← hW1]
  clear hW1
  go_cut [33] (fun s33 wx => s33 = .bool false ∧ Hid (Below W1.heap.size W1 wx))
  case first =>
    refine wp_region_class (C := fun W => Below W1.heap.size W1 W) (by kernel_rfl) (by kernel_rfl) ((Below.refl _ _).drew) ?_
    iterate 24 (first
      | go_big_quiet_skip
      | (refine quiet_value (v := ?_) (by rfl) ?_ ?_; rotate_left; (focus (intro W hW; obtain ⟨d0, d4, d5, d6⟩ := HK.out W hW; have lw : w.heap.size < W.heap.size := World.block_lt_of_cell? _ _ d0; first | (go_simp; done) | (go_simp; with_reducible rfl))); simp only [Act.put, List.setIfInBounds_toArray, List.set_cons_zero, List.set_cons_succ])
      | (refine quiet_enter (.int .i64 PP) 45 #[.int .i64 x.k] (by rfl) ?_ (fun W hW => HP.out W hW) ?_; (focus (intro W _; go_simp; done)); simp only [Act.put, List.setIfInBounds_toArray, List.set_cons_zero, List.set_cons_succ])
      | (refine quiet_enter (.agg #[.int .i64 0, .slice none 0 0]) 46 #[] (by rfl) ?_ (fun W hW => HA.out W hW) ?_; (focus (intro W _; go_simp; done)); simp only [Act.put, List.setIfInBounds_toArray, List.set_cons_zero, List.set_cons_succ])
      | (refine quiet_enter (.bool true) 27 #[.agg #[.int .i64 x.f.k, .slice x.f.a x.f.l.length x.f.c], .agg #[.int .i64 0, .slice none 0 0]] (by rfl) ?_ (fun W hW => HS.out W hW) ?_; (focus (intro W _; go_simp; done)); simp only [Act.put, List.setIfInBounds_toArray, List.set_cons_zero, List.set_cons_succ]))
    refine wpQuiet_nil ?_
    intro wq hq
    have HQ : Hid (Below W1.heap.size W1 wq) := hq
    clear hq
    go_wp2_with fail
    go_meet
    case rel => exact ⟨rfl, HQ⟩
  case rest =>
    obtain ⟨h33, HQ⟩ := hcut
    subst h33
    obtain ⟨d0, d1, d2, d3, d6⟩ := HK7.out wc HQ.out
    have lw : w.heap.size < wc.heap.size := World.block_lt_of_cell? _ _ d0
    go_upto_region 3 with fail
    go_cut [7] (fun s7 wx => s7 = .bool (x.n == 0) ∧ Hid (Below W1.heap.size W1 wx))
    case first =>
      go_wp2_with fail
      go_meet
      case rel => exact ⟨rfl, HQ⟩
    obtain ⟨h7, HQ2⟩ := hcut
    subst h7
    clear HQ d0 d1 d2 d3 d6 lw
    apply_assumption
    refine wp_seq_k fun Kx hKx => ?_
    go_cut [7] (fun s7 wx => s7 = .bool q ∧ Hid (Below W1.heap.size W1 wx))
    case first =>
      obtain ⟨d0, d1, d2, d3, d6⟩ := HK7.out _ HQ2.out
      have lw := World.block_lt_of_cell? _ _ d0
      have hcs : x.k = 1 ∨ x.k = 2 ∨ x.k = 3 ∨ 4 ≤ x.k := by have := HKK.out; omega
      rcases hcs with hk | hk | hk | hk
      · rw [hk] at d0
        have HV : Hid (q = (decide (0 ≤ x.n) && decide (x.n - own < ar))) := by rw [HQN.out, hk]; simp [okNum, Hid]
        clear hk
        by_cases a : 0 ≤ x.n
        · have ea : decide (0 ≤ x.n) = true := by simpa using a
          have hwr : IntKind.i64.wrap (x.n - own) = x.n - own := by have := HN9.out; rw [IntKind.wrap_i64]; omega
          by_cases b : x.n - own < ar
          · have eb : decide (x.n - own < ar) = true := by simpa using b
            clear a b
            go_wp2_with fail
            go_meet
            case rel => exact ⟨by rw [HV.out, ea, eb]; rfl, HQ2⟩
          · have eb : decide (x.n - own < ar) = false := by simpa using b
            clear a b
            go_wp2_with fail
            go_meet
            case rel => exact ⟨by rw [HV.out, ea, eb]; rfl, HQ2⟩
        · have ea : decide (0 ≤ x.n) = false := by simpa using a
          clear a
          go_wp2_with fail
          go_meet
          case rel => exact ⟨by rw [HV.out, ea]; rfl, HQ2⟩
      · rw [hk] at d0
        have HV : Hid (q = (decide (-1000000 ≤ x.n) && decide (x.n ≤ 1000000))) := by rw [HQN.out, hk]; simp [okNum, Hid]
        clear hk
        by_cases a : x.n ≤ 1000000
        · have ea : decide (x.n ≤ 1000000) = true := by simpa using a
          by_cases b : -1000000 ≤ x.n
          · have eb : decide (-1000000 ≤ x.n) = true := by simpa using b
            clear a b
            go_wp2_with fail
            go_meet
            case rel => exact ⟨by rw [HV.out, ea, eb]; rfl, HQ2⟩
          · have eb : decide (-1000000 ≤ x.n) = false := by simpa using b
            clear a b
            go_wp2_with fail
            go_meet
            case rel => exact ⟨by rw [HV.out, ea, eb]; rfl, HQ2⟩
        · have ea : decide (x.n ≤ 1000000) = false := by simpa using a
          clear a
          go_wp2_with fail
          go_meet
          case rel => exact ⟨by rw [HV.out, ea, Bool.and_false], HQ2⟩
      · rw [hk] at d0
        have HV : Hid (q = (x.n == 0 || x.n == 1)) := by rw [HQN.out, hk]; simp [okNum, Hid]
        clear hk
        by_cases h01 : x.n = 0 ∨ x.n = 1
        · have ea : (wrap64 (x.n * x.n) == x.n) = true := by rcases h01 with h | h <;> (rw [h]; unfold wrap64; rfl)
          have eb : decide (x.n < 2) = true := by simp; omega
          have ec : decide (0 ≤ x.n) = true := by simp; omega
          have ev : (x.n == 0 || x.n == 1) = true := by rcases h01 with h | h <;> rw [h] <;> rfl
          clear h01
          go_wp2_with fail
          go_meet
          case rel => exact ⟨by rw [HV.out, ev], HQ2⟩
        · have ev : (x.n == 0 || x.n == 1) = false := by simp; omega
          by_cases a : wrap64 (x.n * x.n) = x.n
          · have ea : (wrap64 (x.n * x.n) == x.n) = true := by simpa using a
            by_cases b : x.n < 2
            · have eb : decide (x.n < 2) = true := by simpa using b
              have ec : decide (0 ≤ x.n) = false := by simp; omega
              clear a b h01
              go_wp2_with fail
              go_meet
              case rel => exact ⟨by rw [HV.out, ev], HQ2⟩
            · have eb : decide (x.n < 2) = false := by simpa using b
              clear a b h01
              go_wp2_with fail
              go_meet
              case rel => exact ⟨by rw [HV.out, ev], HQ2⟩
          · have ea : (wrap64 (x.n * x.n) == x.n) = false := by simpa using a
            clear a h01
            go_wp2_with fail
            go_meet
            case rel => exact ⟨by rw [HV.out, ev], HQ2⟩
      · have e1' : (x.k == 1) = false := by simp; omega
        have e2' : (x.k == 2) = false := by simp; omega
        have e3' : (x.k == 3) = false := by simp; omega
        have HV : Hid (q = (x.n == 0)) := by rw [HQN.out]; unfold okNum; rw [if_neg (by omega), if_neg (by omega), if_neg (by omega)]; exact rfl
        clear hk
        go_wp2_with fail
        go_meet
        case rel => exact ⟨by rw [HV.out], HQ2⟩
    obtain ⟨h7, HQ3⟩ := hcut
    subst h7
    clear HQ2
    apply_assumption
    refine wp_seq_k fun Ky hKy => ?_
    go_cut [7] (fun s7 wx => s7 = .bool (q && tt) ∧ Hid (Below W1.heap.size W1 wx))
    case first =>
      obtain ⟨d0, d1, d2, d3, d6⟩ := HK7.out _ HQ3.out
      have lw := World.block_lt_of_cell? _ _ d0
      by_cases h79 : x.k = 7 ∨ x.k = 9
      · have HIT2 : Hid (∀ W, Below W1.heap.size W1 W → Calls Tryz.prog 47 #[.agg #[.int .i64 x.t.k, .slice x.t.a x.t.l.length x.t.c]] W fun e w' => e = .returned (.bool tt) ∧ Below W1.heap.size W1 w') := HIT.out h79
        rcases h79 with hk | hk
        all_goals
          rw [hk] at d0
          clear hk
          cases q
          · go_wp2_with fail
            go_meet
            case rel => exact ⟨rfl, HQ3⟩
          · go_wp2_with fail
            refine (HIT2.out _ HQ3.out).mono ?_
            rintro e wt ⟨rfl, hbt⟩
            have HT : Hid (Below W1.heap.size W1 wt) := hbt
            clear hbt
            go_wp2_with fail
            go_meet
            case rel => exact ⟨by rw [Bool.true_and], HT⟩
      · have HST2 : Hid (∀ W, Below W1.heap.size W1 W → Calls Tryz.prog 27 #[.agg #[.int .i64 x.t.k, .slice x.t.a x.t.l.length x.t.c], .agg #[.int .i64 0, .slice none 0 0]] W fun e w' => e = .returned (.bool tt) ∧ Below W1.heap.size W1 w') := HST.out h79
        have e7 : (x.k == 7) = false := by simp; omega
        have e9 : (x.k == 9) = false := by simp; omega
        clear h79
        cases q
        · have HD : Hid (Below W1.heap.size W1 wc.drew) := HQ3.out.drew
          go_upto_region 13 with fail
          go_region
          go_wp2_with fail
          go_meet
          case rel => exact ⟨rfl, HD⟩
        · have HC0 : Hid (wc.cell? ⟨w.heap.size, 2, none⟩ = some (.int .i64 x.t.k) ∧ wc.cell? ⟨w.heap.size, 3, none⟩ = some (.slice x.t.a x.t.l.length x.t.c)) := ⟨d2, d3⟩
          have HC1 : Hid (wc.drew.cell? ⟨w.heap.size, 2, none⟩ = some (.int .i64 x.t.k) ∧ wc.drew.cell? ⟨w.heap.size, 3, none⟩ = some (.slice x.t.a x.t.l.length x.t.c)) := ⟨d2, d3⟩
          have HC2 : Hid (∀ W, Below W1.heap.size W1 W → W.cell? ⟨w.heap.size, 2, none⟩ = some (.int .i64 x.t.k) ∧ W.cell? ⟨w.heap.size, 3, none⟩ = some (.slice x.t.a x.t.l.length x.t.c)) := fun W hW => ⟨(HK7.out W hW).2.2.1, (HK7.out W hW).2.2.2.1⟩
          go_upto_region 13 with fail
          have hb : Below W1.heap.size W1 wc.drew := HQ3.out.drew
          clear d0 d1 d2 d3 d6
          go_region_held3 (fun W => W.cell? ⟨w.heap.size, 2, none⟩ = some (.int .i64 x.t.k) ∧ W.cell? ⟨w.heap.size, 3, none⟩ = some (.slice x.t.a x.t.l.length x.t.c))
            (first
              | (with_reducible exact HC0.out)
              | (with_reducible exact HC1.out)
              | (with_reducible exact HC2.out _ hb)
              | fail)
            (first
              | (go_at_call 46; (with_reducible refine (HA.out _ hb).mono ?_); rintro e wN ⟨rfl, hb⟩)
              | (go_at_call 27; (with_reducible refine (HST2.out _ hb).mono ?_); rintro e wM ⟨rfl, hb⟩)
              | fail)
          have HD : Hid (Below W1.heap.size W1 wM) := hb
          clear hb
          go_wp2_with fail
          go_meet
          case rel => exact ⟨by rw [Bool.true_and], HD⟩
    obtain ⟨h7, HQ4⟩ := hcut
    subst h7
    clear HQ3
    apply_assumption
    refine wp_seq_k fun Kz hKz => ?_
    go_cut [2] (fun s2 wx => s2 = .int .i64 oo ∧ Hid (Below W1.heap.size W1 wx))
    case first =>
      obtain ⟨d0, d1, d2, d3, d6⟩ := HK7.out _ HQ4.out
      have lw := World.block_lt_of_cell? _ _ d0
      by_cases hk : x.k = 7
      · rw [hk] at d0
        have hwr : IntKind.i64.wrap (own + 1) = own + 1 := by have := HN9.out; rw [IntKind.wrap_i64]; omega
        have HV : Hid (oo = own + 1) := by rw [HOO.out, hk]; rfl
        clear hk
        go_wp2_with fail
        go_meet
        case rel => exact ⟨by rw [HV.out], HQ4⟩
      · have e7 : (x.k == 7) = false := by simpa using hk
        have HV : Hid (oo = own) := by rw [HOO.out]; unfold insOf; rw [if_neg hk]; exact rfl
        clear hk
        go_wp2_with fail
        go_meet
        case rel => exact ⟨by rw [HV.out], HQ4⟩
    obtain ⟨h2, HQ5⟩ := hcut
    subst h2
    clear HQ4
    obtain ⟨d0, d1, d2, d3, d6⟩ := HK7.out _ HQ5.out
    have lw := World.block_lt_of_cell? _ _ d0
    apply_assumption
    go_wp2_with fail
    clear d0 d1 d2 d3 d6 lw
    go_loopg [7, 111] x.l.length (fun g s7 i wr => ∃ j : Nat, g + j = x.l.length ∧ i = .int .i64 (j : Int) ∧ s7 = .bool (q && tt && (x.l.take j).all fun y => rightM ar y.tm oo) ∧ Hid (Below W1.heap.size W1 wr))
    case atStart => exact ⟨0, by omega, rfl, by simp, HQ5⟩
    case round =>
      obtain ⟨j, hj, rfl, rfl, HW⟩ := hrel
      by_cases hlt : j < x.l.length
      · obtain ⟨W0, hW0⟩ : ∃ W, W = wr := ⟨_, rfl⟩
        subst hW0
        obtain ⟨xb, xo, xa, ⟨c0, c1, c2, c3, c4, c5, c6⟩, _⟩ := (HX.out W0 HW.out).part j hlt
        obtain ⟨y, hy⟩ : ∃ y, x.l[j] = y := ⟨_, rfl⟩
        have HI := HIH.out j hlt
        rw [hy] at c0 c1 c2 c3 c4 c5 c6 HI
        have hta : ((x.l.take (j + 1)).all fun y => rightM ar y.tm oo) = (((x.l.take j).all fun y => rightM ar y.tm oo) && rightM ar y.tm oo) := by
          rw [List.take_succ_eq_append_getElem hlt, List.all_append, hy]
          simp
        obtain ⟨s, hs⟩ : ∃ s, (q && tt && (x.l.take j).all fun y => rightM ar y.tm oo) = s := ⟨_, rfl⟩
        have HTA : Hid ((q && tt && (x.l.take (j + 1)).all fun y => rightM ar y.tm oo) = (s && rightM ar y.tm oo)) := by rw [hta, ← hs, Bool.and_assoc, Bool.and_assoc, Bool.and_assoc]; exact rfl
        rw [hs]
        obtain ⟨WX, hWX⟩ : ∃ W, W = W0.alloc (.cells #[.int .i64 y.k, .int .i64 y.n, .int .i64 y.t.k, .slice y.t.a y.t.l.length y.t.c, .int .i64 y.f.k, .slice y.f.a y.f.l.length y.f.c, .slice y.a y.l.length y.c] 27) := ⟨_, rfl⟩
        have hAX : Below W1.heap.size W1 WX := by rw [hWX]; exact HW.out.alloc HW.out.size _
        have HXB : Hid (Below W1.heap.size W1 WX) := hAX
        have HI2 : Hid (Calls Tryz.prog 25 #[.agg #[.int .i64 y.k, .int .i64 y.n, .int .i64 y.t.k, .slice y.t.a y.t.l.length y.t.c, .int .i64 y.f.k, .slice y.f.a y.f.l.length y.f.c, .slice y.a y.l.length y.c], .int .i64 ar, .int .i64 oo] WX fun e w' => e = .returned (.bool (rightM ar y.tm oo)) ∧ Below W1.heap.size W1 w') := HI WX hAX
        have y7 : At7 WX W0.heap.size 0 y := by constructor <;> (rw [hWX]; simp [go_sem])
        obtain ⟨y0, y1, y2, y3, y4, y5, y6⟩ := y7
        simp only [Nat.zero_add] at y0 y1 y2 y3 y4 y5 y6
        have ly : W0.heap.size < WX.heap.size := World.block_lt_of_cell? _ _ y0
        have i1 : (j : Int) < (x.l.length : Int) := by omega
        have i0 : (0 : Int) ≤ (j : Int) := by omega
        have i3 : (j : Int) ≤ 3 := by omega
        have HJ : Hid (gk + j = x.l.length) := hj
        have HXA : Hid (x.a = some ⟨xb, xo, none⟩) := xa
        obtain ⟨rr, hrr⟩ : ∃ rr, rr = rightM ar y.tm oo := ⟨_, rfl⟩
        rw [← hrr] at HI2 HTA
        rw [xa]
        clear hta hs HI hAX hj HW xa hy hrr
        cases s
        · go_upto_region 19 with fail
          rw [← hWX]
          clear hWX c0 c1 c2 c3 c4 c5 c6
          go_wp2_with fail
          rw [← HXA.out]
          go_roundg (x.l.length - (j + 1))
          case measure => have := HJ.out; omega
          case rel => exact ⟨j + 1, by have := HJ.out; omega, by go_num, by rw [HTA.out]; rfl, HXB⟩
        · go_upto_region 19 with fail
          rw [← hWX]
          clear hWX c0 c1 c2 c3 c4 c5 c6
          go_wp2_with fail
          refine HI2.out.mono ?_
          rintro e wt ⟨rfl, hbt⟩
          have HT : Hid (Below W1.heap.size W1 wt) := hbt
          clear hbt
          go_wp2_with fail
          rw [← HXA.out]
          go_roundg (x.l.length - (j + 1))
          case measure => have := HJ.out; omega
          case rel => exact ⟨j + 1, by have := HJ.out; omega, by go_num, by rw [HTA.out]; simp, HT⟩
      · have hjl : j = x.l.length := by omega
        have HN : Hid (Below w.heap.size w wr) := HB.out.trans (HW.out.mono HB.out.size)
        have i1 : ¬ (j : Int) < (x.l.length : Int) := by omega
        have HE : Hid ((q && tt && (x.l.take j).all fun y => rightM ar y.tm oo) = (q && tt && x.l.all fun y => rightM ar y.tm oo)) := by rw [hjl, List.take_length]; exact rfl
        clear HW hj hlt hjl
        go_wp2_with fail
        go_ret
        exact ⟨by rw [← HE.out]; rfl, HN.out⟩
end Go.Proofs.YtnddkmccagiclaaGreatDoor

/-
  What the call of term.Nodes answers.
-/
namespace Go.Proofs.YtnddkmccagiclaaGreatDoor
open Go.RowKit

def cells1 (ps : List TT) : List Value := ps.map fun p => .slice p.a p.l.length p.c

/-- Those that have parts. -/
def kids1 : List TT → List TT
  | x :: xs => (if x.l.length = 0 then [] else [x]) ++ kids1 xs
  | [] => []

def mass1 (ps : List TT) : Nat := (ps.map TT.sz).sum
/-- How many terms are still to be counted. -/
def pend (ps : List TT) : Nat := (ps.map fun p => (p.l.map TT.sz).sum).sum

theorem kids1_mass : ∀ xs : List TT, mass1 (kids1 xs) ≤ (xs.map TT.sz).sum
  | [] => by simp [kids1, mass1]
  | x :: xs => by
    have := kids1_mass xs
    simp only [kids1, mass1, List.map_append, List.sum_append_nat, List.map_cons, List.sum_cons] at this ⊢
    split
    · simp; omega
    · simp; omega

theorem kids1_pend : ∀ xs : List TT, pend (kids1 xs) + xs.length = (xs.map TT.sz).sum
  | [] => by simp [kids1, pend]
  | x :: xs => by
    have := kids1_pend xs
    have h := x.sz_eq
    simp only [kids1, pend, List.map_append, List.sum_append_nat, List.map_cons, List.sum_cons, List.length_cons] at this ⊢
    split
    · rename_i h0
      have : x.l = [] := List.length_eq_zero_iff.1 h0
      rw [this] at h
      simp at h ⊢
      omega
    · simp; omega

theorem kids1_snoc : ∀ (l : List TT) (j : Nat) (hj : j < l.length), kids1 (l.take (j + 1)) = kids1 (l.take j) ++ (if l[j].l.length = 0 then [] else [l[j]])
  | x :: l, 0, _ => by simp [kids1]
  | x :: l, j + 1, hj => by
    have := kids1_snoc l j (by simpa using hj)
    simp only [List.take_succ_cons, kids1, List.getElem_cons_succ]
    rw [this, List.append_assoc]
  | [], j, hj => by simp at hj

def Pr1 (B : Nat) (w : World) (p : TT) : Prop := p.In w ∧ p.Bl (· < B)
theorem Pr1.low {B : Nat} {w w' : World} {p : TT} (h : Pr1 B w p) (hb : Below B w w') : Pr1 B w' p :=
  ⟨h.1.congr (P := (· < B)) (fun b hb' o => hb.cell (p := ⟨b, o, none⟩) hb') h.2, h.2⟩

structure Stk1 (B : Nat) (v : Value) (ps : List TT) (w : World) : Prop where
  own : w.ownsRow B 25 1 v ps.length (cells1 ps)
  ins : ∀ p, p ∈ ps → Pr1 B w p

theorem Stk1.len {ps : List TT} : ps.length ≤ mass1 ps := by
  induction ps with
  | nil => simp
  | cons p r ih => have := p.sz_pos; simp only [mass1, List.map_cons, List.sum_cons, List.length_cons] at ih ⊢; omega

theorem Tryz.info25 : (Tryz.prog.info? 25).map (fun i => (i.zero, i.size, i.bytes)) = some (some (.slice none 0 0), 1, 24) := by kernel_rfl

theorem len_sum : ∀ l : List TT, l.length ≤ (l.map TT.sz).sum
  | [] => by simp
  | u :: r => by have := u.sz_pos; have := len_sum r; simp only [List.length_cons, List.map_cons, List.sum_cons]; omega

set_option maxRecDepth 20000 in
set_option maxHeartbeats 8000000 in
/-- term.Nodes. -/
theorem nodes_any (x : TT) (w : World) (hx : x.In w) (hsz : x.sz ≤ 1000000) :
    Calls Tryz.prog 11 #[.agg #[.int .i64 x.k, .int .i64 x.n, .int .i64 x.t.k, .slice x.t.a x.t.l.length x.t.c, .int .i64 x.f.k, .slice x.f.a x.f.l.length x.f.c, .slice x.a x.l.length x.c]] w fun e w' => e = .returned (.int .i64 (x.sz : Int)) ∧ Below w.heap.size w w' := by
  obtain ⟨i0, hi0, hz0, hz1, hz2⟩ := info_parts Tryz.info25
  obtain ⟨OX, hOX⟩ : ∃ O, O = Obj.cells #[.int .i64 x.k, .int .i64 x.n, .int .i64 x.t.k, .slice x.t.a x.t.l.length x.t.c, .int .i64 x.f.k, .slice x.f.a x.f.l.length x.f.c, .slice x.a x.l.length x.c] 27 := ⟨_, rfl⟩
  have HL : Hid (Stk1 (w.heap.size + 1) (.slice (some ⟨w.heap.size + 1, 0, none⟩) 1 1) [x] ((w.alloc OX).alloc (.cells #[.slice x.a x.l.length x.c] 25)) ∧ Below w.heap.size w ((w.alloc OX).alloc (.cells #[.slice x.a x.l.length x.c] 25)) ∧ mass1 [x] ≤ 1000000 ∧ 1 + pend [x] = x.sz) := by
    have hb : Below w.heap.size w ((w.alloc OX).alloc (.cells #[.slice x.a x.l.length x.c] 25)) := ((Below.refl _ _).alloc (Nat.le_refl _) _).alloc (by simp) _
    have hh := heap_alloc_new (w.alloc OX) (.cells #[.slice x.a x.l.length x.c] 25)
    simp only [World.size_alloc] at hh
    refine ⟨⟨⟨rfl, .inr ⟨_, 1, _, rfl, Nat.le_refl _, hh, Nat.le_refl _, by unfold maxLen; omega, rfl, rfl⟩⟩, fun p hp => ?_⟩, hb, by simpa [mass1] using hsz, ?_⟩
    · rcases List.mem_singleton.1 hp with rfl
      exact ⟨hx.below hb, hx.bl.mono fun b h => by omega⟩
    · have := x.sz_eq; simp [pend]; omega
  obtain ⟨B, hB⟩ : ∃ B, w.heap.size + 1 = B := ⟨_, rfl⟩
  have hBw : w.heap.size < B := by omega
  obtain ⟨S, hS⟩ : ∃ S, x.sz = S := ⟨_, rfl⟩
  have hSb : S ≤ 1000000 := by omega
  rw [hS] at HL ⊢
  subst hOX
  clear hx hsz hS
  go_enter Tryz.func11, Tryz.ntmps11
  go_wp2_with fail
  go_loopg [3, 4] (mass1 [x]) (fun k cn v wr => ∃ (u : Value) (ps : List TT) (c : Nat), u = v ∧ cn = .int .i64 (c : Int) ∧ k = mass1 ps ∧ Hid (Stk1 B u ps wr ∧ Below w.heap.size w wr ∧ mass1 ps ≤ 1000000 ∧ c + pend ps = S))
  case atStart => exact ⟨_, _, 1, rfl, rfl, rfl, by rw [← hB]; exact HL⟩
  case round =>
    obtain ⟨v, ps, c, hv, rfl, hk, HR⟩ := hrel
    subst hv
    have HK : Hid (gk = mass1 ps) := hk
    clear hk HL hB
    by_cases hne : ps = []
    · subst hne
      obtain ⟨a, c', rfl⟩ : ∃ a c, v = .slice a 0 c := by
        rcases HR.out.1.own.2 with ⟨rfl, _⟩ | ⟨g, cap, cur, rfl, _⟩
        · exact ⟨_, _, rfl⟩
        · exact ⟨_, _, rfl⟩
      have HF : Hid (Below w.heap.size w wr ∧ c = S) := ⟨HR.out.2.1, by have := HR.out.2.2.2; simpa [pend] using this⟩
      clear HR HK
      go_wp2_with fail
      go_ret
      exact ⟨by rw [← HF.out.2]; rfl, HF.out.1⟩
    · obtain ⟨us, p, rfl⟩ : ∃ us p, ps = us ++ [p] := ⟨ps.dropLast, ps.getLast hne, (List.dropLast_concat_getLast hne).symm⟩
      have ho := HR.out.1.own
      have hlen : (us ++ [p]).length = us.length + 1 := by simp
      have hca : cells1 (us ++ [p]) = cells1 us ++ [.slice p.a p.l.length p.c] := by simp [cells1]
      rw [hlen, hca] at ho
      obtain ⟨g, cap, rfl, hg, hgl⟩ := ho.form (by omega)
      have c0 := ho.cellAt us.length (by omega)
      rw [List.getElem?_append_right (by simp [cells1]), show (cells1 us).length = us.length by simp [cells1], Nat.sub_self] at c0
      simp only [List.getElem?_cons_zero] at c0
      have hcap : us.length + 1 ≤ cap := by
        rcases ho.2 with ⟨h, _⟩ | ⟨g', cap', cur, h, _, _, h1, _⟩
        · cases h
        · cases h; exact h1
      have hop : wr.ownsRow B 25 1 (.slice (some ⟨g, 0, none⟩) us.length cap) us.length (cells1 us) := ownsRow_pop (by simp [cells1]) ho
      have hpr : Pr1 B wr p := HR.out.1.ins p (by simp)
      have hms : mass1 (us ++ [p]) = mass1 us + p.sz := by simp [mass1]
      have hpd : pend (us ++ [p]) = pend us + (p.l.map TT.sz).sum := by simp [pend]
      have hus := Stk1.len (ps := us)
      have hml := HR.out.2.2.1
      have hcs := HR.out.2.2.2
      have i1 : (us.length : Int) < ((us.length : Int) + 1) := by omega
      have n1 : (us.length : Int) ≤ 1000001 := by omega
      have n2 : (us.length : Int) ≤ (cap : Int) := by omega
      have n3 : (0 : Int) ≤ (us.length : Int) := by omega
      have hpl : p.l.length ≤ 1000001 := by have h1 := p.sz_eq; have h2 := len_sum p.l; omega
      have hc1 : (c : Int) ≤ 1000001 := by omega
      have hszB : B ≤ wr.heap.size := by omega
      have HI : Hid (Stk1 B (.slice (some ⟨g, 0, none⟩) us.length cap) us wr ∧ Below w.heap.size w wr ∧ Pr1 B wr p ∧ g < wr.heap.size) := ⟨⟨hop, fun q hq => HR.out.1.ins q (by simp [hq])⟩, HR.out.2.1, hpr, hgl⟩
      have HM : Hid (gk = mass1 us + p.sz ∧ mass1 us + p.sz ≤ 1000000 ∧ c + (pend us + (p.l.map TT.sz).sum) = S) := ⟨HK.out.trans hms, by rw [← hms]; exact hml, by rw [← hpd]; exact hcs⟩
      clear ho hop hpr HR HK hms hml hne hlen hus hca hpd hcs
      go_wp2_with fail
      obtain ⟨W0, hW0⟩ : ∃ W, W = wr := ⟨_, rfl⟩
      subst hW0
      clear c0
      go_loopg [4, 31] p.l.length (fun q v i wx => ∃ (j : Nat) (u : Value), q + j = p.l.length ∧ i = .int .i64 (j : Int) ∧ u = v ∧ Hid (Stk1 B u (us ++ kids1 (p.l.take j)) wx ∧ Below w.heap.size w wx ∧ Pr1 B wx p ∧ B ≤ wx.heap.size))
      case atStart => exact ⟨0, _, by omega, rfl, rfl, by simp [kids1]; exact HI.out.1, HI.out.2.1, HI.out.2.2.1, hszB⟩
      case round =>
        obtain ⟨j, v, hj, rfl, hv, HQ⟩ := hrel
        subst hv
        have HJ : Hid (gk + j = p.l.length) := hj
        clear hj HI
        by_cases hlt : j < p.l.length
        · obtain ⟨hp1, hb1⟩ := HQ.out.2.2.1
          obtain ⟨b, o, ea, hX, hxj⟩ := hp1.part j hlt
          have hblj : p.l[j].Bl (· < B) := hb1.mem (List.getElem_mem hlt)
          obtain ⟨X, hXe⟩ : ∃ X, p.l[j] = X := ⟨_, rfl⟩
          rw [hXe] at hX hxj hblj
          have HXY : Hid (p.l[j] = X) := hXe
          have d0 := hX.c0
          have d1 := hX.c1
          have d2 := hX.c2
          have d3 := hX.c3
          have d4 := hX.c4
          have d5 := hX.c5
          have d6 := hX.c6
          have hszx : B ≤ wr.heap.size := HQ.out.2.2.2
          have i5 : (j : Int) < (p.l.length : Int) := by omega
          have i7 : (0 : Int) ≤ (j : Int) := by omega
          have HEA : Hid (p.a = some ⟨b, o, none⟩) := ea
          rw [ea]
          have hbw : ∀ o, Below wr.heap.size wr (wr.alloc o) := fun o => (Below.refl _ _).alloc (Nat.le_refl _) _
          have HW2 : Hid (∀ o, Stk1 B v (us ++ kids1 (p.l.take j)) (wr.alloc o) ∧ Below w.heap.size w (wr.alloc o) ∧ Pr1 B (wr.alloc o) p ∧ Pr1 B (wr.alloc o) X) := by
            intro o
            have hlow : Below B wr (wr.alloc o) := (hbw o).mono hszx
            exact ⟨⟨ownsRow_low HQ.out.1.own (hbw o), fun q hq => (HQ.out.1.ins q hq).low hlow⟩, HQ.out.2.1.trans ((hbw o).mono HQ.out.2.1.size), HQ.out.2.2.1.low hlow, Pr1.low ⟨hxj, hblj⟩ hlow⟩
          have HSN : Hid (kids1 (p.l.take (j + 1)) = kids1 (p.l.take j) ++ (if X.l.length = 0 then [] else [X])) := by
            have := kids1_snoc p.l j hlt
            rw [HXY.out] at this
            exact this
          clear hp1 hb1 ea hX hxj hblj hXe hbw HQ
          obtain ⟨OX, hOX⟩ : ∃ O, O = Obj.cells #[.int .i64 X.k, .int .i64 X.n, .int .i64 X.t.k, .slice X.t.a X.t.l.length X.t.c, .int .i64 X.f.k, .slice X.f.a X.f.l.length X.f.c, .slice X.a X.l.length X.c] 27 := ⟨_, rfl⟩
          by_cases hz : X.l.length = 0
          · have i8 : ¬ (0 : Int) < (X.l.length : Int) := by omega
            have HN : Hid (Stk1 B v (us ++ kids1 (p.l.take (j + 1))) (wr.alloc OX) ∧ Below w.heap.size w (wr.alloc OX) ∧ Pr1 B (wr.alloc OX) p ∧ B ≤ (wr.alloc OX).heap.size) := by
              show _ ∧ _
              rw [HSN.out, if_pos hz, List.append_nil]
              exact ⟨(HW2.out _).1, (HW2.out _).2.1, (HW2.out _).2.2.1, by simp; omega⟩
            subst hOX
            clear hz HW2
            go_wp2_with fail
            rw [← HEA.out]
            go_roundg (p.l.length - (j + 1))
            case measure => have := HJ.out; omega
            case rel => exact ⟨j + 1, _, by have := HJ.out; omega, by go_num, rfl, HN⟩
          · have i8 : (0 : Int) < (X.l.length : Int) := by omega
            obtain ⟨N, hN⟩ : ∃ N, (us ++ kids1 (p.l.take j)).length = N := ⟨_, rfl⟩
            obtain ⟨xs, hxs⟩ : ∃ xs, cells1 (us ++ kids1 (p.l.take j)) = xs := ⟨_, rfl⟩
            have hNb : N ≤ 1000001 := by
              have h1 := Stk1.len (ps := us ++ kids1 (p.l.take j))
              have h2 := kids1_mass (p.l.take j)
              have h3 := sum_take_le TT.sz p.l j
              have h4 := p.sz_eq
              have h5 := HM.out.2.1
              have h6 : mass1 (us ++ kids1 (p.l.take j)) = mass1 us + mass1 (kids1 (p.l.take j)) := by simp [mass1]
              omega
            have uo : (wr.alloc OX).ownsRow B 25 1 v N xs := by rw [← hN, ← hxs]; exact (HW2.out _).1.own
            have hnew := heap_alloc_new (wr.alloc OX) (.cells #[.slice X.a X.l.length X.c] 25)
            simp only [World.size_alloc] at hnew
            have HNX : Hid ((us ++ kids1 (p.l.take j)).length = N ∧ cells1 (us ++ kids1 (p.l.take j)) = xs) := ⟨hN, hxs⟩
            have HZ : Hid (X.l.length ≠ 0) := hz
            have HWX : Hid (Stk1 B v (us ++ kids1 (p.l.take j)) (wr.alloc OX) ∧ Below w.heap.size w (wr.alloc OX) ∧ Pr1 B (wr.alloc OX) p ∧ Pr1 B (wr.alloc OX) X) := HW2.out _
            subst hOX
            clear hN hxs hz HW2
            go_wp2_with (at_builtin; refine wpList_append_lies _ rfl _ _ _ rfl B 25 i0 _ 1 24 Tryz.underlying51 hi0 hz0 hz1 hz2 rfl (by omega) v N xs rfl (uo.alloc _) ⟨wr.heap.size + 1, 0, none⟩ 1 1 [.slice X.a X.l.length X.c] rfl rfl (World.news_of_block (cs := #[.slice X.a X.l.length X.c]) (t := 25) (fr := (0, 0)) hnew) (by simp [Value.oneCell']) (by omega) (by unfold maxLen; omega) (by omega) (by simp; omega) (wr.heap.size + 1 + 1) (by simp) ?_; intro gg cap1 w3 hown1 hgrow hat hlt3)
            have hov : ∀ q, v.ownBlock = some q → B ≤ q := fun q hq => (uo.lt q hq).1
            obtain ⟨OX, hOX⟩ : ∃ O, O = Obj.cells #[.int .i64 X.k, .int .i64 X.n, .int .i64 X.t.k, .slice X.t.a X.t.l.length X.t.c, .int .i64 X.f.k, .slice X.f.a X.f.l.length X.f.c, .slice X.a X.l.length X.c] 27 := ⟨_, rfl⟩
            rw [← hOX] at hgrow HWX
            have hlow : Below B (wr.alloc OX) w3 := by
              refine ⟨hgrow.os.trans rfl, hgrow.tape.trans rfl, hgrow.output.trans rfl, by have := hgrow.size; simp at this ⊢; omega, fun q hq => ?_⟩
              rw [hgrow.block q (by simp; omega) (fun e => by have := hov q e.symm; omega)]
              exact ((Below.refl _ (wr.alloc OX)).alloc (Nat.le_refl _) _).block q (by simp; omega)
            have HN : Hid (Stk1 B (.slice (some ⟨gg, 0, none⟩) (N + 1) cap1) (us ++ kids1 (p.l.take (j + 1))) w3 ∧ Below w.heap.size w w3 ∧ Pr1 B w3 p ∧ B ≤ w3.heap.size) := by
              show _ ∧ _
              rw [HSN.out, if_neg HZ.out, ← List.append_assoc]
              refine ⟨⟨?_, fun q hq => ?_⟩, HWX.out.2.1.trans (hlow.mono (by omega)), HWX.out.2.2.1.low hlow, by have := hlow.size; simp at this; omega⟩
              · have e : cells1 (us ++ kids1 (p.l.take j) ++ [X]) = cells1 (us ++ kids1 (p.l.take j)) ++ [.slice X.a X.l.length X.c] := by simp [cells1]
                rw [e, List.length_append, List.length_singleton, HNX.out.1, HNX.out.2]
                exact hown1
              · rcases List.mem_append.1 hq with hq | hq
                · exact (HWX.out.1.ins q hq).low hlow
                · rcases List.mem_singleton.1 hq with rfl
                  exact HWX.out.2.2.2.low hlow
            clear hown1 hgrow hat hlt3 hov hlow HWX uo hnew hOX
            go_wp2_with fail
            rw [← HEA.out]
            go_roundg (p.l.length - (j + 1))
            case measure => have := HJ.out; omega
            case rel => exact ⟨j + 1, _, by have := HJ.out; omega, by go_num, rfl, HN⟩
        · have HN : Hid (Stk1 B v (us ++ kids1 p.l) wr ∧ Below w.heap.size w wr ∧ mass1 (us ++ kids1 p.l) ≤ 1000000 ∧ c + p.l.length + pend (us ++ kids1 p.l) = S) := by
            have h1 := HQ.out.1
            rw [List.take_of_length_le (by omega)] at h1
            have h2 := kids1_mass p.l
            have h3 := kids1_pend p.l
            have h4 := p.sz_eq
            have h5 := HM.out.2
            have h6 : mass1 (us ++ kids1 p.l) = mass1 us + mass1 (kids1 p.l) := by simp [mass1]
            have h7 : pend (us ++ kids1 p.l) = pend us + pend (kids1 p.l) := by simp [pend]
            exact ⟨h1, HQ.out.2.1, by omega, by omega⟩
          clear HQ
          go_wp2_with fail
          go_roundg (mass1 (us ++ kids1 p.l))
          case measure =>
            have h2 := kids1_mass p.l
            have h4 := p.sz_eq
            have h5 := HM.out.1
            have h6 : mass1 (us ++ kids1 p.l) = mass1 us + mass1 (kids1 p.l) := by simp [mass1]
            omega
          case rel => exact ⟨_, _, c + p.l.length, rfl, by go_num, rfl, HN⟩
end Go.Proofs.YtnddkmccagiclaaGreatDoor

/-
  What the call of ref's NodesOf answers.
-/
namespace Go.Proofs.YtnddkmccagiclaaGreatDoor
open Go.RowKit

theorem cells7_len (l : List TT) : (cells7 l).length = l.length * 7 := by
  induction l with
  | nil => rfl
  | cons a r ih => simp [cells7] at ih ⊢; omega

theorem cells7_one : ∀ (l : List TT) (u : Value), u ∈ cells7 l → u.oneCell' = true
  | [], u, h => by simp [cells7] at h
  | y :: r, u, h => by
    have e : cells7 (y :: r) = cells7 [y] ++ cells7 r := by simp [cells7]
    rw [e] at h
    rcases List.mem_append.1 h with h | h
    · simp [cells7] at h
      rcases h with rfl | rfl | rfl | rfl | rfl | rfl | rfl <;> rfl
    · exact cells7_one r u h

/-- The cells of a term's parts, one behind the other. -/
theorem parts_cells {w : World} {x : TT} (h : x.In w) {b o : Nat} (ha : x.a = some ⟨b, o, none⟩) : ∀ j u, (cells7 x.l)[j]? = some u → w.cell? ((⟨b, o, none⟩ : Addr).add j) = some u := by
  intro j u hj
  have hlt : j < (cells7 x.l).length := (List.getElem?_eq_some_iff.1 hj).1
  rw [cells7_len] at hlt
  have hq : j / 7 < x.l.length := by omega
  obtain ⟨b', o', ea, h7, _⟩ := h.part (j / 7) hq
  rw [ha] at ea
  cases ea
  have e := cells7_at x.l (j / 7) hq (j % 7) (by omega)
  rw [show j / 7 * 7 + j % 7 = j by omega, hj] at e
  have hr : j % 7 = 0 ∨ j % 7 = 1 ∨ j % 7 = 2 ∨ j % 7 = 3 ∨ j % 7 = 4 ∨ j % 7 = 5 ∨ j % 7 = 6 := by omega
  obtain ⟨a0, a1, a2, a3, a4, a5, a6⟩ := h7
  have ad : ∀ i, j % 7 = i → ((⟨b, o, none⟩ : Addr).add j) = ⟨b, o + j / 7 * 7 + i, none⟩ := fun i hi => by
    have : o + j = o + j / 7 * 7 + i := by omega
    simp [Addr.add, this]
    intro h
    omega
  rcases hr with hr | hr | hr | hr | hr | hr | hr
  all_goals
    rw [hr] at e
    simp at e
    rw [ad _ hr, e]
    assumption

structure StkN (B : Nat) (v : Value) (ps : List TT) (w : World) : Prop where
  own : w.ownsRow B 27 7 v ps.length (cells7 ps)
  ins : ∀ p, p ∈ ps → Pr1 B w p

set_option maxRecDepth 20000 in
set_option maxHeartbeats 4000000 in
/-- NodesOf. -/
theorem nodesOf_any (x : TT) (w : World) (hx : x.In w) (hsz : x.sz ≤ 2000000) :
    Calls Tryz.prog 12 #[.agg #[.int .i64 x.k, .int .i64 x.n, .int .i64 x.t.k, .slice x.t.a x.t.l.length x.t.c, .int .i64 x.f.k, .slice x.f.a x.f.l.length x.f.c, .slice x.a x.l.length x.c]] w fun e w' => e = .returned (.int .i64 (x.sz : Int)) ∧ Below w.heap.size w w' := by
  obtain ⟨i0, hi0, hz0, hz1, hz2⟩ := info_parts Tryz.info27c
  obtain ⟨OX, hOX⟩ : ∃ O, O = Obj.cells #[.int .i64 x.k, .int .i64 x.n, .int .i64 x.t.k, .slice x.t.a x.t.l.length x.t.c, .int .i64 x.f.k, .slice x.f.a x.f.l.length x.f.c, .slice x.a x.l.length x.c] 27 := ⟨_, rfl⟩
  have HL0 : Hid (∀ W, W = ((w.alloc OX).drew.alloc OX) ∨ W = ((w.alloc OX).alloc OX) ∨ W = ((w.alloc OX).alloc OX).drew → StkN (w.heap.size + 1) (.slice (some ⟨w.heap.size + 1, 0, none⟩) 1 1) [x] W ∧ Below w.heap.size w W) := by
    intro W hW
    have hb : Below w.heap.size w W := by
      rcases hW with rfl | rfl | rfl
      · exact (((Below.refl _ _).alloc (Nat.le_refl _) _).drew).alloc (by simp) _
      · exact ((Below.refl _ _).alloc (Nat.le_refl _) _).alloc (by simp) _
      · exact (((Below.refl _ _).alloc (Nat.le_refl _) _).alloc (by simp) _).drew
    have hh : W.heap[w.heap.size + 1]? = some OX := by
      rcases hW with rfl | rfl | rfl
      · have := heap_alloc_new ((w.alloc OX).drew) OX
        simpa using this
      · have := heap_alloc_new (w.alloc OX) OX
        simpa using this
      · have := heap_alloc_new (w.alloc OX) OX
        show ((w.alloc OX).alloc OX).heap[w.heap.size + 1]? = _
        simpa using this
    rw [hOX] at hh
    refine ⟨⟨⟨rfl, .inr ⟨_, 1, _, rfl, Nat.le_refl _, hh, Nat.le_refl _, by unfold maxLen; omega, rfl, rfl⟩⟩, fun p hp => ?_⟩, hb⟩
    rcases List.mem_singleton.1 hp with rfl
    exact ⟨hx.below hb, hx.bl.mono fun b h => by omega⟩
  obtain ⟨B, hB⟩ : ∃ B, w.heap.size + 1 = B := ⟨_, rfl⟩
  have hBw : w.heap.size < B := by omega
  obtain ⟨S, hS⟩ : ∃ S, x.sz = S := ⟨_, rfl⟩
  have hSb : S ≤ 2000000 := by omega
  have hm1 : mass1 [x] = S := by simp [mass1, hS]
  rw [hS]
  subst hOX
  clear hx hsz hS
  go_enter Tryz.func12, Tryz.ntmps12
  go_wp2_with fail
  go_region
  go_wp2_with fail
  go_loopg [3, 4] S (fun k cn v wr => ∃ (u : Value) (ps : List TT) (c : Nat), u = v ∧ cn = .int .i64 (c : Int) ∧ k = mass1 ps ∧ Hid (StkN B u ps wr ∧ Below w.heap.size w wr ∧ c + mass1 ps = S))
  case atStart =>
    refine ⟨_, [x], 0, rfl, rfl, hm1.symm, ?_⟩
    rw [← hB]
    first
      | exact ⟨(HL0.out _ (.inl rfl)).1, (HL0.out _ (.inl rfl)).2, by omega⟩
      | exact ⟨(HL0.out _ (.inr (.inl rfl))).1, (HL0.out _ (.inr (.inl rfl))).2, by omega⟩
      | exact ⟨(HL0.out _ (.inr (.inr rfl))).1, (HL0.out _ (.inr (.inr rfl))).2, by omega⟩
  case round =>
    obtain ⟨v, ps, c, hv, rfl, hk, HR⟩ := hrel
    subst hv
    have HK : Hid (gk = mass1 ps) := hk
    clear hk HL0 hB
    by_cases hne : ps = []
    · subst hne
      obtain ⟨a, c', rfl⟩ : ∃ a c, v = .slice a 0 c := by
        rcases HR.out.1.own.2 with ⟨rfl, _⟩ | ⟨g, cap, cur, rfl, _⟩
        · exact ⟨_, _, rfl⟩
        · exact ⟨_, _, rfl⟩
      have HF : Hid (Below w.heap.size w wr ∧ c = S) := ⟨HR.out.2.1, by have := HR.out.2.2; simpa [mass1] using this⟩
      clear HR HK
      go_wp2_with fail
      go_ret
      exact ⟨by rw [← HF.out.2]; rfl, HF.out.1⟩
    · obtain ⟨us, p, rfl⟩ : ∃ us p, ps = us ++ [p] := ⟨ps.dropLast, ps.getLast hne, (List.dropLast_concat_getLast hne).symm⟩
      have ho := HR.out.1.own
      have hlen : (us ++ [p]).length = us.length + 1 := by simp
      have h7l := cells7_len us
      rw [hlen] at ho
      obtain ⟨g, cap, rfl, hg, hgl⟩ := ho.form (by omega)
      have hc : ∀ i, i < 7 → wr.cell? ⟨g, us.length * 7 + i, none⟩ = (#[.int .i64 p.k, .int .i64 p.n, .int .i64 p.t.k, .slice p.t.a p.t.l.length p.t.c, .int .i64 p.f.k, .slice p.f.a p.f.l.length p.f.c, .slice p.a p.l.length p.c] : Array Value)[i]? := by
        intro i hi
        rw [ho.cellAt (us.length * 7 + i) (by omega)]
        have := cells7_at (us ++ [p]) us.length (by simp) i hi
        rw [this]
        simp
      have c0 : wr.cell? ⟨g, us.length * 7, none⟩ = some (.int .i64 p.k) := (hc 0 (by omega)).trans rfl
      have c1 : wr.cell? ⟨g, us.length * 7 + 1, none⟩ = some (.int .i64 p.n) := (hc 1 (by omega)).trans rfl
      have c2 : wr.cell? ⟨g, us.length * 7 + 2, none⟩ = some (.int .i64 p.t.k) := (hc 2 (by omega)).trans rfl
      have c3 : wr.cell? ⟨g, us.length * 7 + 3, none⟩ = some (.slice p.t.a p.t.l.length p.t.c) := (hc 3 (by omega)).trans rfl
      have c4 : wr.cell? ⟨g, us.length * 7 + 4, none⟩ = some (.int .i64 p.f.k) := (hc 4 (by omega)).trans rfl
      have c5 : wr.cell? ⟨g, us.length * 7 + 5, none⟩ = some (.slice p.f.a p.f.l.length p.f.c) := (hc 5 (by omega)).trans rfl
      have c6 : wr.cell? ⟨g, us.length * 7 + 6, none⟩ = some (.slice p.a p.l.length p.c) := (hc 6 (by omega)).trans rfl
      have hcap : us.length + 1 ≤ cap := by
        rcases ho.2 with ⟨h, _⟩ | ⟨g', cap', cur, h, _, _, h1, _⟩
        · cases h
        · cases h; exact h1
      have hop : wr.ownsRow B 27 7 (.slice (some ⟨g, 0, none⟩) us.length cap) us.length (cells7 us) := by
        rw [cells7_append] at ho
        exact ownsRow_pop h7l ho
      have hms : mass1 (us ++ [p]) = mass1 us + p.sz := by simp [mass1]
      have hml := HR.out.2.2
      have hus := Stk1.len (ps := us)
      have hps : p.sz = (p.l.map TT.sz).sum + 1 := p.sz_eq
      have hpl := len_sum p.l
      have i1 : (us.length : Int) < ((us.length : Int) + 1) := by omega
      have n1 : (us.length : Int) ≤ 2000000 := by omega
      have n2 : (us.length : Int) ≤ (cap : Int) := by omega
      have n3 : (0 : Int) ≤ (us.length : Int) := by omega
      have cb : (c : Int) ≤ 2000000 := by omega
      have hwr : IntKind.i64.wrap (us.length : Int) = (us.length : Int) := by rw [IntKind.wrap_i64]; omega
      have hpp := HR.out.1.ins p (by simp)
      have HT : Hid (∀ q, q ∈ us → Pr1 B wr q) := fun q hq => HR.out.1.ins q (by simp [hq])
      have hgne : g ≠ wr.heap.size := by omega
      have hbr := HR.out.2.1
      have hBr : B ≤ wr.heap.size := by have := hbr.size; omega
      have HM : Hid (gk = mass1 us + p.sz ∧ c + (mass1 us + p.sz) = S) := ⟨HK.out.trans hms, by rw [← hms]; exact hml⟩
      have HW : Hid (Below w.heap.size w wr) := hbr
      clear ho HR HK hms hml hne hlen hc hbr
      by_cases hl0 : p.l.length = 0
      · have hnil : p.l = [] := List.length_eq_zero_iff.1 hl0
        have hs1 : p.sz = 1 := by rw [hps, hnil]; rfl
        rw [hl0] at c6
        have HO : Hid (StkN B (.slice (some ⟨g, 0, none⟩) us.length cap) us (wr.alloc (.cells #[.int .i64 p.k, .int .i64 p.n, .int .i64 p.t.k, .slice p.t.a p.t.l.length p.t.c, .int .i64 p.f.k, .slice p.f.a p.f.l.length p.f.c, .slice p.a 0 p.c] 27)).drew ∧ Below w.heap.size w (wr.alloc (.cells #[.int .i64 p.k, .int .i64 p.n, .int .i64 p.t.k, .slice p.t.a p.t.l.length p.t.c, .int .i64 p.f.k, .slice p.f.a p.f.l.length p.f.c, .slice p.a 0 p.c] 27)).drew ∧ (c + 1) + mass1 us = S) := by
          refine ⟨⟨(hop.alloc _).drew, fun q hq => (HT.out q hq).low ((((Below.refl _ _).alloc hBr _)).drew)⟩, (HW.out.alloc HW.out.size _).drew, ?_⟩
          have := HM.out.2
          omega
        clear hpp HT HW hop
        go_wp2_with fail
        go_region_law ((refine step_append_void (by rfl) _ _ _ (by rfl) 27 i0 Tryz.underlying25 hi0 g us.length cap (by rfl) p.a p.c (by rfl) (by omega) ?_))
        go_wp2_with fail
        go_roundg (mass1 us)
        case measure => have := HM.out.1; omega
        case rel => exact ⟨_, us, c + 1, rfl, by go_num, rfl, HO⟩
      · obtain ⟨xb, xo, xa, _, _⟩ := hpp.1.part 0 (by omega)
        have hbb : Below wr.heap.size wr (wr.alloc (.cells #[.int .i64 p.k, .int .i64 p.n, .int .i64 p.t.k, .slice p.t.a p.t.l.length p.t.c, .int .i64 p.f.k, .slice p.f.a p.f.l.length p.f.c, .slice (some ⟨xb, xo, none⟩) p.l.length p.c] 27)).drew := ((Below.refl _ _).alloc (Nat.le_refl _) _).drew
        have HN : Hid (∀ j u, (cells7 p.l)[j]? = some u → (wr.alloc (.cells #[.int .i64 p.k, .int .i64 p.n, .int .i64 p.t.k, .slice p.t.a p.t.l.length p.t.c, .int .i64 p.f.k, .slice p.f.a p.f.l.length p.f.c, .slice (some ⟨xb, xo, none⟩) p.l.length p.c] 27)).drew.cell? ((⟨xb, xo, none⟩ : Addr).add j) = some u) := parts_cells (hpp.1.below hbb) xa
        have HP : Hid (Pr1 B wr p) := hpp
        rw [xa] at c6
        have hl1 : 0 < p.l.length := by omega
        have hsum : us.length + p.l.length ≤ 2000000 := by have := HM.out.2; omega
        clear hpp hbb
        go_wp2_with fail
        go_region_law
          ((refine step_append_lies _ (by rfl) _ _ _ (by rfl) B 27 i0 _ 7 104 Tryz.underlying25 hi0 hz0 hz1 hz2 rfl (by omega) (.slice (some ⟨g, 0, none⟩) us.length cap) us.length (cells7 us) (by rfl) ((hop.alloc _).drew)
              ⟨xb, xo, none⟩ p.l.length p.c (cells7 p.l) (by rfl) (cells7_len p.l) HN.out (cells7_one p.l)
              hl1 (by unfold maxLen; omega) (by omega) (by simp; omega) (wr.heap.size + 1) (by simp) ?_; intro gg cap1 w1 hown1 hgrow hat hlt))
        have hbg : Below B wr w1 := (((Below.refl _ _).alloc hBr _).drew).grown hgrow (by simp; omega) (fun k hk => by simp [Value.ownBlock] at hk; omega)
        have hma : mass1 (us ++ p.l) + 1 = mass1 us + p.sz := by
          rw [hps]
          simp only [mass1, List.map_append, List.sum_append_nat]
          omega
        have HO : Hid (StkN B (.slice (some ⟨gg, 0, none⟩) (us.length + p.l.length) cap1) (us ++ p.l) w1 ∧ Below w.heap.size w w1 ∧ (c + 1) + mass1 (us ++ p.l) = S) := by
          refine ⟨⟨?_, fun q hq => ?_⟩, HW.out.trans (hbg.mono (by omega)), ?_⟩
          · rw [cells7_append, List.length_append]
            exact hown1
          · rcases List.mem_append.1 hq with hq | hq
            · exact (HT.out q hq).low hbg
            · obtain ⟨j, hj, rfl⟩ := List.getElem_of_mem hq
              obtain ⟨_, _, _, _, hin⟩ := HP.out.1.part j hj
              exact (show Pr1 B wr p.l[j] from ⟨hin, HP.out.2.mem (List.getElem_mem hj)⟩).low hbg
          · have := HM.out.2
            omega
        have hmm : mass1 (us ++ p.l) < gk := by have := HM.out.1; omega
        clear hown1 hgrow hat hbg HT HW hop HN HP hma hlt
        go_wp2_with fail
        go_roundg (mass1 (us ++ p.l))
        case measure => exact hmm
        case rel => exact ⟨_, us ++ p.l, c + 1, rfl, by go_num, rfl, HO⟩
end Go.Proofs.YtnddkmccagiclaaGreatDoor
