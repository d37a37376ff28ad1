/-
  What the call of chaperonekeep.checks answers.
-/
import Derived.Test.YtnddkmccagiclaaDoorLot9fa26ba0e6
import Derived.Deep.DeepCutAuto
import Derived.Test.YtnddkmccagiclaaDoorLotb16148a8bf
import Derived.Test.YtnddkmccagiclaaDoorLotf289ed7d19
import Derived.Test.YtnddkmccagiclaaDoorRows
import Derived.Test.YtnddkmccagiclaaDoorLot50142594c8
import Derived.ProofKit
import Derived.Deep.Slices
import Derived.Test.YtnddkmccagiclaaDoorLot4a836e76ff
import Derived.OpenShut
import Derived.Lib.LaidTab
import Derived.Test.YtnddkmccagiclaaDoorLot028cfb6333
import Derived.Stop.LaidErr
namespace Go.Proofs.YtnddkmccagiclaaDoor
open Go.RowKit

/-- (as any 7) -/
def C0 : Tm := ⟨9, 0, anyY, anyY, [⟨2, 7, anyY, anyY, []⟩]⟩
/-- (as any 7), the number cast. -/
def C1 : Tm := ⟨9, 0, anyY, anyY, [⟨10, 1, anyY, ⟨1, []⟩, [⟨2, 7, anyY, anyY, []⟩]⟩]⟩

theorem any_any : isAnyY anyY = true := by simp [isAnyY, anyY, relY_mk, relL]

theorem any_good : goodY 4 anyY = true := by simp [goodY, anyY]

theorem C0_step (n r : Nat) : goodS 0 (n + 1 + 1) 0 C0 (r + 1 + 1) = some r := by
  simp [C0, goodS, okTop, okTypes, okNum, tells, partsOf, bindL, any_any, any_good, insOf]
theorem C0_good : goodM 0 C0 = true := congrArg Option.isSome (C0_step 38 38)

theorem C0_read : readS C0 [] 0 = some (C1, anyY) := by
  simp [C0, C1, readS_mk, readL, takesIn, ruleY, fitL, castL, castY, relY_mk, relL, escFits, escSame, anyY]

theorem C1_sites : sitesM C1 = [(1, ⟨1, []⟩, anyY)] := by
  simp [C1, sitesM_mk]

theorem C1_sz : C1.sz = 3 := by simp [C1, Tm.sz_mk]

set_option maxRecDepth 20000 in
set_option maxHeartbeats 4000000 in
/-- checks. -/
theorem checks_any (w : World) (hg : Gp w) : Calls Tryd.prog 24 #[] w fun e w' => e = .returned (.bool true) ∧ Below w.heap.size w w' := by
  obtain ⟨W1, hW1⟩ : ∃ W1, W1 = w.alloc (.cells #[.int .i64 2, .int .i64 7, .int .i64 0, .slice none 0 0, .int .i64 0, .slice none 0 0, .slice none 0 0] 27) := ⟨_, rfl⟩
  have hb1 : Below w.heap.size w W1 := by rw [hW1]; exact (Below.refl _ _).alloc (Nat.le_refl _) _
  have hin : (TT.mk 9 0 (leaf 0) (leaf 0) (some ⟨w.heap.size, 0, none⟩) 1 [tleaf 2 7]).In W1 := by
    refine TT.In_mk.2 ⟨leaf_in _ _, leaf_in _ _, fun j hj => ⟨w.heap.size, 0, rfl, ?_⟩, fun x hx => ?_⟩
    · have hj0 : j = 0 := by simpa using hj
      subst hj0
      rw [hW1]
      simp only [Nat.zero_mul, Nat.add_zero, List.getElem_cons_zero]
      exact At7.new w (tleaf 2 7)
    · rcases List.mem_singleton.1 hx with rfl
      exact TT.In_mk.2 ⟨leaf_in _ _, leaf_in _ _, fun j hj => absurd hj (by simp), fun x hx => by cases hx⟩
  have htm : (TT.mk 9 0 (leaf 0) (leaf 0) (some ⟨w.heap.size, 0, none⟩) 1 [tleaf 2 7]).tm = C0 := by
    have h1 : (tleaf 2 7).tm = ⟨2, 7, anyY, anyY, []⟩ := tleaf_tm 2 7
    rw [TT.tm_mk, leaf_ty, List.map_cons, List.map_nil, h1]
    rfl
  have HC : Hid (Calls Tryd.prog 13 #[.agg #[.int .i64 9, .int .i64 0, .int .i64 0, .slice none 0 0, .int .i64 0, .slice none 0 0, .slice (some ⟨w.heap.size, 0, none⟩) 1 1]] W1 fun e w2 => ∃ (y z : TT) (i : Tr) (b o : Nat), e = .returned (.tuple #[.agg #[.int .i64 y.k, .int .i64 y.n, .int .i64 y.t.k, .slice y.t.a y.t.l.length y.t.c, .int .i64 y.f.k, .slice y.f.a y.f.l.length y.f.c, .slice (some ⟨b, o, none⟩) 1 y.c], .agg #[.int .i64 0, .slice i.a i.l.length i.c], .int .i64 0]) ∧ Hid (y.tm = C1 ∧ y.In w2 ∧ y.a = some ⟨b, o, none⟩ ∧ y.l.length = 1) ∧ w2.cell? ⟨b, o, none⟩ = some (.int .i64 10) ∧ Below W1.heap.size W1 w2) := by
    have := check_any (TT.mk 9 0 (leaf 0) (leaf 0) (some ⟨w.heap.size, 0, none⟩) 1 [tleaf 2 7]) W1 (hg.below hb1) hin (TT.nb_mk.2 ⟨by omega, fun x hx => by rcases List.mem_singleton.1 hx with rfl; exact TT.nb_mk.2 ⟨by omega, fun y hy => by cases hy⟩⟩)
    refine this.mono ?_
    rintro e w2 ⟨hb, ⟨hn, _⟩ | ⟨_, hn, _⟩ | ⟨_, y, i, hy, rfl, hyi, hii, _⟩⟩
    · rw [htm, C0_good] at hn; cases hn
    · rw [htm, C0_read] at hn; cases hn
    · rw [htm, C0_read] at hy
      have e1 : y.tm = C1 := (congrArg Prod.fst (Option.some.inj hy)).symm
      have e2 : i.ty = anyY := (congrArg Prod.snd (Option.some.inj hy)).symm
      have hik : i.k = 0 := by rw [← Tr.ty_k, e2]; rfl
      have hyl : y.l.map TT.tm = [⟨10, 1, anyY, ⟨1, []⟩, [⟨2, 7, anyY, anyY, []⟩]⟩] := by
        have := congrArg Tm.l e1
        rw [TT.tm_l] at this
        exact this
      obtain ⟨z, hz⟩ : ∃ z, y.l = [z] := by
        have : y.l.length = 1 := by have := congrArg List.length hyl; simpa using this
        exact List.length_eq_one_iff.1 this
      have hzk : z.k = 10 := by
        rw [hz] at hyl
        have := congrArg Tm.k (List.head_eq_of_cons_eq hyl)
        rw [TT.tm_k] at this
        exact this
      obtain ⟨b, o, ea, h7, _⟩ := hyi.part 0 (by rw [hz]; simp)
      have h70 := h7.c0
      simp only [hz, List.getElem_cons_zero, hzk, Nat.zero_mul, Nat.add_zero] at h70
      refine ⟨y, z, i, b, o, by rw [ea, hz, hik]; rfl, ⟨e1, hyi, ea, by rw [hz]; rfl⟩, h70, hb⟩
  have HB1 : Hid (Below w.heap.size w W1) := hb1
  clear hin htm hb1 hg
  go_enter Tryd.func24, Tryd.ntmps24
  go_wp2_with fail
  rw [← hW1]
  clear hW1
  refine HC.out.mono ?_
  rintro e w2 ⟨y, z, i, b, o, rfl, HY, hz0, hb2⟩
  have hB2 : Below w.heap.size w w2 := HB1.out.trans (hb2.mono HB1.out.size)
  have hsz : y.sz ≤ 1000 := by rw [y.sz_tm, HY.out.1, C1_sz]; omega
  have hcok : y.cok := cok_of 44 (by omega) y fun s hs => by
    rw [HY.out.1, C1_sites] at hs
    rcases List.mem_singleton.1 hs with rfl
    exact ⟨goodY_num _, goodY_any _⟩
  obtain ⟨W3, hW3⟩ : ∃ W3, W3 = (w2.alloc (.cells #[.int .i64 y.k, .int .i64 y.n, .int .i64 y.t.k, .slice y.t.a y.t.l.length y.t.c, .int .i64 y.f.k, .slice y.f.a y.f.l.length y.f.c, .slice (some ⟨b, o, none⟩) 1 y.c] 27)).alloc (.cells #[.int .i64 0, .slice i.a i.l.length i.c] 24) := ⟨_, rfl⟩
  have hA : Below w2.heap.size w2 W3 := by rw [hW3]; exact ((Below.refl _ _).alloc (Nat.le_refl _) _).alloc (by simp) _
  have h0 : W3.cell? ⟨b, o, none⟩ = some (.int .i64 10) := cell_later hA hz0
  have HSI : Hid (Calls Tryd.prog 19 #[.agg #[.int .i64 y.k, .int .i64 y.n, .int .i64 y.t.k, .slice y.t.a y.t.l.length y.t.c, .int .i64 y.f.k, .slice y.f.a y.f.l.length y.f.c, .slice (some ⟨b, o, none⟩) 1 y.c]] W3 fun e w' => ∃ (a : Option Addr) (c : Nat), e = .returned (.slice a 1 c) ∧ Below W3.heap.size W3 w') := by
    have := sites_any y W3 (HY.out.2.1.below hA) hsz hcok
    rw [HY.out.2.2.1, HY.out.2.2.2] at this
    refine this.mono ?_
    rintro e w' ⟨ss, a, c, rfl, _, hm, hb⟩
    have hl : ss.length = 1 := by
      have := congrArg List.length hm
      rw [HY.out.1, C1_sites] at this
      simpa using this
    exact ⟨a, c, by rw [hl], hb⟩
  have q0 : W3.cell? ⟨w2.heap.size + 1, 0, none⟩ = some (.int .i64 0) := by rw [hW3]; simp [go_sem]
  have HE : Hid (Below w.heap.size w W3) := hB2.trans (hA.mono hB2.size)
  have r0 : W3.cell? ⟨w2.heap.size, 0, none⟩ = some (.int .i64 y.k) := by rw [hW3]; simp [go_sem]
  have r1 : W3.cell? ⟨w2.heap.size, 1, none⟩ = some (.int .i64 y.n) := by rw [hW3]; simp [go_sem]
  have r2 : W3.cell? ⟨w2.heap.size, 2, none⟩ = some (.int .i64 y.t.k) := by rw [hW3]; simp [go_sem]
  have r3 : W3.cell? ⟨w2.heap.size, 3, none⟩ = some (.slice y.t.a y.t.l.length y.t.c) := by rw [hW3]; simp [go_sem]
  have r4 : W3.cell? ⟨w2.heap.size, 4, none⟩ = some (.int .i64 y.f.k) := by rw [hW3]; simp [go_sem]
  have r5 : W3.cell? ⟨w2.heap.size, 5, none⟩ = some (.slice y.f.a y.f.l.length y.f.c) := by rw [hW3]; simp [go_sem]
  have r6 : W3.cell? ⟨w2.heap.size, 6, none⟩ = some (.slice (some ⟨b, o, none⟩) 1 y.c) := by rw [hW3]; simp [go_sem]
  clear hsz hcok hA hB2 hb2 HY HC HB1 hz0
  go_upto_region 2 with fail
  rw [← hW3]
  clear hW3
  go_wp2_with fail
  refine HSI.out.mono ?_
  rintro e w4 ⟨a, c, rfl, hb4⟩
  have HN : Hid (Below w.heap.size w w4) := HE.out.trans (hb4.mono HE.out.size)
  clear hb4 HSI HE h0 q0
  go_wp2_with fail
  go_ret
  exact ⟨rfl, HN.out⟩
end Go.Proofs.YtnddkmccagiclaaDoor

/-
  What the call of chaperonekeep.sure answers at a good term.
-/
namespace Go.Proofs.YtnddkmccagiclaaDoor
open Go.RowKit

theorem okTm_parts {x : TT} {ins : Nat} (h : okTm x.tm ins) : goodT 4 x.t = true ∧ x.l.length ≤ 3 ∧ ∀ y, y ∈ x.l → okTm y.tm (if x.k = 7 then ins + 1 else ins) := by
  obtain ⟨k, n, t, f, a, cc, l⟩ := x
  rw [TT.tm_mk] at h
  obtain ⟨h0, h1⟩ := okTm_mk.1 h
  obtain ⟨k1, k9, hl, _, ht, _, hn⟩ := okTop_all h0
  refine ⟨by rw [goodT_eq]; exact ht, by have := parts_le k; simp at hl ⊢; omega, fun y hy => h1 y.tm (List.mem_map.2 ⟨y, hy, rfl⟩)⟩

theorem sureM_tt (x : TT) : sureM x.tm = (!(tells x.k && !(sureY x.t.ty)) && x.l.all fun y => sureM y.tm) := by
  obtain ⟨k, n, t, f, a, cc, l⟩ := x
  rw [TT.tm_mk, sureM_mk, List.all_map]
  cases tells k <;> cases sureY t.ty <;> simp [Function.comp_def]

set_option maxRecDepth 20000 in
set_option maxHeartbeats 4000000 in
theorem sureTm_step (x : TT) (ins : Nat) (w : World) (hx : x.In w) (hok : okTm x.tm ins)
    (ih : ∀ y, y ∈ x.l → ∀ (ins' : Nat) (W : World), okTm y.tm ins' → y.In W → Calls Tryd.prog 28 #[.agg #[.int .i64 y.k, .int .i64 y.n, .int .i64 y.t.k, .slice y.t.a y.t.l.length y.t.c, .int .i64 y.f.k, .slice y.f.a y.f.l.length y.f.c, .slice y.a y.l.length y.c]] W fun e w' => e = .returned (.bool (sureM y.tm)) ∧ Below W.heap.size W w') :
    Calls Tryd.prog 28 #[.agg #[.int .i64 x.k, .int .i64 x.n, .int .i64 x.t.k, .slice x.t.a x.t.l.length x.t.c, .int .i64 x.f.k, .slice x.f.a x.f.l.length x.f.c, .slice x.a x.l.length x.c]] w fun e w' => e = .returned (.bool (sureM x.tm)) ∧ Below w.heap.size w w' := by
  obtain ⟨hg4, hl3, hpo⟩ := okTm_parts hok
  obtain ⟨W1, hW1⟩ : ∃ W1, W1 = w.alloc (.cells #[.int .i64 x.k, .int .i64 x.n, .int .i64 x.t.k, .slice x.t.a x.t.l.length x.t.c, .int .i64 x.f.k, .slice x.f.a x.f.l.length x.f.c, .slice x.a x.l.length x.c] 27) := ⟨_, rfl⟩
  have hb1 : Below w.heap.size w W1 := by rw [hW1]; exact (Below.refl _ _).alloc (Nat.le_refl _) _
  have h7 : At7 W1 w.heap.size 0 x := by rw [hW1]; exact At7.new w x
  have hgf := good_facts (n := 4) (by omega) hg4
  have HSU : Hid (Calls Tryd.prog 29 #[.agg #[.int .i64 x.t.k, .slice x.t.a x.t.l.length x.t.c]] W1 fun e w' => e = .returned (.bool (sureY x.t.ty)) ∧ Below W1.heap.size W1 w') :=
    sure_any x.t W1 (hx.t.below hb1) hgf.1 (by have := Tr.sz_good 4 x.t hg4; omega)
  have HX : Hid (x.In w ∧ Below w.heap.size w W1 ∧ At7 W1 w.heap.size 0 x ∧ (∀ y, y ∈ x.l → okTm y.tm (if x.k = 7 then ins + 1 else ins))) := ⟨hx, hb1, h7, hpo⟩
  have HIH : Hid (∀ y, y ∈ x.l → ∀ (ins' : Nat) (W : World), okTm y.tm ins' → y.In W → Calls Tryd.prog 28 #[.agg #[.int .i64 y.k, .int .i64 y.n, .int .i64 y.t.k, .slice y.t.a y.t.l.length y.t.c, .int .i64 y.f.k, .slice y.f.a y.f.l.length y.f.c, .slice y.a y.l.length y.c]] W fun e w' => e = .returned (.bool (sureM y.tm)) ∧ Below W.heap.size W w') := ih
  obtain ⟨p0, p1, p2, p3, p4, p5, p6⟩ := h7
  simp only [Nat.zero_add] at p0 p1 p2 p3 p4 p5 p6
  obtain ⟨sy, hsy⟩ : ∃ sy, sureY x.t.ty = sy := ⟨_, rfl⟩
  rw [hsy] at HSU
  have HSY : Hid (sureY x.t.ty = sy) := hsy
  clear hx hok ih hg4 hpo hb1 hgf hsy
  go_enter Tryd.func28, Tryd.ntmps28
  go_upto_region 1 with fail
  rw [← hW1]
  clear hW1
  go_cut [18] (fun s18 wx => s18 = .bool (tells x.k && !sy) ∧ Hid (Below W1.heap.size W1 wx))
  case first =>
    by_cases k7 : x.k = 7
    · have e7 : (x.k == 7) = true := by simpa using k7
      have HT : Hid (tells x.k = true) := by simp [Hid, tells, k7]
      clear k7
      go_wp2_with fail
      refine HSU.out.mono ?_
      rintro e w2 ⟨rfl, hb2⟩
      have HB : Hid (Below W1.heap.size W1 w2) := hb2
      clear hb2
      go_wp2_with fail
      go_meet
      case rel => exact ⟨by rw [HT.out]; rfl, HB⟩
    · have e7 : (x.k == 7) = false := by simpa using k7
      by_cases k9 : x.k = 9
      · have e9 : (x.k == 9) = true := by simpa using k9
        have HT : Hid (tells x.k = true) := by simp [Hid, tells, k9]
        clear k7 k9
        go_wp2_with fail
        refine HSU.out.mono ?_
        rintro e w2 ⟨rfl, hb2⟩
        have HB : Hid (Below W1.heap.size W1 w2) := hb2
        clear hb2
        go_wp2_with fail
        go_meet
        case rel => exact ⟨by rw [HT.out]; rfl, HB⟩
      · have e9 : (x.k == 9) = false := by simpa using k9
        have HT : Hid (tells x.k = false) := by simp [Hid, tells, k7, k9]
        clear k7 k9
        go_wp2_with fail
        go_meet
        case rel => exact ⟨by rw [HT.out]; rfl, Below.refl _ _⟩
  case rest =>
  obtain ⟨rfl, HB⟩ := hcut
  obtain ⟨tb, htb⟩ : ∃ tb, (tells x.k && !sy) = tb := ⟨_, rfl⟩
  have HTB : Hid ((tells x.k && !(sureY x.t.ty)) = tb) := by rw [HSY.out]; exact htb
  rw [htb]
  have hbw : Below w.heap.size w wc := HX.out.2.1.trans (HB.out.mono HX.out.2.1.size)
  have q6 := (HX.out.2.2.1.below HB.out).c6
  simp only [Nat.zero_add] at q6
  have HBW : Hid (Below w.heap.size w wc) := hbw
  clear htb hbw p0 p1 p2 p3 p4 p5 p6 HSU HSY HB
  cases tb
  · go_wp2_with fail
    clear q6
    go_loopg [22] x.l.length (fun g i wr => ∃ (j : Nat), g + j = x.l.length ∧ i = .int .i64 (j : Int) ∧ Hid (Below w.heap.size w wr ∧ ∀ q (h : q < x.l.length), q < j → sureM x.l[q].tm = true))
    case atStart => exact ⟨0, by omega, rfl, HBW.out, fun q _ h => absurd h (by omega)⟩
    case round =>
      obtain ⟨j, hj, rfl, HQ⟩ := hrel
      by_cases hlt : j < x.l.length
      · obtain ⟨b, o, ea, hX, hyi⟩ := HX.out.1.part j hlt
        have hym : x.l[j] ∈ x.l := List.getElem_mem hlt
        obtain ⟨y, hye⟩ : ∃ y, x.l[j] = y := ⟨_, rfl⟩
        rw [hye] at hX hyi hym
        obtain ⟨d0, d1, d2, d3, d4, d5, d6⟩ := hX.below HQ.out.1
        have i1 : (j : Int) < (x.l.length : Int) := by omega
        have i0 : (0 : Int) ≤ (j : Int) := by omega
        have HEA : Hid (x.a = some ⟨b, o, none⟩) := ea
        rw [ea]
        have hbA : Below wr.heap.size wr (wr.alloc (.cells #[.int .i64 y.k, .int .i64 y.n, .int .i64 y.t.k, .slice y.t.a y.t.l.length y.t.c, .int .i64 y.f.k, .slice y.f.a y.f.l.length y.f.c, .slice y.a y.l.length y.c] 27)) := (Below.refl _ _).alloc (Nat.le_refl _) _
        have hbE := HQ.out.1.trans (hbA.mono HQ.out.1.size)
        obtain ⟨r, hr⟩ : ∃ r, sureM y.tm = r := ⟨_, rfl⟩
        have HC : Hid (Calls Tryd.prog 28 #[.agg #[.int .i64 y.k, .int .i64 y.n, .int .i64 y.t.k, .slice y.t.a y.t.l.length y.t.c, .int .i64 y.f.k, .slice y.f.a y.f.l.length y.f.c, .slice y.a y.l.length y.c]] (wr.alloc (.cells #[.int .i64 y.k, .int .i64 y.n, .int .i64 y.t.k, .slice y.t.a y.t.l.length y.t.c, .int .i64 y.f.k, .slice y.f.a y.f.l.length y.f.c, .slice y.a y.l.length y.c] 27)) fun e w' => e = .returned (.bool r) ∧ Below (wr.alloc (.cells #[.int .i64 y.k, .int .i64 y.n, .int .i64 y.t.k, .slice y.t.a y.t.l.length y.t.c, .int .i64 y.f.k, .slice y.f.a y.f.l.length y.f.c, .slice y.a y.l.length y.c] 27)).heap.size (wr.alloc (.cells #[.int .i64 y.k, .int .i64 y.n, .int .i64 y.t.k, .slice y.t.a y.t.l.length y.t.c, .int .i64 y.f.k, .slice y.f.a y.f.l.length y.f.c, .slice y.a y.l.length y.c] 27)) w') := by
          have := HIH.out y hym _ _ (HX.out.2.2.2 y hym) (hyi.below hbE)
          rw [hr] at this
          exact this
        have HE : Hid (Below w.heap.size w (wr.alloc (.cells #[.int .i64 y.k, .int .i64 y.n, .int .i64 y.t.k, .slice y.t.a y.t.l.length y.t.c, .int .i64 y.f.k, .slice y.f.a y.f.l.length y.f.c, .slice y.a y.l.length y.c] 27)) ∧ x.l[j] = y ∧ sureM y.tm = r ∧ y ∈ x.l) := ⟨hbE, hye, hr, hym⟩
        clear ea hX hyi hym hye hbA hbE hr
        go_wp2_with fail
        refine HC.out.mono ?_
        rintro e w2 ⟨rfl, hb2⟩
        have hbw2 : Below w.heap.size w w2 := HE.out.1.trans (hb2.mono HE.out.1.size)
        clear hb2 HC d0 d1 d2 d3 d4 d5 d6
        cases r
        · have HN : Hid (sureM x.tm = false ∧ Below w.heap.size w w2) := by
            refine ⟨?_, hbw2⟩
            rw [sureM_tt]
            have : (x.l.all fun y => sureM y.tm) = false := by
              rw [List.all_eq_false]
              exact ⟨y, HE.out.2.2.2, by rw [HE.out.2.2.1]; simp⟩
            rw [this, Bool.and_false]
          clear hbw2 HQ HE
          go_wp2_with fail
          go_ret
          exact ⟨ret_bool HN.out.1.symm, HN.out.2⟩
        · have HN : Hid (Below w.heap.size w w2 ∧ ∀ q (h : q < x.l.length), q < j + 1 → sureM x.l[q].tm = true) := by
            refine ⟨hbw2, fun q h hq => ?_⟩
            by_cases e : q = j
            · subst e; rw [HE.out.2.1]; exact HE.out.2.2.1
            · exact HQ.out.2 q h (by omega)
          clear hbw2 HQ HE
          go_wp2_with fail
          rw [← HEA.out]
          go_roundg (x.l.length - (j + 1))
          case measure => omega
          case rel => exact ⟨j + 1, by omega, by go_num, HN⟩
      · have HN : Hid (sureM x.tm = true ∧ Below w.heap.size w wr) := by
          refine ⟨?_, HQ.out.1⟩
          rw [sureM_tt, HTB.out]
          simp only [Bool.not_false, Bool.true_and, List.all_eq_true]
          intro y hy
          obtain ⟨q, hq, rfl⟩ := List.getElem_of_mem hy
          exact HQ.out.2 q hq (by omega)
        clear HQ
        go_wp2_with fail
        go_ret
        exact ⟨ret_bool HN.out.1.symm, HN.out.2⟩
  · have HN : Hid (sureM x.tm = false ∧ Below w.heap.size w wc) := ⟨by rw [sureM_tt, HTB.out]; rfl, HBW.out⟩
    clear HBW q6
    go_wp2_with fail
    go_ret
    exact ⟨ret_bool HN.out.1.symm, HN.out.2⟩

theorem sureTm_any : ∀ (m : Nat) (x : TT) (ins : Nat) (w : World), x.sz ≤ m → okTm x.tm ins → x.In w → Calls Tryd.prog 28 #[.agg #[.int .i64 x.k, .int .i64 x.n, .int .i64 x.t.k, .slice x.t.a x.t.l.length x.t.c, .int .i64 x.f.k, .slice x.f.a x.f.l.length x.f.c, .slice x.a x.l.length x.c]] w fun e w' => e = .returned (.bool (sureM x.tm)) ∧ Below w.heap.size w w' := by
  intro m
  induction m with
  | zero => intro x ins w h _ _; have := x.sz_pos; omega
  | succ m ih =>
    intro x ins w h hok hx
    refine sureTm_step x ins w hx hok fun y hy ins' W hok' hyi => ih y ins' W ?_ hok' hyi
    have h1 := x.sz_eq
    have h2 : y.sz ≤ (x.l.map TT.sz).sum := by
      have := sz_mem (x.l.map TT.tm) y.tm (List.mem_map.2 ⟨y, hy, rfl⟩)
      rw [sz_map, ← y.sz_tm] at this
      exact this
    omega
end Go.Proofs.YtnddkmccagiclaaDoor

/-
  How great the type of a term is at most; no program in it.
-/
namespace Go.Proofs.YtnddkmccagiclaaDoor

def Ty.sz : Ty → Nat
  | ⟨_, l⟩ => (l.map fun t => t.sz).sum + 1
theorem Ty.sz_mk (k : Int) (l : List Ty) : (Ty.mk k l).sz = (l.map Ty.sz).sum + 1 := by
  rw [Ty.sz]

theorem Tr.sz_ty (t : Tr) : t.sz = t.ty.sz := by
  induction t using Tr.ind with
  | h k a c l ih =>
    rw [Tr.ty_mk, Tr.sz_mk, Ty.sz_mk, List.map_map]
    have : l.map Tr.sz = l.map (Ty.sz ∘ Tr.ty) := List.map_congr_left fun x hx => ih x hx
    rw [this]

theorem goodY_sz : ∀ (n : Nat) (t : Ty), goodY n t = true → t.sz + 1 ≤ 2 ^ n
  | 0, t, h => by simp [goodY] at h
  | n + 1, t, h => by
    have hp : 1 ≤ 2 ^ n := Nat.one_le_two_pow
    rw [Nat.pow_succ]
    rcases goodY_cases h with ⟨k, rfl, _⟩ | ⟨x, y, rfl, hx, hy⟩
    · rw [Ty.sz_mk]; simp; omega
    · have h1 := goodY_sz n x hx
      have h2 := goodY_sz n y hy
      rw [Ty.sz_mk]
      simp only [List.map_cons, List.map_nil, List.sum_cons, List.sum_nil]; omega

theorem sz_leaf (k : Int) : (Ty.mk k []).sz = 1 := by simp [Ty.sz_mk]

theorem join_sz : ∀ (n : Nat) (a b : Ty), goodY n a = true → goodY n b = true → (joinY a b).sz ≤ a.sz
  | 0, a, b, h, _ => by simp [goodY] at h
  | n + 1, a, b, ha, hb => by
    have any1 : ∀ t : Ty, (Ty.mk 0 []).sz ≤ t.sz := fun t => by
      obtain ⟨k, l⟩ := t
      rw [sz_leaf, Ty.sz_mk]; omega
    rcases goodY_cases ha with ⟨k, rfl, hk⟩ | ⟨x, y, rfl, hx, hy⟩
    · rcases goodY_cases hb with ⟨k', rfl, hk'⟩ | ⟨x', y', rfl, hx', hy'⟩
      · rw [joinY_mk]
        split
        · simp [joinL]
        · exact any1 _
      · have e : k ≠ 3 := by omega
        rw [joinY_mk, if_neg e]
        exact any1 _
    · rcases goodY_cases hb with ⟨k', rfl, hk'⟩ | ⟨x', y', rfl, hx', hy'⟩
      · have e : (3 : Int) ≠ k' := by omega
        rw [joinY_mk, if_neg e]
        exact any1 _
      · rw [join_two, Ty.sz_mk, Ty.sz_mk]
        have h1 := join_sz n x x' hx hx'
        have h2 := join_sz n y y' hy hy'
        simp only [List.map_cons, List.map_nil, List.sum_cons, List.sum_nil]
        omega

theorem getD_sz {M : Nat} {l : List Ty} (h : ∀ u, u ∈ l → u.sz ≤ M) (hM : 1 ≤ M) (j : Nat) : (l.getD j ⟨0, []⟩).sz ≤ M := by
  rw [List.getD_eq_getElem?_getD]
  cases hj : l[j]? with
  | none => simpa [sz_leaf] using hM
  | some u => exact h u (List.mem_of_getElem? hj)

theorem rule_sz {k n : Int} {t : Ty} {ps takes : List Ty} {i : Ty} {us : List Ty} (m M : Nat) (h1 : 1 ≤ k) (h9 : k ≤ 9) (ht : goodY 4 t = true) (hT : ∀ u, u ∈ takes → goodY 4 u = true) (hm : 1 ≤ m) (hp : ∀ u, u ∈ ps → goodY m u = true) (hpM : ∀ u, u ∈ ps → u.sz ≤ M)
    (h : ruleY k n t ps takes = some (i, us)) : i.sz ≤ M + 17 := by
  have hk : k = 1 ∨ k = 2 ∨ k = 3 ∨ k = 4 ∨ k = 5 ∨ k = 6 ∨ k = 7 ∨ k = 8 ∨ k = 9 := by omega
  have s4 : ∀ u, goodY 4 u = true → u.sz ≤ 15 := fun u hu => by have := goodY_sz 4 u hu; omega
  have hpd : ∀ j, (ps.getD j ⟨0, []⟩).sz ≤ M + 1 := fun j => getD_sz (fun u hu => by have := hpM u hu; omega) (by omega) j
  rcases hk with rfl | rfl | rfl | rfl | rfl | rfl | rfl | rfl | rfl
  · have h' : some (takes.getD n.toNat ⟨0, []⟩, []) = some (i, us) := by simpa [ruleY] using h
    cases h'
    have := getD_sz (M := 15) (fun u hu => s4 u (hT u hu)) (by omega) n.toNat
    omega
  · simp [ruleY] at h
    rw [← h.1, sz_leaf]; omega
  · simp [ruleY] at h
    rw [← h.1, sz_leaf]; omega
  · simp [ruleY] at h
    rw [← h.1, sz_leaf]; omega
  · simp [ruleY] at h
    rw [← h.1, sz_leaf]; omega
  · have h' : ifY ⟨2, []⟩ (ps.getD 1 ⟨0, []⟩) (ps.getD 2 ⟨0, []⟩) = some (i, us) := by simpa [ruleY] using h
    unfold ifY at h'
    split at h'
    · cases h'
      have := join_sz m _ _ (getD_good hp hm 1) (getD_good hp hm 2)
      have := hpd 1
      omega
    · cases h'
  · have h' : some (Ty.mk 3 [t, ps.getD 0 ⟨0, []⟩], ps) = some (i, us) := by simpa [ruleY] using h
    cases h'
    rw [Ty.sz_mk]
    have := s4 t ht
    have h0 : ps = [] ∨ ∃ u, u ∈ ps ∧ ps.getD 0 ⟨0, []⟩ = u := by
      cases ps with
      | nil => exact .inl rfl
      | cons a r => exact .inr ⟨a, by simp, by simp⟩
    rcases h0 with rfl | ⟨u, hu, e⟩
    · simp [sz_leaf]; omega
    · rw [e]
      have := hpM u hu
      simp only [List.map_cons, List.map_nil, List.sum_cons, List.sum_nil]
      omega
  · have h' : callY (ps.getD 0 ⟨0, []⟩) = some (i, us) := by simpa [ruleY] using h
    have hs := hpd 0
    have hg := getD_good hp hm 0
    generalize ps.getD 0 ⟨0, []⟩ = q at h' hs hg
    obtain ⟨m, rfl⟩ : ∃ r, m = r + 1 := ⟨m - 1, by omega⟩
    rcases goodY_cases hg with ⟨k, rfl, hk⟩ | ⟨x, y, rfl, hx, hy⟩
    · rcases hk with rfl | rfl | rfl
      · simp [callY] at h'
        rw [← h'.1, sz_leaf]; omega
      · simp [callY] at h'
      · simp [callY] at h'
    · simp [callY] at h'
      rw [Ty.sz_mk] at hs
      simp only [List.map_cons, List.map_nil, List.sum_cons, List.sum_nil] at hs
      rw [← h'.1]
      omega
  · have h' : some (t, [t]) = some (i, us) := by simpa [ruleY] using h
    cases h'
    have := s4 _ ht
    omega

/-- A type is not much greater than its term. -/
theorem read_sz : ∀ (x : Tm) (takes : List Ty) (c : Nat) (y : Tm) (i : Ty), okTm x takes.length → (∀ u, u ∈ takes → goodY 4 u = true) → readS x takes c = some (y, i) → i.sz ≤ 17 * x.sz := by
  intro x
  induction x using Tm.ind with
  | h k n t f l ih =>
    intro takes c y i hok hT h
    obtain ⟨h0, h1⟩ := okTm_mk.1 hok
    obtain ⟨k1, k9, hl, _, ht, _, _⟩ := okTop_all h0
    obtain ⟨ps, us, e1, e2, _, _⟩ := readS_some h
    have hlen := readL_length _ _ _ _ e1
    have hp : ∀ u, u ∈ ps.map (fun p => p.2.2) → goodY ((l.map Tm.sz).sum + 4) u = true ∧ u.sz ≤ 17 * (l.map Tm.sz).sum := by
      intro u hu
      obtain ⟨j, hj, rfl⟩ := List.getElem_of_mem hu
      have hj' : j < ps.length := by simpa using hj
      have := readL_all (Q := fun x _ _ i => goodY (x.sz + 4) i = true ∧ i.sz ≤ 17 * x.sz) l _ ps e1 (fun x hx c y i hr => ⟨read_good x _ c y i (by rw [takesIn_length]; exact h1 x hx) (takesIn_good ht hT) hr, ih x hx _ c y i (by rw [takesIn_length]; exact h1 x hx) (takesIn_good ht hT) hr⟩) j hj' (by omega)
      have hs := sz_mem l l[j] (List.getElem_mem _)
      have h2 := goodY_more _ ((l.map Tm.sz).sum + 4) _ (by omega) this.1
      have h3 : (ps[j].2.2).sz ≤ 17 * (l.map Tm.sz).sum := by have := this.2; omega
      simpa using And.intro h2 h3
    have := rule_sz ((l.map Tm.sz).sum + 4) (17 * (l.map Tm.sz).sum) k1 k9 ht (takesIn_good ht hT) (by omega) (fun u hu => (hp u hu).1) (fun u hu => (hp u hu).2) e2
    rw [Tm.sz_mk]
    omega
end Go.Proofs.YtnddkmccagiclaaDoor

/-
  What the call of chaperonekeep.CheckSure answers.
-/
namespace Go.Proofs.YtnddkmccagiclaaDoor
open Go.RowKit

set_option maxRecDepth 20000 in
set_option maxHeartbeats 8000000 in
theorem ckSure_any (x : TT) (w : World) (hg : Gp w) (hx : x.In w) (hnb : x.nb) : Calls Tryd.prog 6 #[.agg #[.int .i64 x.k, .int .i64 x.n, .int .i64 x.t.k, .slice x.t.a x.t.l.length x.t.c, .int .i64 x.f.k, .slice x.f.a x.f.l.length x.f.c, .slice x.a x.l.length x.c]] w fun e w' => e = .returned (.bool true) ∧ Below w.heap.size w w' := by
  obtain ⟨W1, hW1⟩ : ∃ W1, W1 = w.alloc (.cells #[.int .i64 x.k, .int .i64 x.n, .int .i64 x.t.k, .slice x.t.a x.t.l.length x.t.c, .int .i64 x.f.k, .slice x.f.a x.f.l.length x.f.c, .slice x.a x.l.length x.c] 27) := ⟨_, rfl⟩
  have hb1 : Below w.heap.size w W1 := by rw [hW1]; exact (Below.refl _ _).alloc (Nat.le_refl _) _
  have h7 : At7 W1 w.heap.size 0 x := by rw [hW1]; exact At7.new w x
  have HC : Hid (Calls Tryd.prog 13 #[.agg #[.int .i64 x.k, .int .i64 x.n, .int .i64 x.t.k, .slice x.t.a x.t.l.length x.t.c, .int .i64 x.f.k, .slice x.f.a x.f.l.length x.f.c, .slice x.a x.l.length x.c]] W1 (CkPost x W1)) := check_any x W1 (hg.below hb1) (hx.below hb1) hnb
  have HX : Hid (x.In w ∧ Gp w ∧ Below w.heap.size w W1 ∧ At7 W1 w.heap.size 0 x) := ⟨hx, hg, hb1, h7⟩
  obtain ⟨p0, p1, p2, p3, p4, p5, p6⟩ := h7
  simp only [Nat.zero_add] at p0 p1 p2 p3 p4 p5 p6
  clear hg hx hnb hb1
  go_enter Tryd.func6, Tryd.ntmps6
  go_wp2_with fail
  rw [← hW1]
  clear hW1
  refine HC.out.mono ?_
  rintro e w2 ⟨hb2, ⟨_, rfl⟩ | ⟨_, _, rfl⟩ | ⟨hgd, y, i, hrd, rfl, hyi, hii, hi44⟩⟩
  all_goals
    have hbw : Below w.heap.size w w2 := HX.out.2.2.1.trans (hb2.mono HX.out.2.2.1.size)
    clear p0 p1 p2 p3 p4 p5 p6
  · obtain ⟨W3, hW3⟩ : ∃ W3, W3 = (w2.alloc (.cells #[.int .i64 0, .int .i64 0, .int .i64 0, .slice none 0 0, .int .i64 0, .slice none 0 0, .slice none 0 0] 27)).alloc (.cells #[.int .i64 0, .slice none 0 0] 24) := ⟨_, rfl⟩
    have hA : Below w2.heap.size w2 W3 := by rw [hW3]; exact ((Below.refl _ _).alloc (Nat.le_refl _) _).alloc (by simp) _
    have hB3 : Below w.heap.size w W3 := hbw.trans (hA.mono hbw.size)
    have HCH : Hid (Calls Tryd.prog 24 #[] W3 fun e w' => e = .returned (.bool true) ∧ Below w.heap.size w w') := by
      refine (checks_any W3 (HX.out.2.1.below hB3)).mono ?_
      rintro e w' ⟨rfl, h⟩
      exact ⟨rfl, hB3.trans (h.mono hB3.size)⟩
    clear hA hB3 hbw hb2 HX HC
    go_upto_region 2 with fail
    rw [← hW3]
    clear hW3
    go_wp2_with fail
    refine HCH.out.mono ?_
    rintro e w4 ⟨rfl, hb4⟩
    have HN : Hid (Below w.heap.size w w4) := hb4
    clear hb4 HCH
    go_wp2_with fail
    go_ret
    exact ⟨rfl, HN.out⟩
  · obtain ⟨W3, hW3⟩ : ∃ W3, W3 = (w2.alloc (.cells #[.int .i64 0, .int .i64 0, .int .i64 0, .slice none 0 0, .int .i64 0, .slice none 0 0, .slice none 0 0] 27)).alloc (.cells #[.int .i64 0, .slice none 0 0] 24) := ⟨_, rfl⟩
    have hA : Below w2.heap.size w2 W3 := by rw [hW3]; exact ((Below.refl _ _).alloc (Nat.le_refl _) _).alloc (by simp) _
    have hB3 : Below w.heap.size w W3 := hbw.trans (hA.mono hbw.size)
    have HCH : Hid (Calls Tryd.prog 24 #[] W3 fun e w' => e = .returned (.bool true) ∧ Below w.heap.size w w') := by
      refine (checks_any W3 (HX.out.2.1.below hB3)).mono ?_
      rintro e w' ⟨rfl, h⟩
      exact ⟨rfl, hB3.trans (h.mono hB3.size)⟩
    clear hA hB3 hbw hb2 HX HC
    go_upto_region 2 with fail
    rw [← hW3]
    clear hW3
    go_wp2_with fail
    refine HCH.out.mono ?_
    rintro e w4 ⟨rfl, hb4⟩
    have HN : Hid (Below w.heap.size w w4) := hb4
    clear hb4 HCH
    go_wp2_with fail
    go_ret
    exact ⟨rfl, HN.out⟩
  · obtain ⟨W3, hW3⟩ : ∃ W3, W3 = (w2.alloc (.cells #[.int .i64 y.k, .int .i64 y.n, .int .i64 y.t.k, .slice y.t.a y.t.l.length y.t.c, .int .i64 y.f.k, .slice y.f.a y.f.l.length y.f.c, .slice y.a y.l.length y.c] 27)).alloc (.cells #[.int .i64 i.k, .slice i.a i.l.length i.c] 24) := ⟨_, rfl⟩
    have hA : Below w2.heap.size w2 W3 := by rw [hW3]; exact ((Below.refl _ _).alloc (Nat.le_refl _) _).alloc (by simp) _
    have hB3 : Below w.heap.size w W3 := hbw.trans (hA.mono hbw.size)
    have h73 := (HX.out.2.2.2.below hb2).below hA
    obtain ⟨p0, p1, p2, p3, p4, p5, p6⟩ := h73
    simp only [Nat.zero_add] at p0 p1 p2 p3 p4 p5 p6
    have r0 : W3.cell? ⟨w2.heap.size, 0, none⟩ = some (.int .i64 y.k) := by rw [hW3]; simp [go_sem]
    have r1 : W3.cell? ⟨w2.heap.size, 1, none⟩ = some (.int .i64 y.n) := by rw [hW3]; simp [go_sem]
    have r2 : W3.cell? ⟨w2.heap.size, 2, none⟩ = some (.int .i64 y.t.k) := by rw [hW3]; simp [go_sem]
    have r3 : W3.cell? ⟨w2.heap.size, 3, none⟩ = some (.slice y.t.a y.t.l.length y.t.c) := by rw [hW3]; simp [go_sem]
    have r4 : W3.cell? ⟨w2.heap.size, 4, none⟩ = some (.int .i64 y.f.k) := by rw [hW3]; simp [go_sem]
    have r5 : W3.cell? ⟨w2.heap.size, 5, none⟩ = some (.slice y.f.a y.f.l.length y.f.c) := by rw [hW3]; simp [go_sem]
    have r6 : W3.cell? ⟨w2.heap.size, 6, none⟩ = some (.slice y.a y.l.length y.c) := by rw [hW3]; simp [go_sem]
    have u0 : W3.cell? ⟨w2.heap.size + 1, 0, none⟩ = some (.int .i64 i.k) := by rw [hW3]; simp [go_sem]
    have u1 : W3.cell? ⟨w2.heap.size + 1, 1, none⟩ = some (.slice i.a i.l.length i.c) := by rw [hW3]; simp [go_sem]
    obtain ⟨hok, hsz⟩ := goodM_ok hgd
    have hsz' : x.sz ≤ 40 := by rw [x.sz_tm]; exact hsz
    obtain ⟨su, hsu⟩ : ∃ su, sureM x.tm = su := ⟨_, rfl⟩
    have H28 : Hid (Calls Tryd.prog 28 #[.agg #[.int .i64 x.k, .int .i64 x.n, .int .i64 x.t.k, .slice x.t.a x.t.l.length x.t.c, .int .i64 x.f.k, .slice x.f.a x.f.l.length x.f.c, .slice x.a x.l.length x.c]] W3 fun e w' => e = .returned (.bool su) ∧ Below W3.heap.size W3 w') := by
      have := sureTm_any 40 x 0 W3 hsz' hok (HX.out.1.below hB3)
      rw [hsu] at this
      exact this
    have HY : Hid (y.In W3 ∧ i.In W3 ∧ goodT 44 i = true ∧ readS x.tm [] 0 = some (y.tm, i.ty) ∧ okTm x.tm 0 ∧ x.sz ≤ 40 ∧ goodM 0 x.tm = true ∧ sureM x.tm = su ∧ Below w.heap.size w W3 ∧ x.In w ∧ Gp w) := ⟨hyi.below hA, hii.below hA, hi44, hrd, hok, hsz', hgd, hsu, hB3, HX.out.1, HX.out.2.1⟩
    clear hA hB3 hbw hb2 hyi hii hi44 hrd hok hsz hsz' hgd hsu HC HX
    go_upto_region 2 with fail
    rw [← hW3]
    clear hW3
    go_wp2_with fail
    refine H28.out.mono ?_
    rintro e w4 ⟨rfl, hb4⟩
    have hB4 : Below w.heap.size w w4 := HY.out.2.2.2.2.2.2.2.2.1.trans (hb4.mono HY.out.2.2.2.2.2.2.2.2.1.size)
    have HCH : Hid (Calls Tryd.prog 24 #[] w4 fun e w' => e = .returned (.bool true) ∧ Below w4.heap.size w4 w') := checks_any w4 (HY.out.2.2.2.2.2.2.2.2.2.2.below hB4)
    clear H28
    cases su
    · have HB4 : Hid (Below w.heap.size w w4) := hB4
      clear HY hb4 hB4
      go_wp2_with fail
      refine HCH.out.mono ?_
      rintro e w5 ⟨rfl, hb5⟩
      have HN : Hid (Below w.heap.size w w5) := HB4.out.trans (hb5.mono HB4.out.size)
      clear hb5 HB4 HCH
      go_wp2_with fail
      go_ret
      exact ⟨rfl, HN.out⟩
    · have hY := HY.out
      obtain ⟨hyi, hii, hi44, hrd, hok, hsz, hgd, hsu, hB3, hx, hgp⟩ := hY
      obtain ⟨hsy, hyx⟩ := read_sure x.tm [] 0 y.tm i.ty hok (fun u h => by cases h) (fun u h => by cases h) hsu hrd
      have htok := (goodM_tok hgd).1
      have hysz : y.sz ≤ 40 := by rw [y.sz_tm, hyx, ← x.sz_tm]; exact hsz
      have hyt : y.tok := by
        have : goodM 0 y.tm = true := by rw [hyx]; exact hgd
        exact (goodM_tok this).1
      have hcok : y.cok := cok_of 44 (by omega) y fun s hs => by rw [hyx, sites_ok _ _ hok] at hs; cases hs
      have hisz : i.sz ≤ 1000 := by
        have := read_sz x.tm [] 0 y.tm i.ty hok (fun u h => by cases h) hrd
        rw [i.sz_ty]
        rw [x.sz_tm] at hsz
        omega
      have HR : Hid (∀ W', Below W3.heap.size W3 W' → Calls Tryd.prog 19 #[.agg #[.int .i64 y.k, .int .i64 y.n, .int .i64 y.t.k, .slice y.t.a y.t.l.length y.t.c, .int .i64 y.f.k, .slice y.f.a y.f.l.length y.f.c, .slice y.a y.l.length y.c]] W' fun e w' => ∃ (a : Option Addr) (c : Nat), e = .returned (.slice a 0 c) ∧ Below W3.heap.size W3 w') := by
        intro W' hb
        refine (sites_any y W' (hyi.below hb) (by omega) hcok).mono ?_
        rintro e w' ⟨ss, a, c, rfl, _, hm, hb'⟩
        have hl : ss.length = 0 := by
          have := congrArg List.length hm
          rw [hyx, sites_ok _ _ hok] at this
          simpa using this
        exact ⟨a, c, by rw [hl], hb.trans (hb'.mono hb.size)⟩
      have HS : Hid (∀ W', Below W3.heap.size W3 W' → Calls Tryd.prog 29 #[.agg #[.int .i64 i.k, .slice i.a i.l.length i.c]] W' fun e w' => e = .returned (.bool true) ∧ Below W3.heap.size W3 w') := by
        intro W' hb
        have := sure_any i W' (hii.below hb) (Tr.right_good 44 i hi44) (by omega)
        rw [hsy] at this
        refine this.mono ?_
        rintro e w' ⟨rfl, h⟩
        exact ⟨rfl, hb.trans (h.mono hb.size)⟩
      have HT : Hid (∀ W', Below W3.heap.size W3 W' → Calls Tryd.prog 10 #[.agg #[.int .i64 y.k, .int .i64 y.n, .int .i64 y.t.k, .slice y.t.a y.t.l.length y.t.c, .int .i64 y.f.k, .slice y.f.a y.f.l.length y.f.c, .slice y.a y.l.length y.c], .agg #[.int .i64 x.k, .int .i64 x.n, .int .i64 x.t.k, .slice x.t.a x.t.l.length x.t.c, .int .i64 x.f.k, .slice x.f.a x.f.l.length x.f.c, .slice x.a x.l.length x.c]] W' fun e w' => e = .returned (.bool true) ∧ Below W3.heap.size W3 w') := by
        intro W' hb
        refine (sameTm_yes y x W' (hyi.below hb) ((hx.below hB3).below hb) hyx hyt (by omega)).mono ?_
        rintro e w' ⟨rfl, h⟩
        exact ⟨rfl, hb.trans (h.mono hb.size)⟩
      have HRC : Hid (∀ W', Below W3.heap.size W3 W' → W'.cell? ⟨w2.heap.size, 0, none⟩ = some (.int .i64 y.k) ∧ W'.cell? ⟨w2.heap.size, 1, none⟩ = some (.int .i64 y.n) ∧ W'.cell? ⟨w2.heap.size, 2, none⟩ = some (.int .i64 y.t.k) ∧ W'.cell? ⟨w2.heap.size, 3, none⟩ = some (.slice y.t.a y.t.l.length y.t.c) ∧ W'.cell? ⟨w2.heap.size, 4, none⟩ = some (.int .i64 y.f.k) ∧ W'.cell? ⟨w2.heap.size, 5, none⟩ = some (.slice y.f.a y.f.l.length y.f.c) ∧ W'.cell? ⟨w2.heap.size, 6, none⟩ = some (.slice y.a y.l.length y.c)) := fun W' hb => ⟨cell_later hb r0, cell_later hb r1, cell_later hb r2, cell_later hb r3, cell_later hb r4, cell_later hb r5, cell_later hb r6⟩
      have HUC : Hid (∀ W', Below W3.heap.size W3 W' → W'.cell? ⟨w2.heap.size + 1, 0, none⟩ = some (.int .i64 i.k) ∧ W'.cell? ⟨w2.heap.size + 1, 1, none⟩ = some (.slice i.a i.l.length i.c)) := fun W' hb => ⟨cell_later hb u0, cell_later hb u1⟩
      have HPC : Hid (∀ W', Below W3.heap.size W3 W' → W'.cell? ⟨w.heap.size, 0, none⟩ = some (.int .i64 x.k) ∧ W'.cell? ⟨w.heap.size, 1, none⟩ = some (.int .i64 x.n) ∧ W'.cell? ⟨w.heap.size, 2, none⟩ = some (.int .i64 x.t.k) ∧ W'.cell? ⟨w.heap.size, 3, none⟩ = some (.slice x.t.a x.t.l.length x.t.c) ∧ W'.cell? ⟨w.heap.size, 4, none⟩ = some (.int .i64 x.f.k) ∧ W'.cell? ⟨w.heap.size, 5, none⟩ = some (.slice x.f.a x.f.l.length x.f.c) ∧ W'.cell? ⟨w.heap.size, 6, none⟩ = some (.slice x.a x.l.length x.c)) := fun W' hb => ⟨cell_later hb p0, cell_later hb p1, cell_later hb p2, cell_later hb p3, cell_later hb p4, cell_later hb p5, cell_later hb p6⟩
      have HB4 : Hid (Below W3.heap.size W3 w4 ∧ Below w.heap.size w W3) := ⟨hb4, hB3⟩
      clear r0 r1 r2 r3 r4 r5 r6 p0 p1 p2 p3 p4 p5 p6 u0 u1 hyi hii hi44 hrd hok hsz hgd hsu hB3 hx hgp hsy hyx htok hysz hyt hcok hisz HY hb4 hB4
      go_wp2_with fail
      refine HCH.out.mono ?_
      rintro e w5 ⟨rfl, hb5⟩
      have hb35 : Below W3.heap.size W3 w5 := HB4.out.1.trans (hb5.mono HB4.out.1.size)
      obtain ⟨r0, r1, r2, r3, r4, r5, r6⟩ := HRC.out w5 hb35
      have HB5 : Hid (Below W3.heap.size W3 w5) := hb35
      clear hb5 hb35 HCH
      go_wp2_with fail
      refine (HR.out w5 HB5.out).mono ?_
      rintro e w6 ⟨a, c, rfl, hb6⟩
      have HB6 : Hid (Below W3.heap.size W3 w6) := hb6
      obtain ⟨u0, u1⟩ := HUC.out w6 hb6
      clear hb6 r0 r1 r2 r3 r4 r5 r6
      go_wp2_with fail
      refine (HS.out w6 HB6.out).mono ?_
      rintro e w7 ⟨rfl, hb7⟩
      have HB7 : Hid (Below W3.heap.size W3 w7) := hb7
      obtain ⟨r0, r1, r2, r3, r4, r5, r6⟩ := HRC.out w7 hb7
      obtain ⟨p0, p1, p2, p3, p4, p5, p6⟩ := HPC.out w7 hb7
      clear hb7 u0 u1
      go_wp2_with fail
      refine (HT.out w7 HB7.out).mono ?_
      rintro e w8 ⟨rfl, hb8⟩
      have HN : Hid (Below w.heap.size w w8) := HB4.out.2.trans (hb8.mono HB4.out.2.size)
      clear hb8 r0 r1 r2 r3 r4 r5 r6 p0 p1 p2 p3 p4 p5 p6
      go_wp2_with fail
      go_ret
      exact ⟨rfl, HN.out⟩
end Go.Proofs.YtnddkmccagiclaaDoor

/-
  Whatever can be read as data of the type 'Type{Kind int, L []Type}' is a tree that lies in memory.
-/
namespace Go.Proofs.YtnddkmccagiclaaDoor
open Go.ChangeShapes Go.WideShapes Go.ChangeAt Go.RowKit

theorem Tryd.cells24 : Tryd.prog.cellsOf 24 = 2 := by kernel_rfl
theorem Tryd.cells22 : Tryd.prog.cellsOf 22 = 1 := by kernel_rfl
theorem Tryd.cells3 : Tryd.prog.cellsOf 3 = 1 := by kernel_rfl

theorem cell_spot {w : World} {a : Addr} {v : Value} (h : w.cell? a = some v) : a = ⟨a.block, a.off, none⟩ := by
  obtain ⟨b, o, s⟩ := a
  cases s with
  | none => rfl
  | some s =>
    unfold World.cell? at h
    split at h <;> simp at h

theorem cellsTwo {w : World} {base : Nat} {a : Addr} {u v : Value} (h : w.cells? base a 2 = some [u, v]) : w.cell? a = some u ∧ w.cell? (a.add 1) = some v := by
  unfold World.cells? at h
  split at h
  · have h0 : a.add 0 = a := by simp [Addr.add]
    simp only [List.range_succ, List.range_zero, List.nil_append, List.cons_append, List.mapM_cons, List.mapM_nil, h0] at h
    cases hu : w.cell? a with
    | none => simp [hu] at h
    | some u' =>
      cases hv : w.cell? (a.add 1) with
      | none => simp [hu, hv] at h
      | some v' =>
        simp [hu, hv] at h
        exact ⟨by rw [h.1], by rw [h.2]⟩
  · cases h

set_option maxRecDepth 100000 in
theorem tr_of {H : Type} {enc : TypeId × Value → H} {W : World} {base : Nat} {spare : Nat → Bool} {held : Bool} : ∀ (fuel : Nat) (cs : List Value) (x : DataW H × List MemPlace),
    DataW.trod enc Tryd.prog W base spare held fuel 24 cs = some x → ∃ t : Tr, cs = [.int .i64 t.k, .slice t.a t.l.length t.c] ∧ t.In W := by
  intro fuel
  induction fuel using Nat.strongRecOn with
  | _ fuel ih =>
    intro cs x h
    obtain ⟨xs, n, rfl, _, hl, hlen, hf⟩ := DataW.trod_struct Tryd.underlying24 h
    rw [Tryd.cells24] at hl
    match cs, hl with
    | [c0, c1], _ =>
      have h0 := hf 0 { name := "Kind", type := 3, offset := 0, embedded := false, tag := "", pkgPath := "", byteOffset := 0 } rfl
      have h1 := hf 1 { name := "L", type := 22, offset := 1, embedded := false, tag := "", pkgPath := "", byteOffset := 8 } rfl
      simp only [List.drop_zero, List.drop_succ_cons, Tryd.cells3, Tryd.cells22, List.take_succ_cons, List.take_zero] at h0 h1
      match xs, hlen with
      | [y0, y1], _ =>
        simp only [List.getElem?_cons_zero, List.getElem?_cons_succ] at h0 h1
        obtain ⟨k, hc0, _, _⟩ := DataW.trod_int Tryd.underlying3 h0
        simp only [List.cons.injEq, and_true] at hc0
        subst hc0
        rcases DataW.trod_slice Tryd.underlying22 h1 with ⟨hc1, _⟩ | ⟨a, len, cap, elems, rest, m, rfl, hc1, _, _, _, _, hel, hat, _⟩
        · simp only [List.cons.injEq, and_true] at hc1
          subst hc1
          exact ⟨.mk k none 0 [], rfl, Tr.In_nil _ _ _ _⟩
        · simp only [List.cons.injEq, and_true] at hc1
          subst hc1
          have hex : ∀ i, i < len → ∃ t : Tr, W.cells? base (a.add (i * 2)) 2 = some [.int .i64 t.k, .slice t.a t.l.length t.c] ∧ t.In W := by
            intro i hi
            have hi' := hat i hi
            rw [Tryd.cells24, List.getElem?_eq_getElem (by omega)] at hi'
            obtain ⟨cs', hcs, htr⟩ := Option.bind_eq_some_iff.1 hi'
            obtain ⟨t, rfl, hin⟩ := ih m (by omega) cs' _ htr
            exact ⟨t, hcs, hin⟩
          haveI : Inhabited Tr := ⟨.mk 0 none 0 []⟩
          obtain ⟨T, hT⟩ := Go.Deep.choose_lt hex
          refine ⟨.mk k (some a) cap ((List.range len).map T), by simp, ?_⟩
          refine Tr.In_mk.2 ⟨fun j hj => ?_, fun t ht => ?_⟩
          rotate_left
          · obtain ⟨i, hi, rfl⟩ := List.mem_map.1 ht
            exact (hT i (by simpa using hi)).2
          have hj' : j < len := by simpa using hj
          obtain ⟨hz, _⟩ := cellsTwo (hT 0 (by omega)).1
          simp only [Nat.zero_mul] at hz
          have ha0 : a.add 0 = a := by simp [Addr.add]
          rw [ha0] at hz
          have ha := cell_spot hz
          have hc := (hT j hj').1
          obtain ⟨c0, c1⟩ := cellsTwo hc
          have hadd : ∀ q, a.add q = ⟨a.block, a.off + q, none⟩ := by
            intro q
            rw [ha]
            unfold Addr.add
            by_cases hq : q = 0 <;> simp [hq]
          refine ⟨a.block, a.off, by rw [← ha], ?_, ?_⟩
          · rw [hadd] at c0
            simpa using c0
          · rw [Go.Deep.add_add, hadd] at c1
            simp only [List.getElem_map, List.getElem_range, Tr.sl]
            rw [show a.off + j * 2 + 1 = a.off + (j * 2 + 1) by omega]
            exact c1

set_option maxRecDepth 100000 in
/-- An argument of the type is a tree. -/
theorem tr_arg {H : Type} {enc : TypeId × Value → H} {W : World} {base b0 : Nat} {spare : Nat → Bool} {held : Bool} {r : Reach} {v : Value} {d : DataW H} {p : List MemPlace} (hv : Value.okWide Tryd.prog W r b0 24 v) (h : DataW.Trod enc Tryd.prog W base spare held 24 v d p) :
    ∃ t : Tr, v = .agg #[.int .i64 t.k, .slice t.a t.l.length t.c] ∧ t.In W := by
  obtain ⟨cs, rfl, _⟩ := okWide_struct Tryd.underlying24 hv
  obtain ⟨fuel, hf⟩ := h
  obtain ⟨t, ht, hin⟩ := tr_of fuel _ _ hf
  refine ⟨t, ?_, hin⟩
  have : cs.toList = [.int .i64 t.k, .slice t.a t.l.length t.c] := by simpa [Value.cells] using ht
  rw [← this]
end Go.Proofs.YtnddkmccagiclaaDoor

/-
  Whatever can be read as data of the type 'Term' is a term's tree that lies in memory.
-/
namespace Go.Proofs.YtnddkmccagiclaaDoor
open Go.ChangeShapes Go.WideShapes Go.ChangeAt Go.RowKit

theorem Tryd.cells27 : Tryd.prog.cellsOf 27 = 7 := by kernel_rfl
theorem Tryd.cells25 : Tryd.prog.cellsOf 25 = 1 := by kernel_rfl

theorem cells_seven {w : World} {base : Nat} {a : Addr} {l : List Value} (h : w.cells? base a 7 = some l) : ∀ i, i < 7 → w.cell? (a.add i) = l[i]? := by
  unfold World.cells? at h
  split at h
  · intro i hi
    have hm := Lib.mapM_at h i i (by simp [hi])
    obtain ⟨b, hb, hf⟩ := hm
    rw [hb]
    exact hf
  · cases h

theorem int_le {n : Int} (h : (Lit.int .i64 n).wf = true) : n ≤ 9223372036854775807 := (bounds_i64 h).2

set_option maxRecDepth 100000 in
theorem tm_of {H : Type} {enc : TypeId × Value → H} {W : World} {base : Nat} {spare : Nat → Bool} {held : Bool} : ∀ (fuel : Nat) (cs : List Value) (x : DataW H × List MemPlace),
    DataW.trod enc Tryd.prog W base spare held fuel 27 cs = some x → ∃ t : TT, cs = [.int .i64 t.k, .int .i64 t.n, .int .i64 t.t.k, .slice t.t.a t.t.l.length t.t.c, .int .i64 t.f.k, .slice t.f.a t.f.l.length t.f.c, .slice t.a t.l.length t.c] ∧ t.In W ∧ t.nb := by
  intro fuel
  induction fuel using Nat.strongRecOn with
  | _ fuel ih =>
    intro cs x h
    obtain ⟨xs, n, rfl, _, hl, hlen, hf⟩ := DataW.trod_struct Tryd.underlying27 h
    rw [Tryd.cells27] at hl
    match cs, hl with
    | [c0, c1, c2, c3, c4, c5, c6], _ =>
      have h0 := hf 0 { name := "Kind", type := 3, offset := 0, embedded := false, tag := "", pkgPath := "", byteOffset := 0 } rfl
      have h1 := hf 1 { name := "N", type := 3, offset := 1, embedded := false, tag := "", pkgPath := "", byteOffset := 8 } rfl
      have h2 := hf 2 { name := "T", type := 24, offset := 2, embedded := false, tag := "", pkgPath := "", byteOffset := 16 } rfl
      have h3 := hf 3 { name := "From", type := 24, offset := 4, embedded := false, tag := "", pkgPath := "", byteOffset := 48 } rfl
      have h4 := hf 4 { name := "L", type := 25, offset := 6, embedded := false, tag := "", pkgPath := "", byteOffset := 80 } rfl
      simp only [List.drop_zero, List.drop_succ_cons, Tryd.cells3, Tryd.cells24, Tryd.cells25, List.take_succ_cons, List.take_zero] at h0 h1 h2 h3 h4
      match xs, hlen with
      | [y0, y1, y2, y3, y4], _ =>
        simp only [List.getElem?_cons_zero, List.getElem?_cons_succ] at h0 h1 h2 h3 h4
        obtain ⟨k, hc0, _, _⟩ := DataW.trod_int Tryd.underlying3 h0
        obtain ⟨nn, hc1, _, hwf⟩ := DataW.trod_int Tryd.underlying3 h1
        obtain ⟨t, hc2, ht⟩ := tr_of n _ _ h2
        obtain ⟨f, hc4, hfi⟩ := tr_of n _ _ h3
        simp only [List.cons.injEq, and_true] at hc0 hc1 hc2 hc4
        obtain ⟨rfl, rfl⟩ := hc2
        obtain ⟨rfl, rfl⟩ := hc4
        subst hc0 hc1
        rcases DataW.trod_slice Tryd.underlying25 h4 with ⟨hc6, _⟩ | ⟨a, len, cap, elems, rest, m, rfl, hc6, _, _, _, _, hel, hat, _⟩
        · simp only [List.cons.injEq, and_true] at hc6
          subst hc6
          exact ⟨.mk k nn t f none 0 [], rfl, TT.In_mk.2 ⟨ht, hfi, fun j h => absurd h (by simp), fun t h => by cases h⟩, TT.nb_mk.2 ⟨int_le hwf, fun t h => by cases h⟩⟩
        · simp only [List.cons.injEq, and_true] at hc6
          subst hc6
          have hex : ∀ i, i < len → ∃ t : TT, W.cells? base (a.add (i * 7)) 7 = some [.int .i64 t.k, .int .i64 t.n, .int .i64 t.t.k, .slice t.t.a t.t.l.length t.t.c, .int .i64 t.f.k, .slice t.f.a t.f.l.length t.f.c, .slice t.a t.l.length t.c] ∧ t.In W ∧ t.nb := by
            intro i hi
            have hi' := hat i hi
            rw [Tryd.cells27, List.getElem?_eq_getElem (by omega)] at hi'
            obtain ⟨cs', hcs, htr⟩ := Option.bind_eq_some_iff.1 hi'
            obtain ⟨t, rfl, hin⟩ := ih m (by omega) cs' _ htr
            exact ⟨t, hcs, hin⟩
          haveI : Inhabited TT := ⟨tleaf 0 0⟩
          obtain ⟨T, hT⟩ := Go.Deep.choose_lt hex
          refine ⟨.mk k nn t f (some a) cap ((List.range len).map T), by simp, ?_, ?_⟩
          · refine TT.In_mk.2 ⟨ht, hfi, fun j hj => ?_, fun t ht => ?_⟩
            rotate_left
            · obtain ⟨i, hi, rfl⟩ := List.mem_map.1 ht
              exact (hT i (by simpa using hi)).2.1
            have hj' : j < len := by simpa using hj
            have hz := cells_seven (hT 0 (by omega)).1 0 (by omega)
            simp only [Nat.zero_mul, List.getElem?_cons_zero] at hz
            have ha0 : (a.add 0).add 0 = a := by simp [Addr.add]
            rw [ha0] at hz
            have ha := cell_spot hz
            have hc := cells_seven (hT j hj').1
            have hadd : ∀ q, a.add q = ⟨a.block, a.off + q, none⟩ := by
              intro q
              rw [ha]
              unfold Addr.add
              by_cases hq : q = 0 <;> simp [hq]
            have hat7 : ∀ i, i < 7 → W.cell? ⟨a.block, a.off + j * 7 + i, none⟩ = [Value.int .i64 (T j).k, .int .i64 (T j).n, .int .i64 (T j).t.k, .slice (T j).t.a (T j).t.l.length (T j).t.c, .int .i64 (T j).f.k, .slice (T j).f.a (T j).f.l.length (T j).f.c, .slice (T j).a (T j).l.length (T j).c][i]? := by
              intro i hi
              have := hc i hi
              rw [Go.Deep.add_add, hadd] at this
              rw [show a.off + j * 7 + i = a.off + (j * 7 + i) by omega]
              exact this
            refine ⟨a.block, a.off, by rw [← ha], ?_⟩
            simp only [List.getElem_map, List.getElem_range]
            exact ⟨hat7 0 (by omega), hat7 1 (by omega), hat7 2 (by omega), hat7 3 (by omega), hat7 4 (by omega), hat7 5 (by omega), hat7 6 (by omega)⟩
          · refine TT.nb_mk.2 ⟨int_le hwf, fun t ht => ?_⟩
            obtain ⟨i, hi, rfl⟩ := List.mem_map.1 ht
            exact (hT i (by simpa using hi)).2.2

set_option maxRecDepth 100000 in
/-- An argument of the type is a term's tree. -/
theorem tm_arg {H : Type} {enc : TypeId × Value → H} {W : World} {base b0 : Nat} {spare : Nat → Bool} {held : Bool} {r : Reach} {v : Value} {d : DataW H} {p : List MemPlace} (hv : Value.okWide Tryd.prog W r b0 27 v) (h : DataW.Trod enc Tryd.prog W base spare held 27 v d p) :
    ∃ t : TT, v = .agg #[.int .i64 t.k, .int .i64 t.n, .int .i64 t.t.k, .slice t.t.a t.t.l.length t.t.c, .int .i64 t.f.k, .slice t.f.a t.f.l.length t.f.c, .slice t.a t.l.length t.c] ∧ t.In W ∧ t.nb := by
  obtain ⟨cs, rfl, _⟩ := okWide_struct Tryd.underlying27 hv
  obtain ⟨fuel, hf⟩ := h
  obtain ⟨t, ht, hin⟩ := tm_of fuel _ _ hf
  refine ⟨t, ?_, hin⟩
  have : cs.toList = [.int .i64 t.k, .int .i64 t.n, .int .i64 t.t.k, .slice t.t.a t.t.l.length t.t.c, .int .i64 t.f.k, .slice t.f.a t.f.l.length t.f.c, .slice t.a t.l.length t.c] := by simpa [Value.cells] using ht
  rw [← this]
end Go.Proofs.YtnddkmccagiclaaDoor

/-
  What the row's list of one package-level variable gives: the table of parts holds what it was laid with.
-/
namespace Go.Proofs.YtnddkmccagiclaaDoor
open Go.ChangeShapes Go.RowKit

/-- The head of the list. -/
theorem gp_head {n : String} {d : DataW Unit} {r : List (String × DataW Unit)} {W : World} {g t : Nat} (h : laidMet Tryd.prog ((n, d) :: r) W) (hg : Tryd.prog.globalNamed n = some g) (ht : (Tryd.prog.globals[g]?).map (·.type) = some t) :
    ∃ (cs : Array Value) (fuel : Nat) (p : List MemPlace), Vc W g cs ∧ DataW.trod (fun _ => ()) Tryd.prog W 0 (fun _ => true) false fuel t cs.toList = some (d, p) := by
  obtain ⟨ps, ⟨g', t', cs, fuel, p, q, hg', ht', hvar, hd, _, _⟩, _⟩ := h
  obtain rfl := Option.some.inj (hg.symm.trans hg')
  obtain rfl := Option.some.inj (ht.symm.trans ht')
  refine ⟨cs, fuel, p, ?_, hd⟩
  unfold World.var? at hvar
  rw [hg] at hvar
  simp only [Option.bind_some] at hvar
  split at hvar
  · rename_i cs' t fr hh
    cases hvar
    exact ⟨t, fr, hh⟩
  · cases hvar

theorem gp_cells122 : Tryd.prog.cellsOf 122 = 10 := by kernel_rfl
theorem gp_cells3 : Tryd.prog.cellsOf 3 = 1 := by kernel_rfl

theorem gp_of {r : List (String × DataW Unit)} {W : World} (h : laidMet Tryd.prog (("chaperone/term.parts", Rows.laid_chaperone_term_parts) :: r) W) : Gp W := by
  obtain ⟨cs, fuel, p, hv, ht⟩ := gp_head h (g := 2) (t := 122) (by kernel_rfl) (by kernel_rfl)
  have e := Lib.cells_of_tab (zs := [0, 0, 0, 0, 2, 2, 3, 1, 2, 1]) Tryd.underlying122 Tryd.underlying3 gp_cells3 gp_cells122 ht
  refine ⟨?_⟩
  have e2 : cs = #[.int .i64 0, .int .i64 0, .int .i64 0, .int .i64 0, .int .i64 2, .int .i64 2, .int .i64 3, .int .i64 1, .int .i64 2, .int .i64 1] := by
    cases cs
    simpa using e
  rw [← e2]
  exact hv
end Go.Proofs.YtnddkmccagiclaaDoor
