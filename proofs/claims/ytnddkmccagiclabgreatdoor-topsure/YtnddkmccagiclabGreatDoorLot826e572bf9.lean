/-
  What the call of chaperonekeep.sure answers at a good term.
-/
import Derived.Test.YtnddkmccagiclabGreatDoorLot004ab7e8c4
import Derived.Deep.DeepCutAuto
import Derived.Test.YtnddkmccagiclabGreatDoorLotabe26c0bfc
import Derived.Test.YtnddkmccagiclabGreatDoorLot4dc51dc1b2
import Derived.Test.YtnddkmccagiclabGreatDoorLot9ce1b4e4db
import Derived.Test.YtnddkmccagiclabGreatDoorRows
import Derived.Test.YtnddkmccagiclabGreatDoorLot42e30419a3
import Derived.ProofKit
import Derived.Deep.Slices
import Derived.Test.YtnddkmccagiclabGreatDoorLotabeb265aa8
import Derived.OpenShut
import Derived.Lib.LaidTab
namespace Go.Proofs.YtnddkmccagiclabGreatDoor
open Go.RowKit
theorem okTm_parts {x : TT} {ins : Nat} (h : okTm x.tm ins) : goodT 4 x.t = true ∧ x.l.length ≤ 3 ∧ ∀ y, y ∈ x.l → okTm y.tm (if x.k = 7 then ins + 1 else ins) := by
  obtain ⟨k, n, t, f, a, cc, l⟩ := x
  rw [TT.tm_mk] at h
  obtain ⟨h0, h1⟩ := okTm_mk.1 h
  obtain ⟨k1, k9, hl, _, ht, _, hn⟩ := okTop_all h0
  refine ⟨by rw [goodT_eq]; exact ht, by have := parts_le k; simp at hl ⊢; omega, fun y hy => h1 y.tm (List.mem_map.2 ⟨y, hy, rfl⟩)⟩
theorem sureM_tt (x : TT) : sureM x.tm = (!(tells x.k && !(sureY x.t.ty)) && x.l.all fun y => sureM y.tm) := by
  obtain ⟨k, n, t, f, a, cc, l⟩ := x
  rw [TT.tm_mk, sureM_mk, List.all_map]
  cases tells k <;> cases sureY t.ty <;> simp [Function.comp_def]
set_option maxRecDepth 20000 in
set_option maxHeartbeats 4000000 in
theorem sureTm_step (x : TT) (ins : Nat) (w : World) (hx : x.In w) (hok : okTm x.tm ins)
    (ih : ∀ y, y ∈ x.l → ∀ (ins' : Nat) (W : World), okTm y.tm ins' → y.In W → Calls Tryz.prog 15 #[.agg #[.int .i64 y.k, .int .i64 y.n, .int .i64 y.t.k, .slice y.t.a y.t.l.length y.t.c, .int .i64 y.f.k, .slice y.f.a y.f.l.length y.f.c, .slice y.a y.l.length y.c]] W fun e w' => e = .returned (.bool (sureM y.tm)) ∧ Below W.heap.size W w') :
    Calls Tryz.prog 15 #[.agg #[.int .i64 x.k, .int .i64 x.n, .int .i64 x.t.k, .slice x.t.a x.t.l.length x.t.c, .int .i64 x.f.k, .slice x.f.a x.f.l.length x.f.c, .slice x.a x.l.length x.c]] w fun e w' => e = .returned (.bool (sureM x.tm)) ∧ Below w.heap.size w w' := by
  obtain ⟨hg4, hl3, hpo⟩ := okTm_parts hok
  obtain ⟨W1, hW1⟩ : ∃ W1, W1 = w.alloc (.cells #[.int .i64 x.k, .int .i64 x.n, .int .i64 x.t.k, .slice x.t.a x.t.l.length x.t.c, .int .i64 x.f.k, .slice x.f.a x.f.l.length x.f.c, .slice x.a x.l.length x.c] 27) := ⟨_, rfl⟩
  have hb1 : Below w.heap.size w W1 := by rw [hW1]; exact (Below.refl _ _).alloc (Nat.le_refl _) _
  have h7 : At7 W1 w.heap.size 0 x := by rw [hW1]; exact At7.new w x
  have hgf := good_facts (n := 4) (by omega) hg4
  have HSU : Hid (Calls Tryz.prog 31 #[.agg #[.int .i64 x.t.k, .slice x.t.a x.t.l.length x.t.c]] W1 fun e w' => e = .returned (.bool (sureY x.t.ty)) ∧ Below W1.heap.size W1 w') :=
    sure_any x.t W1 (hx.t.below hb1) hgf.1 (by have := Tr.sz_good 4 x.t hg4; omega)
  have HX : Hid (x.In w ∧ Below w.heap.size w W1 ∧ At7 W1 w.heap.size 0 x ∧ (∀ y, y ∈ x.l → okTm y.tm (if x.k = 7 then ins + 1 else ins))) := ⟨hx, hb1, h7, hpo⟩
  have HIH : Hid (∀ y, y ∈ x.l → ∀ (ins' : Nat) (W : World), okTm y.tm ins' → y.In W → Calls Tryz.prog 15 #[.agg #[.int .i64 y.k, .int .i64 y.n, .int .i64 y.t.k, .slice y.t.a y.t.l.length y.t.c, .int .i64 y.f.k, .slice y.f.a y.f.l.length y.f.c, .slice y.a y.l.length y.c]] W fun e w' => e = .returned (.bool (sureM y.tm)) ∧ Below W.heap.size W w') := ih
  obtain ⟨p0, p1, p2, p3, p4, p5, p6⟩ := h7
  simp only [Nat.zero_add] at p0 p1 p2 p3 p4 p5 p6
  obtain ⟨sy, hsy⟩ : ∃ sy, sureY x.t.ty = sy := ⟨_, rfl⟩
  rw [hsy] at HSU
  have HSY : Hid (sureY x.t.ty = sy) := hsy
  clear hx hok ih hg4 hpo hb1 hgf hsy
  go_enter Tryz.func15, Tryz.ntmps15
  go_upto_region 1 with fail
  rw [← hW1]
  clear hW1
  go_cut [18] (fun s18 wx => s18 = .bool (tells x.k && !sy) ∧ Hid (Below W1.heap.size W1 wx))
  case first =>
    by_cases k7 : x.k = 7
    · have e7 : (x.k == 7) = true := by simpa using k7
      have HT : Hid (tells x.k = true) := by simp [Hid, tells, k7]
      clear k7
      go_wp2_with fail
      refine HSU.out.mono ?_
      rintro e w2 ⟨rfl, hb2⟩
      have HB : Hid (Below W1.heap.size W1 w2) := hb2
      clear hb2
      go_wp2_with fail
      go_meet
      case rel => exact ⟨by rw [HT.out]; rfl, HB⟩
    · have e7 : (x.k == 7) = false := by simpa using k7
      by_cases k9 : x.k = 9
      · have e9 : (x.k == 9) = true := by simpa using k9
        have HT : Hid (tells x.k = true) := by simp [Hid, tells, k9]
        clear k7 k9
        go_wp2_with fail
        refine HSU.out.mono ?_
        rintro e w2 ⟨rfl, hb2⟩
        have HB : Hid (Below W1.heap.size W1 w2) := hb2
        clear hb2
        go_wp2_with fail
        go_meet
        case rel => exact ⟨by rw [HT.out]; rfl, HB⟩
      · have e9 : (x.k == 9) = false := by simpa using k9
        have HT : Hid (tells x.k = false) := by simp [Hid, tells, k7, k9]
        clear k7 k9
        go_wp2_with fail
        go_meet
        case rel => exact ⟨by rw [HT.out]; rfl, Below.refl _ _⟩
  case rest =>
  obtain ⟨rfl, HB⟩ := hcut
  obtain ⟨tb, htb⟩ : ∃ tb, (tells x.k && !sy) = tb := ⟨_, rfl⟩
  have HTB : Hid ((tells x.k && !(sureY x.t.ty)) = tb) := by rw [HSY.out]; exact htb
  rw [htb]
  have hbw : Below w.heap.size w wc := HX.out.2.1.trans (HB.out.mono HX.out.2.1.size)
  have q6 := (HX.out.2.2.1.below HB.out).c6
  simp only [Nat.zero_add] at q6
  have HBW : Hid (Below w.heap.size w wc) := hbw
  clear htb hbw p0 p1 p2 p3 p4 p5 p6 HSU HSY HB
  cases tb
  · go_wp2_with fail
    clear q6
    go_loopg [22] x.l.length (fun g i wr => ∃ (j : Nat), g + j = x.l.length ∧ i = .int .i64 (j : Int) ∧ Hid (Below w.heap.size w wr ∧ ∀ q (h : q < x.l.length), q < j → sureM x.l[q].tm = true))
    case atStart => exact ⟨0, by omega, rfl, HBW.out, fun q _ h => absurd h (by omega)⟩
    case round =>
      obtain ⟨j, hj, rfl, HQ⟩ := hrel
      by_cases hlt : j < x.l.length
      · obtain ⟨b, o, ea, hX, hyi⟩ := HX.out.1.part j hlt
        have hym : x.l[j] ∈ x.l := List.getElem_mem hlt
        obtain ⟨y, hye⟩ : ∃ y, x.l[j] = y := ⟨_, rfl⟩
        rw [hye] at hX hyi hym
        obtain ⟨d0, d1, d2, d3, d4, d5, d6⟩ := hX.below HQ.out.1
        have i1 : (j : Int) < (x.l.length : Int) := by omega
        have i0 : (0 : Int) ≤ (j : Int) := by omega
        have HEA : Hid (x.a = some ⟨b, o, none⟩) := ea
        rw [ea]
        have hbA : Below wr.heap.size wr (wr.alloc (.cells #[.int .i64 y.k, .int .i64 y.n, .int .i64 y.t.k, .slice y.t.a y.t.l.length y.t.c, .int .i64 y.f.k, .slice y.f.a y.f.l.length y.f.c, .slice y.a y.l.length y.c] 27)) := (Below.refl _ _).alloc (Nat.le_refl _) _
        have hbE := HQ.out.1.trans (hbA.mono HQ.out.1.size)
        obtain ⟨r, hr⟩ : ∃ r, sureM y.tm = r := ⟨_, rfl⟩
        have HC : Hid (Calls Tryz.prog 15 #[.agg #[.int .i64 y.k, .int .i64 y.n, .int .i64 y.t.k, .slice y.t.a y.t.l.length y.t.c, .int .i64 y.f.k, .slice y.f.a y.f.l.length y.f.c, .slice y.a y.l.length y.c]] (wr.alloc (.cells #[.int .i64 y.k, .int .i64 y.n, .int .i64 y.t.k, .slice y.t.a y.t.l.length y.t.c, .int .i64 y.f.k, .slice y.f.a y.f.l.length y.f.c, .slice y.a y.l.length y.c] 27)) fun e w' => e = .returned (.bool r) ∧ Below (wr.alloc (.cells #[.int .i64 y.k, .int .i64 y.n, .int .i64 y.t.k, .slice y.t.a y.t.l.length y.t.c, .int .i64 y.f.k, .slice y.f.a y.f.l.length y.f.c, .slice y.a y.l.length y.c] 27)).heap.size (wr.alloc (.cells #[.int .i64 y.k, .int .i64 y.n, .int .i64 y.t.k, .slice y.t.a y.t.l.length y.t.c, .int .i64 y.f.k, .slice y.f.a y.f.l.length y.f.c, .slice y.a y.l.length y.c] 27)) w') := by
          have := HIH.out y hym _ _ (HX.out.2.2.2 y hym) (hyi.below hbE)
          rw [hr] at this
          exact this
        have HE : Hid (Below w.heap.size w (wr.alloc (.cells #[.int .i64 y.k, .int .i64 y.n, .int .i64 y.t.k, .slice y.t.a y.t.l.length y.t.c, .int .i64 y.f.k, .slice y.f.a y.f.l.length y.f.c, .slice y.a y.l.length y.c] 27)) ∧ x.l[j] = y ∧ sureM y.tm = r ∧ y ∈ x.l) := ⟨hbE, hye, hr, hym⟩
        clear ea hX hyi hym hye hbA hbE hr
        go_wp2_with fail
        refine HC.out.mono ?_
        rintro e w2 ⟨rfl, hb2⟩
        have hbw2 : Below w.heap.size w w2 := HE.out.1.trans (hb2.mono HE.out.1.size)
        clear hb2 HC d0 d1 d2 d3 d4 d5 d6
        cases r
        · have HN : Hid (sureM x.tm = false ∧ Below w.heap.size w w2) := by
            refine ⟨?_, hbw2⟩
            rw [sureM_tt]
            have : (x.l.all fun y => sureM y.tm) = false := by
              rw [List.all_eq_false]
              exact ⟨y, HE.out.2.2.2, by rw [HE.out.2.2.1]; simp⟩
            rw [this, Bool.and_false]
          clear hbw2 HQ HE
          go_wp2_with fail
          go_ret
          exact ⟨ret_bool HN.out.1.symm, HN.out.2⟩
        · have HN : Hid (Below w.heap.size w w2 ∧ ∀ q (h : q < x.l.length), q < j + 1 → sureM x.l[q].tm = true) := by
            refine ⟨hbw2, fun q h hq => ?_⟩
            by_cases e : q = j
            · subst e; rw [HE.out.2.1]; exact HE.out.2.2.1
            · exact HQ.out.2 q h (by omega)
          clear hbw2 HQ HE
          go_wp2_with fail
          rw [← HEA.out]
          go_roundg (x.l.length - (j + 1))
          case measure => omega
          case rel => exact ⟨j + 1, by omega, by go_num, HN⟩
      · have HN : Hid (sureM x.tm = true ∧ Below w.heap.size w wr) := by
          refine ⟨?_, HQ.out.1⟩
          rw [sureM_tt, HTB.out]
          simp only [Bool.not_false, Bool.true_and, List.all_eq_true]
          intro y hy
          obtain ⟨q, hq, rfl⟩ := List.getElem_of_mem hy
          exact HQ.out.2 q hq (by omega)
        clear HQ
        go_wp2_with fail
        go_ret
        exact ⟨ret_bool HN.out.1.symm, HN.out.2⟩
  · have HN : Hid (sureM x.tm = false ∧ Below w.heap.size w wc) := ⟨by rw [sureM_tt, HTB.out]; rfl, HBW.out⟩
    clear HBW q6
    go_wp2_with fail
    go_ret
    exact ⟨ret_bool HN.out.1.symm, HN.out.2⟩
theorem sureTm_any : ∀ (m : Nat) (x : TT) (ins : Nat) (w : World), x.sz ≤ m → okTm x.tm ins → x.In w → Calls Tryz.prog 15 #[.agg #[.int .i64 x.k, .int .i64 x.n, .int .i64 x.t.k, .slice x.t.a x.t.l.length x.t.c, .int .i64 x.f.k, .slice x.f.a x.f.l.length x.f.c, .slice x.a x.l.length x.c]] w fun e w' => e = .returned (.bool (sureM x.tm)) ∧ Below w.heap.size w w' := by
  intro m
  induction m with
  | zero => intro x ins w h _ _; have := x.sz_pos; omega
  | succ m ih =>
    intro x ins w h hok hx
    refine sureTm_step x ins w hx hok fun y hy ins' W hok' hyi => ih y ins' W ?_ hok' hyi
    have h1 := x.sz_eq
    have h2 : y.sz ≤ (x.l.map TT.sz).sum := by
      have := sz_mem (x.l.map TT.tm) y.tm (List.mem_map.2 ⟨y, hy, rfl⟩)
      rw [sz_map, ← y.sz_tm] at this
      exact this
    omega
end Go.Proofs.YtnddkmccagiclabGreatDoor

/-
  Who is to blame: plain mathematics; no program in it.
-/
namespace Go.Proofs.YtnddkmccagiclabGreatDoor
/-- Every blame in a cast is of this kind. -/
def labC (P : Int → Bool → Prop) : Option Ca → Prop
  | none => True
  | some ⟨_, w, _, e, g, a, _⟩ => (w.k = 4 → P w.n w.b) ∧ (e.k = 4 → P e.n e.b) ∧ labC P g ∧ labC P a
  termination_by c => SizeOf.sizeOf c
  decreasing_by
    · simp; omega
    · simp; omega
theorem labC_none {P : Int → Bool → Prop} : labC P none := by rw [labC]; trivial
theorem labC_some {P : Int → Bool → Prop} {o : Bool} {w : Out} {k : Int} {e : Out} {g a : Option Ca} {h : Bool} : labC P (some ⟨o, w, k, e, g, a, h⟩) ↔ (w.k = 4 → P w.n w.b) ∧ (e.k = 4 → P e.n e.b) ∧ labC P g ∧ labC P a := by
  rw [labC]
theorem labC_mono : ∀ (n : Nat) (P Q : Int → Bool → Prop) (c : Option Ca), SizeOf.sizeOf c ≤ n → (∀ n b, P n b → Q n b) → labC P c → labC Q c
  | 0, _, _, c, h, _, _ => by cases c <;> simp at h
  | n + 1, P, Q, none, _, _, _ => labC_none
  | n + 1, P, Q, some ⟨o, w, k, e, g, a, h⟩, hn, hPQ, hc => by
    simp at hn
    obtain ⟨h1, h2, h3, h4⟩ := labC_some.1 hc
    exact labC_some.2 ⟨fun h => hPQ _ _ (h1 h), fun h => hPQ _ _ (h2 h), labC_mono n P Q g (by omega) hPQ h3, labC_mono n P Q a (by omega) hPQ h4⟩
theorem labC.mono {P Q : Int → Bool → Prop} {c : Option Ca} (hc : labC P c) (h : ∀ n b, P n b → Q n b) : labC Q c := labC_mono _ P Q c (Nat.le_refl _) h hc
theorem labC_then {P : Int → Bool → Prop} : ∀ (n : Nat) (c d : Option Ca), SizeOf.sizeOf c + SizeOf.sizeOf d ≤ n → labC P c → labC P d → labC P (thenC c d)
  | 0, c, d, h, _, _ => by cases c <;> simp at h
  | n + 1, none, d, _, _, h => by rw [thenC_nil]; exact h
  | n + 1, some c, none, _, h, _ => by rw [thenC_one]; exact h
  | n + 1, some ⟨o, w, k, e, g, a, h⟩, some ⟨o', w', k', e', g', a', h'⟩, hn, hc, hd => by
    simp at hn
    obtain ⟨h1, h2, h3, h4⟩ := labC_some.1 hc
    obtain ⟨d1, d2, d3, d4⟩ := labC_some.1 hd
    rw [thenC_two]
    split
    · split
      · exact labC_some.2 ⟨h1, d2, labC_then n g' g (by omega) d3 h3, labC_then n a a' (by omega) h4 d4⟩
      · exact labC_some.2 ⟨h1, d1, labC_none, labC_none⟩
    · exact hc
theorem labC_thens {P : Int → Bool → Prop} {c d : Option Ca} (hc : labC P c) (hd : labC P d) : labC P (thenC c d) := labC_then _ c d (Nat.le_refl _) hc hd
/-- Who may be blamed by a cast: not what it comes from, if that says more; not who uses it, if it says less. -/
def mayB (f t : Ty) (o : Out) (n : Int) (b : Bool) : Prop := n = o.n ∧ (b = o.b → relY escFiner f t = false) ∧ (b ≠ o.b → relY escFiner t f = false)
theorem finerA_any {t : Ty} (l : List Ty) (h : t.k ≠ 0) : relY escFiner ⟨0, l⟩ t = false := by
  cases t
  rw [relY_mk]
  simp only at h
  have : ((0 : Int) == _) = false := beq_eq_false_iff_ne.2 (Ne.symm h)
  simp [escFiner, this, h]
theorem finer_ground {n : Nat} {t : Ty} (h : goodY n t = true) (_h0 : t.k ≠ 0) : relY escFiner t (groundY t) = true := by
  cases n with
  | zero => simp [goodY] at h
  | succ n =>
    rcases goodY_cases h with ⟨k, rfl, hk⟩ | ⟨x, y, rfl, _, _⟩
    · have : groundY ⟨k, []⟩ = ⟨k, []⟩ := by simp only [groundY]; rw [if_neg (by omega)]
      rw [this, relY_mk]
      simp [relL]
    · show relY escFiner ⟨3, [x, y]⟩ ⟨3, [anyY, anyY]⟩ = true
      rw [two _ _ _ _ _ rfl, anyY, any_coarser, any_coarser]; rfl
theorem labC_new : ∀ (m n : Nat) (f t : Ty) (o : Out), goodY n f = true → goodY n t = true → labC (mayB f t o) (newC m f t o)
  | 0, _, _, _, _, _, _ => labC_none
  | m + 1, 0, f, t, o, hf, _ => by simp [goodY] at hf
  | m + 1, n + 1, f, t, o, hf, ht => by
    have hs : ∀ (P : Int → Bool → Prop) (c : Option Ca) (k : Int), labC P c → labC P (some (someC c k)) := fun P c k h => by
      cases c with
      | none => exact labC_some.2 ⟨fun h => (by simp [out0] at h), fun h => (by simp [out0] at h), labC_none, labC_none⟩
      | some c => exact h
    have hgood : ∀ u : Ty, goodY (n + 1) u = true → goodY (n + 1) (groundY u) = true := fun u hu => by
      rcases goodY_cases hu with ⟨k, rfl, hk⟩ | ⟨x, y, rfl, gx, _⟩
      · have : groundY ⟨k, []⟩ = ⟨k, []⟩ := by simp only [groundY]; rw [if_neg (by omega)]
        rw [this]; exact hu
      · show goodY (n + 1) ⟨3, [anyY, anyY]⟩ = true
        cases n with
        | zero => simp [goodY] at gx
        | succ n => simp [goodY, anyY]
    rw [newC]
    split
    · exact labC_none
    rename_i hsame
    split
    · rename_i h3
      rcases goodY_cases hf with ⟨k, rfl, hk⟩ | ⟨f1, f2, rfl, gf1, gf2⟩
      · simp only at h3; omega
      rcases goodY_cases ht with ⟨k, rfl, hk⟩ | ⟨t1, t2, rfl, gt1, gt2⟩
      · simp only at h3; omega
      refine labC_some.2 ⟨fun h => (by simp [out0] at h), fun h => (by simp [out0] at h), ?_, ?_⟩
      · refine (labC_new m n t1 f1 (turnO o) gt1 gf1).mono fun i b hb => ?_
        obtain ⟨h1, h2, h4⟩ := hb
        refine ⟨h1, fun e => ?_, fun e => ?_⟩
        · rw [two _ _ _ _ _ rfl, h4 (by simp only [turnO]; rw [e]; cases o.b <;> simp)]; rfl
        · rw [two _ _ _ _ _ rfl, h2 (by simp only [turnO]; cases hb : o.b <;> cases b <;> simp_all)]; rfl
      · refine (labC_new m n f2 t2 o gf2 gt2).mono fun i b hb => ?_
        obtain ⟨h1, h2, h4⟩ := hb
        refine ⟨h1, fun e => ?_, fun e => ?_⟩
        · rw [two _ _ _ _ _ rfl, h2 e, Bool.and_false]
        · rw [two _ _ _ _ _ rfl, h4 e, Bool.and_false]
    rename_i h3
    split
    · rename_i h0
      have ef : f.k ≠ 0 := fun e => hsame (by
        rcases goodY_cases hf with ⟨k, rfl, hk⟩ | ⟨f1, f2, rfl, _, _⟩
        · rcases goodY_cases ht with ⟨k', rfl, hk'⟩ | ⟨t1, t2, rfl, _, _⟩
          · simp only at e h0; subst e h0; rw [relY_mk]; rfl
          · simp at h0
        · simp at e)
      have et : t = ⟨0, t.l⟩ := by cases t; simp only at h0; rw [h0]
      have ih := hs _ _ f.k (labC_new m (n + 1) f (groundY f) o hf (hgood f hf))
      cases hc : someC (newC m f (groundY f) o) f.k with
      | mk o' w k e g a h =>
      rw [hc] at ih
      refine labC.mono (P := mayB f (groundY f) o) (labC_some.2 (labC_some.1 ih)) fun i b hb => ?_
      obtain ⟨h1, h2, h4⟩ := hb
      refine ⟨h1, fun e => ?_, fun e => ?_⟩
      · have := h2 e
        rw [finer_ground hf ef] at this; cases this
      · rw [et]; exact finerA_any _ ef
    rename_i h0
    split
    · rename_i f0
      have ef : f = ⟨0, f.l⟩ := by cases f; simp only at f0; rw [f0]
      have ih := hs _ _ t.k (labC_new m (n + 1) (groundY t) t o (hgood t ht) ht)
      cases hc : someC (newC m (groundY t) t o) t.k with
      | mk o' w k e g a h =>
      rw [hc] at ih
      obtain ⟨_, i2, i3, i4⟩ := labC_some.1 ih
      have up : ∀ i b, mayB (groundY t) t o i b → mayB f t o i b := fun i b hb => by
        obtain ⟨h1, h2, h4⟩ := hb
        refine ⟨h1, fun _ => by rw [ef]; exact finerA_any _ h0, fun e => ?_⟩
        have := h4 e
        rw [finer_ground ht h0] at this; cases this
      exact labC_some.2 ⟨fun _ => ⟨rfl, fun _ => by rw [ef]; exact finerA_any _ h0, fun e => absurd rfl e⟩, fun h => up _ _ (i2 h), i3.mono up, i4.mono up⟩
    · exact labC_some.2 ⟨fun h => (by simp [out0] at h), fun h => (by simp [stuckO] at h), labC_none, labC_none⟩
/-- Every blame that comes of a term's casts is of this kind. -/
def labM (P : Int → Bool → Prop) (x : Tm) : Prop := ∀ s, s ∈ sitesM x → labC P (newC 100 s.2.1 s.2.2 (blameO s.1))
theorem labM.part {P : Int → Bool → Prop} {x : Tm} (h : labM P x) (j : Nat) : labM P (x.at j) := by
  by_cases hj : j < x.l.length
  · intro s hs
    refine h s ?_
    have hm := Tm.at_mem hj
    obtain ⟨k, n, t, f, l⟩ := x
    rw [sitesM_mk, List.mem_append]
    exact .inr (List.mem_flatMap.2 ⟨_, hm, hs⟩)
  · intro s hs
    have : x.at j = tm0 := by
      unfold Tm.at
      rw [List.getD_eq_getElem?_getD, List.getElem?_eq_none (by omega)]; rfl
    rw [this] at hs
    simp [tm0, sitesM_mk] at hs
theorem labM.cast {P : Int → Bool → Prop} {x : Tm} (h : labM P x) (hk : x.k = 10) : labC P (newC 100 x.f x.t (blameO x.n)) := by
  refine h (x.n, x.f, x.t) ?_
  obtain ⟨k, n, t, f, l⟩ := x
  simp only at hk
  subst hk
  rw [sitesM_mk]
  simp
/-- Every blame that can come of a value is of this kind. -/
def labV (P : Int → Bool → Prop) : Val → Prop
  | ⟨_, _, b, e, i, g, a, _⟩ => labM P b ∧ labC P g ∧ labC P a ∧ (∀ x, x ∈ e → labV P x) ∧ (∀ x, x ∈ i → labV P x)
theorem labV_mk {P : Int → Bool → Prop} {k n : Int} {b : Tm} {e i : List Val} {g a : Option Ca} {s : Int} : labV P ⟨k, n, b, e, i, g, a, s⟩ ↔ labM P b ∧ labC P g ∧ labC P a ∧ (∀ x, x ∈ e → labV P x) ∧ (∀ x, x ∈ i → labV P x) := by
  rw [labV]
theorem labV.body {P : Int → Bool → Prop} {v : Val} (h : labV P v) : labM P v.body := by cases v; exact (labV_mk.1 h).1
theorem labV.given {P : Int → Bool → Prop} {v : Val} (h : labV P v) : labC P v.given := by cases v; exact (labV_mk.1 h).2.1
theorem labV.answer {P : Int → Bool → Prop} {v : Val} (h : labV P v) : labC P v.answer := by cases v; exact (labV_mk.1 h).2.2.1
theorem labV.env {P : Int → Bool → Prop} {v : Val} (h : labV P v) : ∀ x, x ∈ v.env → labV P x := by cases v; exact (labV_mk.1 h).2.2.2.1
theorem labM_tm0 {P : Int → Bool → Prop} : labM P tm0 := fun s hs => by simp [tm0, sitesM_mk] at hs
theorem labV_num {P : Int → Bool → Prop} (n : Int) : labV P (numV n) := labV_mk.2 ⟨labM_tm0, labC_none, labC_none, fun x hx => (by cases hx), fun x hx => (by cases hx)⟩
theorem labV_truth {P : Int → Bool → Prop} (n : Int) : labV P (truthV n) := labV_mk.2 ⟨labM_tm0, labC_none, labC_none, fun x hx => (by cases hx), fun x hx => (by cases hx)⟩
theorem labV_fun {P : Int → Bool → Prop} {b : Tm} {e : List Val} (h : labM P b) (he : ∀ x, x ∈ e → labV P x) : labV P (funV b e) := labV_mk.2 ⟨h, labC_none, labC_none, he, fun x hx => (by cases hx)⟩
theorem labV_chap {P : Int → Bool → Prop} {v : Val} {g a : Option Ca} (h : labV P v) (hg : labC P g) (ha : labC P a) : labV P (chapV v g a) := labV_mk.2 ⟨labM_tm0, hg, ha, fun x hx => (by cases hx), fun x hx => (by simp at hx; subst hx; exact h)⟩
theorem labV_known {P : Int → Bool → Prop} {v : Val} {k : Int} (h : labV P v) : labV P (knownV v k) := labV_mk.2 ⟨labM_tm0, labC_none, labC_none, fun x hx => (by cases hx), fun x hx => (by simp at hx; subst hx; exact h)⟩
theorem labV.core {P : Int → Bool → Prop} {v : Val} (h : labV P v) : labV P v.core := by
  cases v with
  | mk k n b e i g a s =>
  unfold Val.core
  cases i with
  | nil => exact labV_num 0
  | cons x r => exact (labV_mk.1 h).2.2.2.2 x (by simp)
theorem labV_of {P : Int → Bool → Prop} {c : Ca} {v : Val} (hc : labC P (some c)) (h : labV P v) : labV P (ofC c v) := by
  obtain ⟨o, w, k, e, g, a, hh⟩ := c
  obtain ⟨_, _, hg, ha⟩ := labC_some.1 hc
  have h1 : labV P (if o = true then v.core else v) := by
    split
    · exact h.core
    · exact h
  unfold ofC
  simp only
  generalize (if o = true then v.core else v) = u at h1
  have h2 : labV P (if g.isSome = true ∨ a.isSome = true then accompV u ⟨o, w, k, e, g, a, hh⟩ else u) := by
    split
    · unfold accompV
      split
      · exact labV_chap h1.core (labC_thens hg h1.given) (labC_thens h1.answer ha)
      · exact labV_chap h1 hg ha
    · exact h1
  split
  · exact labV_known h2
  · exact h2
def labT (P : Int → Bool → Prop) (t : Task) : Prop := labM P t.x ∧ (∀ v, v ∈ t.s → labV P v) ∧ labC P t.c
structure labS (P : Int → Bool → Prop) (s : St) : Prop where
  ts : ∀ t, t ∈ s.ts → labT P t
  vs : ∀ v, v ∈ s.vs → labV P v
  ended : s.ended.k = 4 → P s.ended.n s.ended.b
theorem labT_look {P : Int → Bool → Prop} {x : Tm} {e : List Val} (h : labM P x) (he : ∀ v, v ∈ e → labV P v) : labT P (lookT x e) := ⟨h, he, labC_none⟩
theorem labT_choose {P : Int → Bool → Prop} {x : Tm} {e : List Val} (h : labM P x) (he : ∀ v, v ∈ e → labV P v) : labT P (chooseT x e) := ⟨h, he, labC_none⟩
theorem labT_do {P : Int → Bool → Prop} (d : Int) : labT P (doT d) := ⟨labM_tm0, fun v hv => (by cases hv), labC_none⟩
theorem labT_change {P : Int → Bool → Prop} {c : Option Ca} (h : labC P c) : labT P (changeT c) := ⟨labM_tm0, fun v hv => (by cases hv), h⟩
theorem labS.push {P : Int → Bool → Prop} {s : St} {v : Val} (h : labS P s) (hv : labV P v) : labS P (s.push v) :=
  ⟨h.ts, fun u hu => (List.mem_cons.1 hu).elim (fun e => e ▸ hv) (h.vs u), h.ended⟩
theorem labS.plan {P : Int → Bool → Prop} {s : St} {t : Task} (h : labS P s) (ht : labT P t) : labS P (s.plan t) :=
  ⟨fun u hu => (List.mem_cons.1 hu).elim (fun e => e ▸ ht) (h.ts u), h.vs, h.ended⟩
theorem labS.stop {P : Int → Bool → Prop} {s : St} {o : Out} (h : labS P s) (ho : o.k = 4 → P o.n o.b) : labS P (s.stop o) := ⟨h.ts, h.vs, ho⟩
theorem look_lab {P : Int → Bool → Prop} {s : St} {x : Tm} {e : List Val} (h : labS P s) (hx : labM P x) (he : ∀ v, v ∈ e → labV P v) : labS P (lookS s x e) := by
  have both : ∀ d, labS P (bothS s x e d) := fun d => ((h.plan (labT_do d)).plan (labT_look (hx.part 1) he)).plan (labT_look (hx.part 0) he)
  unfold lookS
  split
  · split
    · rename_i v hv; exact h.push (he v (List.mem_of_getElem? hv))
    · exact h.stop fun h => by simp [stuckO] at h
  split
  · exact h.push (labV_num _)
  split
  · exact h.push (labV_truth _)
  split
  · exact h.push (labV_fun (hx.part 0) he)
  split
  · exact h.plan (labT_look (hx.part 0) he)
  split
  · rename_i hk; exact (h.plan (labT_change (hx.cast hk))).plan (labT_look (hx.part 0) he)
  split
  · exact (h.plan (labT_choose hx he)).plan (labT_look (hx.part 0) he)
  split
  · exact both 2
  split
  · exact both 3
  · exact both 5
theorem call_lab {P : Int → Bool → Prop} {s : St} {u v : Val} (h : labS P s) (hu : labV P u) (hv : labV P v) : labS P (callS s u v) := by
  unfold callS
  split
  · unfold enterS
    split
    · exact h.stop fun h => by simp [fuelO] at h
    · refine ⟨fun t ht => ?_, h.vs, h.ended⟩
      rcases List.mem_cons.1 ht with rfl | ht
      · refine labT_look hu.body fun x hx => ?_
        rcases List.mem_cons.1 hx with rfl | hx
        · exact hv
        · exact hu.env x hx
      · exact h.ts t ht
  · split
    · refine ⟨fun t ht => ?_, fun x hx => ?_, h.ended⟩
      · rcases List.mem_cons.1 ht with rfl | ht
        · exact labT_change hu.given
        rcases List.mem_cons.1 ht with rfl | ht
        · exact labT_do 7
        rcases List.mem_cons.1 ht with rfl | ht
        · exact labT_change hu.answer
        · exact h.ts t ht
      · rcases List.mem_cons.1 hx with rfl | hx
        · exact hv
        rcases List.mem_cons.1 hx with rfl | hx
        · exact hu.core
        · exact h.vs x hx
    · exact h.stop fun h => by simp [stuckO] at h
theorem change_lab {P : Int → Bool → Prop} {s : St} {c : Option Ca} {v : Val} (h : labS P s) (hc : labC P c) (hv : labV P v) : labS P (changeS s c v) := by
  unfold changeS
  cases c with
  | none => exact h.push hv
  | some c =>
    simp only
    have hw : (c.wrong.k = 4 → P c.wrong.n c.wrong.b) ∧ (c.ends.k = 4 → P c.ends.n c.ends.b) := by
      cases c; have := labC_some.1 hc; exact ⟨this.1, this.2.1⟩
    split
    · exact h.stop fun h => by simp [stuckO] at h
    split
    · exact h.stop hw.1
    split
    · exact h.stop hw.2
    · exact h.push (labV_of hc hv)
theorem step_lab {P : Int → Bool → Prop} {s : St} (h : labS P s) : labS P (stepS s) := by
  obtain ⟨ts, vs, calls, fuel, ended⟩ := s
  unfold stepS
  split
  · rename_i h0
    cases ts with
    | nil => exact h
    | cons t ts =>
      simp only
      have ht := h.ts t (by simp)
      have hts : ∀ u, u ∈ ts → labT P u := fun u hu => h.ts u (by simp [hu])
      have hr : ∀ (q : List Val), (∀ v, v ∈ q → labV P v) → labS P ⟨ts, q, calls, fuel, ended⟩ := fun q hq => ⟨hts, hq, h.ended⟩
      have hend : ∀ (p : Prop) [Decidable p] (q : List Val), (∀ v, v ∈ q → labV P v) → labS P ⟨ts, q, calls, fuel, if p then ended else stuckO⟩ := fun p _ q hq => by
        refine ⟨hts, hq, ?_⟩
        simp only
        split
        · exact h.ended
        · intro h; simp [stuckO] at h
      unfold doS
      split
      · exact look_lab (hr vs h.vs) ht.1 ht.2.1
      · cases vs with
        | nil => exact hr [] h.vs
        | cons v vs =>
          have hv := h.vs v (by simp)
          have hvs : ∀ u, u ∈ vs → labV P u := fun u hu => h.vs u (by simp [hu])
          simp only
          split
          · exact change_lab (hr vs hvs) ht.2.2 hv
          split
          · split
            · exact (hr vs hvs).plan (labT_look (ht.1.part _) ht.2.1)
            · exact (hr vs hvs).stop fun h => by simp [stuckO] at h
          cases vs with
          | nil => exact hr [v] h.vs
          | cons u vs =>
            have hu := h.vs u (by simp)
            have hvs : ∀ u, u ∈ vs → labV P u := fun u hu => h.vs u (by simp [hu])
            simp only
            split
            · refine hend _ _ fun x hx => ?_
              rcases List.mem_cons.1 hx with rfl | hx
              · exact labV_num _
              · exact hvs x hx
            split
            · refine hend _ _ fun x hx => ?_
              rcases List.mem_cons.1 hx with rfl | hx
              · exact labV_truth _
              · exact hvs x hx
            · exact call_lab (hr vs hvs) hu hv
  · exact h
theorem run_lab {P : Int → Bool → Prop} {s : St} (h : labS P s) : ∀ n, labS P (runN n s)
  | 0 => h
  | n + 1 => by rw [runN_succ]; exact step_lab (run_lab h n)
theorem told_not (v : Val) : (toldV v).k ≠ 4 := by
  unfold toldV
  simp only
  generalize (if v.k = 5 then v.core else v) = u
  split
  · simp
  · split <;> simp
/-- WHO IS TO BLAME. -/
theorem blamed {y : Tm} {fuel : Nat} (hs : ∀ s, s ∈ sitesM y → ∃ m, goodY m s.2.1 = true ∧ goodY m s.2.2 = true) (h : (runM y fuel).k = 4) :
    ∃ s, s ∈ sitesM y ∧ s.1 = (runM y fuel).n ∧ ((runM y fuel).b = false → relY escFiner s.2.1 s.2.2 = false) ∧ ((runM y fuel).b = true → relY escFiner s.2.2 s.2.1 = false) := by
  have h0 : labS (fun n b => ∃ s, s ∈ sitesM y ∧ s.1 = n ∧ (b = false → relY escFiner s.2.1 s.2.2 = false) ∧ (b = true → relY escFiner s.2.2 s.2.1 = false)) (st0 y fuel) := by
    refine ⟨fun t ht => ?_, fun v hv => (by cases hv), fun h => (by simp [st0, out0] at h)⟩
    rcases List.mem_cons.1 ht with rfl | ht
    · refine labT_look (fun s hm => ?_) fun v hv => by cases hv
      obtain ⟨m, g1, g2⟩ := hs s hm
      refine (labC_new 100 m s.2.1 s.2.2 (blameO s.1) g1 g2).mono fun n b hb => ?_
      exact ⟨s, hm, hb.1.symm, fun e => hb.2.1 e, fun e => hb.2.2 (by rw [e]; simp [blameO])⟩
    · cases ht
  have h1 := (run_lab h0 bigN).ended
  rw [runM_eq] at h ⊢
  unfold finO at h ⊢
  split at h
  · exact absurd h (told_not _)
  · rename_i hn
    rw [if_neg hn]
    exact h1 h
end Go.Proofs.YtnddkmccagiclabGreatDoor

/-
  What the call of chaperonetop.TopSure answers: true.
-/
namespace Go.Proofs.YtnddkmccagiclabGreatDoor
open Go.RowKit
/-- Where Any is nowhere nobody is blamed. -/
theorem sure_ways (x : Tm) (f : Int) : ((runR x f).2 != 0) = true ∨ ((runR x f).2 = 0 ∧ okTm x 0 ∧ x.sz ≤ 40 ∧ (sureM x = false ∨ (sureM x = true ∧ (bareR x f).2 = 0 ∧ (runR x f).1.k ≠ 4 ∧ (bareR x f).1 = (runR x f).1))) := by
  rcases runR_cases x f with ⟨_, h⟩ | ⟨h0, hgd, f1, f2, y, i, hrd, hrun⟩
  · exact .inl h
  · obtain ⟨hok, hsz⟩ := goodM_ok hgd
    refine .inr ⟨h0, hok, hsz, ?_⟩
    by_cases hs : sureM x = true
    · have hb : bareR x f = (runM (eraseM x) f.toNat, 0) := by unfold bareR; rw [if_pos hgd, if_neg (by omega)]
      have hb1 : (bareR x f).1 = runM (eraseM x) f.toNat := by rw [hb]
      have hb2 : (bareR x f).2 = 0 := by rw [hb]
      obtain ⟨sy, zy, ty⟩ := check_run hgd hrd
      obtain ⟨_, rfl⟩ := read_sure x [] 0 y i hok (fun u hu => by cases hu) (fun u hu => by cases hu) hs hrd
      have hno := sites_ok y 0 hok
      have h4 : (runM y f.toNat).k ≠ 4 := fun h => by
        obtain ⟨s, hm, _⟩ := blamed (fun s hs => by rw [hno] at hs; cases hs) h
        rw [hno] at hm
        cases hm
      have := runM_erase sy zy (by omega : f.toNat ≤ 100) ty
      rw [← hrun] at h4
      rw [← hrun, ← hb1] at this
      exact .inr ⟨hs, hb2, h4, this.resolve_left h4⟩
    · exact .inl (by simpa using hs)
set_option maxRecDepth 20000 in
set_option maxHeartbeats 8000000 in
/-- chaperonetop.TopSure. -/
theorem topSure_any (x : TT) (f : Int) (w : World) (hg : Gl w) (hx : x.In w) (hnb : x.nb) :
    Calls Tryz.prog 4 #[.agg #[.int .i64 x.k, .int .i64 x.n, .int .i64 x.t.k, .slice x.t.a x.t.l.length x.t.c, .int .i64 x.f.k, .slice x.f.a x.f.l.length x.f.c, .slice x.a x.l.length x.c], .int .i64 f] w fun e w' => e = .returned (.bool true) ∧ Below w.heap.size w w' := by
  obtain ⟨W1, hW1⟩ : ∃ W, W = w.alloc (.cells #[.int .i64 x.k, .int .i64 x.n, .int .i64 x.t.k, .slice x.t.a x.t.l.length x.t.c, .int .i64 x.f.k, .slice x.f.a x.f.l.length x.f.c, .slice x.a x.l.length x.c] 27) := ⟨_, rfl⟩
  have hb1 : Below w.heap.size w W1 := by rw [hW1]; exact (Below.refl _ _).alloc (Nat.le_refl _) _
  have h7 : At7 W1 w.heap.size 0 x := by constructor <;> (rw [hW1]; simp [go_sem])
  have HR : Hid (Calls Tryz.prog 11 #[.agg #[.int .i64 x.k, .int .i64 x.n, .int .i64 x.t.k, .slice x.t.a x.t.l.length x.t.c, .int .i64 x.f.k, .slice x.f.a x.f.l.length x.f.c, .slice x.a x.l.length x.c], .int .i64 f] W1 (OutPost (runR x.tm f) W1)) := runFn_any x f W1 (hg.below hb1).gp (hx.below hb1) hnb
  have HX : Hid (∀ W, Below W1.heap.size W1 W → At7 W w.heap.size 0 x ∧ x.In W ∧ Gl W ∧ Below w.heap.size w W) := fun W hW => ⟨h7.below hW, (hx.below hb1).below hW, (hg.below hb1).below hW, hb1.trans (hW.mono hb1.size)⟩
  have HNB : Hid x.nb := hnb
  have HA : Hid (∀ W, Below W1.heap.size W1 W → Calls Tryz.prog 12 #[] W fun e w' => e = .returned (.bool true) ∧ Hid (Below w.heap.size w w')) := fun W hW => by
    refine (alive_any W (HX.out W hW).2.2.1).mono ?_
    rintro e w' ⟨rfl, hb⟩
    exact ⟨rfl, (HX.out W hW).2.2.2.trans (hb.mono (HX.out W hW).2.2.2.size)⟩
  obtain ⟨r, hr⟩ : ∃ r, r = runR x.tm f := ⟨_, rfl⟩
  obtain ⟨q, hq⟩ : ∃ q, q = bareR x.tm f := ⟨_, rfl⟩
  have hcases := sure_ways x.tm f
  rw [← hr] at HR hcases
  rw [← hq] at hcases
  clear hr hb1 h7 hg hx hnb
  go_enter Tryz.func4, Tryz.ntmps4
  go_wp2_with fail
  rw [← hW1]
  clear hW1
  refine HR.out.mono ?_
  rintro e w2 ⟨rfl, hb2⟩
  obtain ⟨W3, hW3⟩ : ∃ W, W = w2.alloc (.cells #[.int .i64 r.1.k, .int .i64 r.1.n, .bool r.1.b] 29) := ⟨_, rfl⟩
  have hA2 : Below w2.heap.size w2 W3 := by rw [hW3]; exact (Below.refl _ _).alloc (Nat.le_refl _) _
  have hA : Below W1.heap.size W1 W3 := hb2.trans (hA2.mono hb2.size)
  have p0 : W3.cell? ⟨w2.heap.size, 0, none⟩ = some (.int .i64 r.1.k) := by rw [hW3]; simp [go_sem]
  have p1 : W3.cell? ⟨w2.heap.size, 1, none⟩ = some (.int .i64 r.1.n) := by rw [hW3]; simp [go_sem]
  have p2 : W3.cell? ⟨w2.heap.size, 2, none⟩ = some (.bool r.1.b) := by rw [hW3]; simp [go_sem]
  have lw2 : w2.heap.size < W3.heap.size := World.block_lt_of_cell? _ _ p0
  have HB3 : Hid (Below W1.heap.size W1 W3) := hA
  clear hb2 hA2 hA HR
  have HQ : Hid (Calls Tryz.prog 14 #[.agg #[.int .i64 x.k, .int .i64 x.n, .int .i64 x.t.k, .slice x.t.a x.t.l.length x.t.c, .int .i64 x.f.k, .slice x.f.a x.f.l.length x.f.c, .slice x.a x.l.length x.c], .int .i64 f] W3 fun e w' => e = .returned (.tuple #[.agg #[.int .i64 q.1.k, .int .i64 q.1.n, .bool q.1.b], .int .i64 q.2]) ∧ Below W1.heap.size W1 w' ∧ Below W3.heap.size W3 w') := by
    obtain ⟨_, xi, xg, _⟩ := HX.out W3 HB3.out
    refine (bareFn_any x f W3 xg.gp xi HNB.out).mono ?_
    rintro e w' ⟨he, hb⟩
    rw [hq]
    exact ⟨he, HB3.out.trans (hb.mono HB3.out.size), hb⟩
  obtain ⟨a0, a1, a2, a3, a4, a5, a6⟩ := (HX.out W3 HB3.out).1
  simp only [Nat.zero_add] at a0 a1 a2 a3 a4 a5 a6
  have lx : w.heap.size < W3.heap.size := World.block_lt_of_cell? _ _ a0
  clear hq
  go_upto_region 2 with fail
  rw [← hW3]
  clear hW3
  go_wp2_with fail
  refine HQ.out.mono ?_
  rintro e w4 ⟨rfl, hb4, hb34⟩
  obtain ⟨W5, hW5⟩ : ∃ W, W = w4.alloc (.cells #[.int .i64 q.1.k, .int .i64 q.1.n, .bool q.1.b] 29) := ⟨_, rfl⟩
  have hA5 : Below w4.heap.size w4 W5 := by rw [hW5]; exact (Below.refl _ _).alloc (Nat.le_refl _) _
  have h35 : Below W3.heap.size W3 W5 := hb34.trans (hA5.mono hb34.size)
  have h15 : Below W1.heap.size W1 W5 := hb4.trans (hA5.mono hb4.size)
  have s0 := cell_later h35 p0
  have s1 := cell_later h35 p1
  have s2 := cell_later h35 p2
  have ls : w2.heap.size < W5.heap.size := World.block_lt_of_cell? _ _ s0
  have t0 : W5.cell? ⟨w4.heap.size, 0, none⟩ = some (.int .i64 q.1.k) := by rw [hW5]; simp [go_sem]
  have t1 : W5.cell? ⟨w4.heap.size, 1, none⟩ = some (.int .i64 q.1.n) := by rw [hW5]; simp [go_sem]
  have t2 : W5.cell? ⟨w4.heap.size, 2, none⟩ = some (.bool q.1.b) := by rw [hW5]; simp [go_sem]
  have lt : w4.heap.size < W5.heap.size := World.block_lt_of_cell? _ _ t0
  have HAl : Hid (Calls Tryz.prog 12 #[] W5 fun e w' => e = .returned (.bool true) ∧ Hid (Below w.heap.size w w')) := HA.out W5 h15
  have HS : Hid (okTm x.tm 0 → x.tm.sz ≤ 40 → Calls Tryz.prog 15 #[.agg #[.int .i64 x.k, .int .i64 x.n, .int .i64 x.t.k, .slice x.t.a x.t.l.length x.t.c, .int .i64 x.f.k, .slice x.f.a x.f.l.length x.f.c, .slice x.a x.l.length x.c]] W5 fun e w' => e = .returned (.bool (sureM x.tm)) ∧ Hid (Below W1.heap.size W1 w') ∧ Below W5.heap.size W5 w') := fun ho hz => by
    refine (sureTm_any x.sz x 0 W5 (Nat.le_refl _) ho (HX.out W5 h15).2.1).mono ?_
    rintro e w' ⟨he, hb⟩
    exact ⟨he, h15.trans (hb.mono h15.size), hb⟩
  obtain ⟨b0, b1, b2, b3, b4, b5, b6⟩ := (HX.out W5 h15).1
  simp only [Nat.zero_add] at b0 b1 b2 b3 b4 b5 b6
  have lb : w.heap.size < W5.heap.size := World.block_lt_of_cell? _ _ b0
  clear hb4 hb34 hA5 h35 h15 HX HNB HQ HB3 a0 a1 a2 a3 a4 a5 a6 lx p0 p1 p2 lw2
  obtain ⟨o, r2⟩ := r
  obtain ⟨b, q2⟩ := q
  simp only at hcases s0 s1 s2 t0 t1 t2 hW5
  rcases hcases with he | ⟨rfl, hok, hsz, hs | ⟨hs, rfl, h4, rfl⟩⟩
  · clear HS HA
    go_upto_region 3 with fail
    rw [← hW5]
    clear hW5
    go_wp2_with fail
    refine HAl.out.mono ?_
    rintro e w6 ⟨rfl, HB⟩
    go_wp2_with fail
    go_ret
    exact ⟨rfl, HB.out⟩
  · have HSS := HS.out hok hsz
    rw [hs] at HSS
    have HS5 : Hid (Calls Tryz.prog 15 #[.agg #[.int .i64 x.k, .int .i64 x.n, .int .i64 x.t.k, .slice x.t.a x.t.l.length x.t.c, .int .i64 x.f.k, .slice x.f.a x.f.l.length x.f.c, .slice x.a x.l.length x.c]] W5 fun e w' => e = .returned (.bool false) ∧ Hid (Below W1.heap.size W1 w') ∧ Below W5.heap.size W5 w') := HSS
    clear HSS HS hok hsz HAl hs
    go_upto_region 3 with fail
    rw [← hW5]
    clear hW5
    go_wp2_with fail
    refine HS5.out.mono ?_
    rintro e w6 ⟨rfl, hb6, hb56⟩
    have HAl : Hid (Calls Tryz.prog 12 #[] w6 fun e w' => e = .returned (.bool true) ∧ Hid (Below w.heap.size w w')) := HA.out w6 hb6.out
    clear hb56 hb6 HS5 HA
    go_wp2_with fail
    refine HAl.out.mono ?_
    rintro e w8 ⟨rfl, HB⟩
    go_wp2_with fail
    go_ret
    exact ⟨rfl, HB.out⟩
  · have HSS := HS.out hok hsz
    rw [hs] at HSS
    have HS5 : Hid (Calls Tryz.prog 15 #[.agg #[.int .i64 x.k, .int .i64 x.n, .int .i64 x.t.k, .slice x.t.a x.t.l.length x.t.c, .int .i64 x.f.k, .slice x.f.a x.f.l.length x.f.c, .slice x.a x.l.length x.c]] W5 fun e w' => e = .returned (.bool true) ∧ Hid (Below W1.heap.size W1 w') ∧ Below W5.heap.size W5 w') := HSS
    clear HSS HS hok hsz HAl hs
    have e4 : (b.k != 4) = true := by simpa using h4
    clear h4
    go_upto_region 3 with fail
    rw [← hW5]
    clear hW5
    go_wp2_with fail
    refine HS5.out.mono ?_
    rintro e w6 ⟨rfl, hb6, hb56⟩
    have HAl : Hid (Calls Tryz.prog 12 #[] w6 fun e w' => e = .returned (.bool true) ∧ Hid (Below w.heap.size w w')) := HA.out w6 hb6.out
    have u0 := cell_later hb56 s0
    have u1 := cell_later hb56 s1
    have u2 := cell_later hb56 s2
    have v0 := cell_later hb56 t0
    have v1 := cell_later hb56 t1
    have v2 := cell_later hb56 t2
    have lu : w2.heap.size < w6.heap.size := World.block_lt_of_cell? _ _ u0
    have lv : w4.heap.size < w6.heap.size := World.block_lt_of_cell? _ _ v0
    clear hb56 hb6 HS5 HA s0 s1 s2 t0 t1 t2 ls lt b0 b1 b2 b3 b4 b5 b6 lb
    go_wp2_with fail
    refine HAl.out.mono ?_
    rintro e w8 ⟨rfl, HB⟩
    go_wp2_with fail
    go_ret
    exact ⟨rfl, HB.out⟩
end Go.Proofs.YtnddkmccagiclabGreatDoor

/-
  Whatever can be read as data of the type 'Type{Kind int, L []Type}' is a tree that lies in memory.
-/
namespace Go.Proofs.YtnddkmccagiclabGreatDoor
open Go.ChangeShapes Go.WideShapes Go.ChangeAt Go.RowKit
theorem Tryz.cells24 : Tryz.prog.cellsOf 24 = 2 := by kernel_rfl
theorem Tryz.cells22 : Tryz.prog.cellsOf 22 = 1 := by kernel_rfl
theorem Tryz.cells3 : Tryz.prog.cellsOf 3 = 1 := by kernel_rfl
theorem cell_spot {w : World} {a : Addr} {v : Value} (h : w.cell? a = some v) : a = ⟨a.block, a.off, none⟩ := by
  obtain ⟨b, o, s⟩ := a
  cases s with
  | none => rfl
  | some s =>
    unfold World.cell? at h
    split at h <;> simp at h
theorem cellsTwo {w : World} {base : Nat} {a : Addr} {u v : Value} (h : w.cells? base a 2 = some [u, v]) : w.cell? a = some u ∧ w.cell? (a.add 1) = some v := by
  unfold World.cells? at h
  split at h
  · have h0 : a.add 0 = a := by simp [Addr.add]
    simp only [List.range_succ, List.range_zero, List.nil_append, List.cons_append, List.mapM_cons, List.mapM_nil, h0] at h
    cases hu : w.cell? a with
    | none => simp [hu] at h
    | some u' =>
      cases hv : w.cell? (a.add 1) with
      | none => simp [hu, hv] at h
      | some v' =>
        simp [hu, hv] at h
        exact ⟨by rw [h.1], by rw [h.2]⟩
  · cases h
set_option maxRecDepth 100000 in
theorem tr_of {H : Type} {enc : TypeId × Value → H} {W : World} {base : Nat} {spare : Nat → Bool} {held : Bool} : ∀ (fuel : Nat) (cs : List Value) (x : DataW H × List MemPlace),
    DataW.trod enc Tryz.prog W base spare held fuel 24 cs = some x → ∃ t : Tr, cs = [.int .i64 t.k, .slice t.a t.l.length t.c] ∧ t.In W := by
  intro fuel
  induction fuel using Nat.strongRecOn with
  | _ fuel ih =>
    intro cs x h
    obtain ⟨xs, n, rfl, _, hl, hlen, hf⟩ := DataW.trod_struct Tryz.underlying24 h
    rw [Tryz.cells24] at hl
    match cs, hl with
    | [c0, c1], _ =>
      have h0 := hf 0 { name := "Kind", type := 3, offset := 0, embedded := false, tag := "", pkgPath := "", byteOffset := 0 } rfl
      have h1 := hf 1 { name := "L", type := 22, offset := 1, embedded := false, tag := "", pkgPath := "", byteOffset := 8 } rfl
      simp only [List.drop_zero, List.drop_succ_cons, Tryz.cells3, Tryz.cells22, List.take_succ_cons, List.take_zero] at h0 h1
      match xs, hlen with
      | [y0, y1], _ =>
        simp only [List.getElem?_cons_zero, List.getElem?_cons_succ] at h0 h1
        obtain ⟨k, hc0, _, _⟩ := DataW.trod_int Tryz.underlying3 h0
        simp only [List.cons.injEq, and_true] at hc0
        subst hc0
        rcases DataW.trod_slice Tryz.underlying22 h1 with ⟨hc1, _⟩ | ⟨a, len, cap, elems, rest, m, rfl, hc1, _, _, _, _, hel, hat, _⟩
        · simp only [List.cons.injEq, and_true] at hc1
          subst hc1
          exact ⟨.mk k none 0 [], rfl, Tr.In_nil _ _ _ _⟩
        · simp only [List.cons.injEq, and_true] at hc1
          subst hc1
          have hex : ∀ i, i < len → ∃ t : Tr, W.cells? base (a.add (i * 2)) 2 = some [.int .i64 t.k, .slice t.a t.l.length t.c] ∧ t.In W := by
            intro i hi
            have hi' := hat i hi
            rw [Tryz.cells24, List.getElem?_eq_getElem (by omega)] at hi'
            obtain ⟨cs', hcs, htr⟩ := Option.bind_eq_some_iff.1 hi'
            obtain ⟨t, rfl, hin⟩ := ih m (by omega) cs' _ htr
            exact ⟨t, hcs, hin⟩
          haveI : Inhabited Tr := ⟨.mk 0 none 0 []⟩
          obtain ⟨T, hT⟩ := Go.Deep.choose_lt hex
          refine ⟨.mk k (some a) cap ((List.range len).map T), by simp, ?_⟩
          refine Tr.In_mk.2 ⟨fun j hj => ?_, fun t ht => ?_⟩
          rotate_left
          · obtain ⟨i, hi, rfl⟩ := List.mem_map.1 ht
            exact (hT i (by simpa using hi)).2
          have hj' : j < len := by simpa using hj
          obtain ⟨hz, _⟩ := cellsTwo (hT 0 (by omega)).1
          simp only [Nat.zero_mul] at hz
          have ha0 : a.add 0 = a := by simp [Addr.add]
          rw [ha0] at hz
          have ha := cell_spot hz
          have hc := (hT j hj').1
          obtain ⟨c0, c1⟩ := cellsTwo hc
          have hadd : ∀ q, a.add q = ⟨a.block, a.off + q, none⟩ := by
            intro q
            rw [ha]
            unfold Addr.add
            by_cases hq : q = 0 <;> simp [hq]
          refine ⟨a.block, a.off, by rw [← ha], ?_, ?_⟩
          · rw [hadd] at c0
            simpa using c0
          · rw [Go.Deep.add_add, hadd] at c1
            simp only [List.getElem_map, List.getElem_range, Tr.sl]
            rw [show a.off + j * 2 + 1 = a.off + (j * 2 + 1) by omega]
            exact c1
end Go.Proofs.YtnddkmccagiclabGreatDoor

/-
  Whatever can be read as data of the type 'Term' is a term's tree that lies in memory.
-/
namespace Go.Proofs.YtnddkmccagiclabGreatDoor
open Go.ChangeShapes Go.WideShapes Go.ChangeAt Go.RowKit
theorem Tryz.cells27 : Tryz.prog.cellsOf 27 = 7 := by kernel_rfl
theorem Tryz.cells25 : Tryz.prog.cellsOf 25 = 1 := by kernel_rfl
theorem cells_seven {w : World} {base : Nat} {a : Addr} {l : List Value} (h : w.cells? base a 7 = some l) : ∀ i, i < 7 → w.cell? (a.add i) = l[i]? := by
  unfold World.cells? at h
  split at h
  · intro i hi
    have hm := Lib.mapM_at h i i (by simp [hi])
    obtain ⟨b, hb, hf⟩ := hm
    rw [hb]
    exact hf
  · cases h
theorem int_le {n : Int} (h : (Lit.int .i64 n).wf = true) : n ≤ 9223372036854775807 := (bounds_i64 h).2
set_option maxRecDepth 100000 in
theorem tm_of {H : Type} {enc : TypeId × Value → H} {W : World} {base : Nat} {spare : Nat → Bool} {held : Bool} : ∀ (fuel : Nat) (cs : List Value) (x : DataW H × List MemPlace),
    DataW.trod enc Tryz.prog W base spare held fuel 27 cs = some x → ∃ t : TT, cs = [.int .i64 t.k, .int .i64 t.n, .int .i64 t.t.k, .slice t.t.a t.t.l.length t.t.c, .int .i64 t.f.k, .slice t.f.a t.f.l.length t.f.c, .slice t.a t.l.length t.c] ∧ t.In W ∧ t.nb := by
  intro fuel
  induction fuel using Nat.strongRecOn with
  | _ fuel ih =>
    intro cs x h
    obtain ⟨xs, n, rfl, _, hl, hlen, hf⟩ := DataW.trod_struct Tryz.underlying27 h
    rw [Tryz.cells27] at hl
    match cs, hl with
    | [c0, c1, c2, c3, c4, c5, c6], _ =>
      have h0 := hf 0 { name := "Kind", type := 3, offset := 0, embedded := false, tag := "", pkgPath := "", byteOffset := 0 } rfl
      have h1 := hf 1 { name := "N", type := 3, offset := 1, embedded := false, tag := "", pkgPath := "", byteOffset := 8 } rfl
      have h2 := hf 2 { name := "T", type := 24, offset := 2, embedded := false, tag := "", pkgPath := "", byteOffset := 16 } rfl
      have h3 := hf 3 { name := "From", type := 24, offset := 4, embedded := false, tag := "", pkgPath := "", byteOffset := 48 } rfl
      have h4 := hf 4 { name := "L", type := 25, offset := 6, embedded := false, tag := "", pkgPath := "", byteOffset := 80 } rfl
      simp only [List.drop_zero, List.drop_succ_cons, Tryz.cells3, Tryz.cells24, Tryz.cells25, List.take_succ_cons, List.take_zero] at h0 h1 h2 h3 h4
      match xs, hlen with
      | [y0, y1, y2, y3, y4], _ =>
        simp only [List.getElem?_cons_zero, List.getElem?_cons_succ] at h0 h1 h2 h3 h4
        obtain ⟨k, hc0, _, _⟩ := DataW.trod_int Tryz.underlying3 h0
        obtain ⟨nn, hc1, _, hwf⟩ := DataW.trod_int Tryz.underlying3 h1
        obtain ⟨t, hc2, ht⟩ := tr_of n _ _ h2
        obtain ⟨f, hc4, hfi⟩ := tr_of n _ _ h3
        simp only [List.cons.injEq, and_true] at hc0 hc1 hc2 hc4
        obtain ⟨rfl, rfl⟩ := hc2
        obtain ⟨rfl, rfl⟩ := hc4
        subst hc0 hc1
        rcases DataW.trod_slice Tryz.underlying25 h4 with ⟨hc6, _⟩ | ⟨a, len, cap, elems, rest, m, rfl, hc6, _, _, _, _, hel, hat, _⟩
        · simp only [List.cons.injEq, and_true] at hc6
          subst hc6
          exact ⟨.mk k nn t f none 0 [], rfl, TT.In_mk.2 ⟨ht, hfi, fun j h => absurd h (by simp), fun t h => by cases h⟩, TT.nb_mk.2 ⟨int_le hwf, fun t h => by cases h⟩⟩
        · simp only [List.cons.injEq, and_true] at hc6
          subst hc6
          have hex : ∀ i, i < len → ∃ t : TT, W.cells? base (a.add (i * 7)) 7 = some [.int .i64 t.k, .int .i64 t.n, .int .i64 t.t.k, .slice t.t.a t.t.l.length t.t.c, .int .i64 t.f.k, .slice t.f.a t.f.l.length t.f.c, .slice t.a t.l.length t.c] ∧ t.In W ∧ t.nb := by
            intro i hi
            have hi' := hat i hi
            rw [Tryz.cells27, List.getElem?_eq_getElem (by omega)] at hi'
            obtain ⟨cs', hcs, htr⟩ := Option.bind_eq_some_iff.1 hi'
            obtain ⟨t, rfl, hin⟩ := ih m (by omega) cs' _ htr
            exact ⟨t, hcs, hin⟩
          haveI : Inhabited TT := ⟨tleaf 0 0⟩
          obtain ⟨T, hT⟩ := Go.Deep.choose_lt hex
          refine ⟨.mk k nn t f (some a) cap ((List.range len).map T), by simp, ?_, ?_⟩
          · refine TT.In_mk.2 ⟨ht, hfi, fun j hj => ?_, fun t ht => ?_⟩
            rotate_left
            · obtain ⟨i, hi, rfl⟩ := List.mem_map.1 ht
              exact (hT i (by simpa using hi)).2.1
            have hj' : j < len := by simpa using hj
            have hz := cells_seven (hT 0 (by omega)).1 0 (by omega)
            simp only [Nat.zero_mul, List.getElem?_cons_zero] at hz
            have ha0 : (a.add 0).add 0 = a := by simp [Addr.add]
            rw [ha0] at hz
            have ha := cell_spot hz
            have hc := cells_seven (hT j hj').1
            have hadd : ∀ q, a.add q = ⟨a.block, a.off + q, none⟩ := by
              intro q
              rw [ha]
              unfold Addr.add
              by_cases hq : q = 0 <;> simp [hq]
            have hat7 : ∀ i, i < 7 → W.cell? ⟨a.block, a.off + j * 7 + i, none⟩ = [Value.int .i64 (T j).k, .int .i64 (T j).n, .int .i64 (T j).t.k, .slice (T j).t.a (T j).t.l.length (T j).t.c, .int .i64 (T j).f.k, .slice (T j).f.a (T j).f.l.length (T j).f.c, .slice (T j).a (T j).l.length (T j).c][i]? := by
              intro i hi
              have := hc i hi
              rw [Go.Deep.add_add, hadd] at this
              rw [show a.off + j * 7 + i = a.off + (j * 7 + i) by omega]
              exact this
            refine ⟨a.block, a.off, by rw [← ha], ?_⟩
            simp only [List.getElem_map, List.getElem_range]
            exact ⟨hat7 0 (by omega), hat7 1 (by omega), hat7 2 (by omega), hat7 3 (by omega), hat7 4 (by omega), hat7 5 (by omega), hat7 6 (by omega)⟩
          · refine TT.nb_mk.2 ⟨int_le hwf, fun t ht => ?_⟩
            obtain ⟨i, hi, rfl⟩ := List.mem_map.1 ht
            exact (hT i (by simpa using hi)).2.2
set_option maxRecDepth 100000 in
/-- An argument of the type is a term's tree. -/
theorem tm_arg {H : Type} {enc : TypeId × Value → H} {W : World} {base b0 : Nat} {spare : Nat → Bool} {held : Bool} {r : Reach} {v : Value} {d : DataW H} {p : List MemPlace} (hv : Value.okWide Tryz.prog W r b0 27 v) (h : DataW.Trod enc Tryz.prog W base spare held 27 v d p) :
    ∃ t : TT, v = .agg #[.int .i64 t.k, .int .i64 t.n, .int .i64 t.t.k, .slice t.t.a t.t.l.length t.t.c, .int .i64 t.f.k, .slice t.f.a t.f.l.length t.f.c, .slice t.a t.l.length t.c] ∧ t.In W ∧ t.nb := by
  obtain ⟨cs, rfl, _⟩ := okWide_struct Tryz.underlying27 hv
  obtain ⟨fuel, hf⟩ := h
  obtain ⟨t, ht, hin⟩ := tm_of fuel _ _ hf
  refine ⟨t, ?_, hin⟩
  have : cs.toList = [.int .i64 t.k, .int .i64 t.n, .int .i64 t.t.k, .slice t.t.a t.t.l.length t.t.c, .int .i64 t.f.k, .slice t.f.a t.f.l.length t.f.c, .slice t.a t.l.length t.c] := by simpa [Value.cells] using ht
  rw [← this]
end Go.Proofs.YtnddkmccagiclabGreatDoor
