/-
  What the calls of term.termText and term.Print answer.
-/
import Derived.Test.YtnddkmccagiclaaDoorLotb03aa896f8
import Derived.Test.YtnddkmccagiclaaDoorLotb9a062eeda
import Derived.Test.YtnddkmccagiclaaDoorRows
import Derived.Test.YtnddkmccagiclaaDoorLotf3903b603a
import Derived.ProofKit
import Derived.Deep.Slices
import Derived.Test.YtnddkmccagiclaaDoorLotf95a12f13f
import Derived.OpenShut
import Derived.Lib.LaidTab
namespace Go.Proofs.YtnddkmccagiclaaDoor
open Go.RowKit

theorem words_cell {w : World} (hg : Gl w) (k : Int) (h1 : 4 ≤ k) (h2 : k ≤ 9) : w.cell? ⟨1, k.toNat, none⟩ = some (.string (bw (kindW k))) := by
  rw [hg.wd.cell]
  obtain rfl | rfl | rfl | rfl | rfl | rfl : k = 4 ∨ k = 5 ∨ k = 6 ∨ k = 7 ∨ k = 8 ∨ k = 9 := by omega
  all_goals rfl

theorem truth_cell {w : World} (hg : Gl w) (n : Int) (h : n = 0 ∨ n = 1) : w.cell? ⟨0, n.toNat, none⟩ = some (.string (bw (truthW n))) := by
  rw [hg.tw.cell]
  rcases h with rfl | rfl
  all_goals rfl

theorem itoa_any (v : Int) (h0 : -1000000 ≤ v) (h1 : v ≤ 1000000) (W : World) (hg : Gl W) : Calls Tryd.prog 51 #[.int .i64 v] W fun e w' => e = .returned (.string (bw (Lib.itoa v))) ∧ Below W.heap.size W w' := by
  refine (Tryd.strconv_Itoa v (by omega) (by omega) W hg.pow).mono ?_
  rintro e w' ⟨rfl, k, os, rfl⟩
  exact ⟨rfl, below_grew _ _ _⟩

set_option maxRecDepth 20000 in
set_option maxHeartbeats 1000000 in
theorem termText_word (x : TT) (w : World) (hg : Gl w) (hk : x.k = 1 ∨ x.k = 2 ∨ x.k = 3) (h0 : -1000000 ≤ x.n) (h1 : x.n ≤ 1000000) (h3 : x.k = 3 → x.n = 0 ∨ x.n = 1) :
    Calls Tryd.prog 33 #[.agg #[.int .i64 x.k, .int .i64 x.n, .int .i64 x.t.k, .slice x.t.a x.t.l.length x.t.c, .int .i64 x.f.k, .slice x.f.a x.f.l.length x.f.c, .slice x.a x.l.length x.c]] w fun e w' => e = .returned (.string (bw (if x.k = 1 then 35 :: Lib.itoa x.n else if x.k = 2 then Lib.itoa x.n else truthW x.n))) ∧ Below w.heap.size w w' := by
  have hl := itoa_short x.n h0 h1
  have HI : Hid (∀ W, Gl W → Calls Tryd.prog 51 #[.int .i64 x.n] W fun e w' => e = .returned (.string (bw (Lib.itoa x.n))) ∧ Below W.heap.size W w') := itoa_any x.n h0 h1
  have hb0 : ∀ o, Below w.heap.size w (w.alloc o) := fun o => (Below.refl _ _).alloc (Nat.le_refl _) _
  have HG : Hid (∀ o, Gl (w.alloc o)) := fun o => hg.below (hb0 o)
  have hgs := hg.size
  by_cases k1 : x.k = 1
  · rw [if_pos k1]
    have e1 : (x.k == 1) = true := by simp [k1]
    have a1 : ∀ w, (Op.stringOp .add ⟨#[35]⟩ (bw (Lib.itoa x.n))).run Tryd.prog w = .ok (.string (bw (35 :: Lib.itoa x.n))) w := cat_run [35] (Lib.itoa x.n) (by simp; omega)
    clear hg hk h3 k1 hb0
    go_enter Tryd.func33, Tryd.ntmps33
    go_wp2_with fail
    refine (HI.out _ (HG.out _)).mono ?_
    rintro e w1 ⟨rfl, hb1⟩
    have hb2 : Below w.heap.size w w1 := ((Below.refl _ _).alloc (Nat.le_refl _) _).trans (hb1.mono (by simp))
    clear hb1
    go_wp2_with fail
    go_ret
    exact ⟨rfl, hb2⟩
  · rw [if_neg k1]
    have e1 : (x.k == 1) = false := by simpa using k1
    by_cases k2 : x.k = 2
    · rw [if_pos k2]
      have e2 : (x.k == 2) = true := by simp [k2]
      clear hg hk h3 k1 k2 hb0
      go_enter Tryd.func33, Tryd.ntmps33
      go_wp2_with fail
      refine (HI.out _ (HG.out _)).mono ?_
      rintro e w1 ⟨rfl, hb1⟩
      have hb2 : Below w.heap.size w w1 := ((Below.refl _ _).alloc (Nat.le_refl _) _).trans (hb1.mono (by simp))
      clear hb1
      go_wp2_with fail
      go_ret
      exact ⟨rfl, hb2⟩
    · rw [if_neg k2]
      have e2 : (x.k == 2) = false := by simpa using k2
      have k3 : x.k = 3 := by omega
      have e3 : (x.k == 3) = true := by simp [k3]
      have hc := truth_cell hg x.n (h3 k3)
      have i0 : (0 : Int) ≤ x.n := by have := h3 k3; omega
      have i1 : x.n < 2 := by have := h3 k3; omega
      have hne : (0 : Nat) < w.heap.size := by omega
      clear hg hk h3 k1 k2 k3 hb0
      go_enter Tryd.func33, Tryd.ntmps33
      go_wp2_with fail
      go_ret
      exact ⟨rfl, (Below.refl _ _).alloc (Nat.le_refl _) _⟩

set_option maxRecDepth 20000 in
set_option maxHeartbeats 4000000 in
theorem termText_parts (x : TT) (w : World) (hg : Gl w) (hx : x.In w) (h4 : 4 ≤ x.k) (h9 : x.k ≤ 9) (hln : x.l.length ≤ 3) (hty : tells x.k = true → goodY 4 x.t.ty = true)
    (tf : TT → List UInt8) (pre : List UInt8) (hpre : pre = 40 :: kindW x.k ++ (if tells x.k = true then 32 :: tyText 4 x.t.ty else []))
    (hlen : ∀ j (hj : j < x.l.length), (tf x.l[j]).length ≤ 1000000)
    (HC : Hid (∀ (j : Nat) (hj : j < x.l.length) (W : World), Gl W → x.l[j].In W → Calls Tryd.prog 33 #[.agg #[.int .i64 x.l[j].k, .int .i64 x.l[j].n, .int .i64 x.l[j].t.k, .slice x.l[j].t.a x.l[j].t.l.length x.l[j].t.c, .int .i64 x.l[j].f.k, .slice x.l[j].f.a x.l[j].f.l.length x.l[j].f.c, .slice x.l[j].a x.l[j].l.length x.l[j].c]] W fun e w' => e = .returned (.string (bw (tf x.l[j]))) ∧ Below W.heap.size W w')) :
    Calls Tryd.prog 33 #[.agg #[.int .i64 x.k, .int .i64 x.n, .int .i64 x.t.k, .slice x.t.a x.t.l.length x.t.c, .int .i64 x.f.k, .slice x.f.a x.f.l.length x.f.c, .slice x.a x.l.length x.c]] w fun e w' => e = .returned (.string (bw (pre ++ x.l.flatMap (fun y => 32 :: tf y) ++ [41]))) ∧ Below w.heap.size w w' := by
  have e1 : (x.k == 1) = false := by simp; omega
  have e2 : (x.k == 2) = false := by simp; omega
  have e3 : (x.k == 3) = false := by simp; omega
  have hc := words_cell hg x.k h4 h9
  have i0 : (0 : Int) ≤ x.k := by omega
  have i1 : x.k < 10 := by omega
  have hgs := hg.size
  have hne : (1 : Nat) < w.heap.size := by omega
  have hkw : (kindW x.k).length ≤ 4 := by unfold kindW; repeat' split
                                          all_goals simp
  have a1 : ∀ w, (Op.stringOp .add ⟨#[40]⟩ (bw (kindW x.k))).run Tryd.prog w = .ok (.string (bw (40 :: kindW x.k))) w := cat_run [40] (kindW x.k) (by simp; omega)
  have hb0 : ∀ o, Below w.heap.size w (w.alloc o) := fun o => (Below.refl _ _).alloc (Nat.le_refl _) _
  have HG : Hid (∀ o, Gl (w.alloc o)) := fun o => hg.below (hb0 o)
  have HX : Hid (∀ o, x.In (w.alloc o)) := fun o => hx.below (hb0 o)
  have HB : Hid (∀ o, Below w.heap.size w (w.alloc o)) := hb0
  obtain ⟨bt, hbt⟩ : ∃ b, tells x.k = b := ⟨_, rfl⟩
  have HK : Hid (∀ w, Calls Tryd.prog 52 #[.int .i64 x.k] w fun e w' => e = .returned (.bool bt) ∧ w' = w) := by
    intro w
    have := tells_any x.k w
    rw [hbt] at this
    exact this
  rw [hbt] at hpre hty
  have htl := tyText_len 4 x.t.ty
  obtain ⟨TY, hTY⟩ : ∃ l, tyText 4 x.t.ty = l := ⟨_, rfl⟩
  have HT : Hid (bt = true → ∀ W, Gl W → x.t.In W → Calls Tryd.prog 53 #[.agg #[.int .i64 x.t.k, .slice x.t.a x.t.l.length x.t.c]] W fun e w' => e = .returned (.string (bw TY)) ∧ Below W.heap.size W w') := by
    intro hb W hgW hW
    have := typeText_any 4 (by omega) x.t W (hty hb) hW hgW
    rw [hTY] at this
    exact this
  rw [hTY] at hpre htl
  have htl' : TY.length ≤ 90 := by omega
  have a2 : ∀ w, (Op.stringOp .add ⟨#[32]⟩ (bw TY)).run Tryd.prog w = .ok (.string (bw (32 :: TY))) w := cat_run [32] TY (by simp; omega)
  have a3 : ∀ w, (Op.stringOp .add (bw (40 :: kindW x.k)) (bw (32 :: TY))).run Tryd.prog w = .ok (.string (bw (40 :: kindW x.k ++ 32 :: TY))) w := cat_run (40 :: kindW x.k) (32 :: TY) (by simp; omega)
  obtain ⟨KW, hKW⟩ : ∃ l, kindW x.k = l := ⟨_, rfl⟩
  rw [hKW] at hpre hc hkw a1 a3
  have HPRE : Hid (pre = 40 :: KW ++ (if bt = true then 32 :: TY else [])) := hpre
  have hpl : pre.length ≤ 100 := by rw [hpre]; split <;> simp <;> omega
  have HLN : Hid (∀ j (hj : j < x.l.length), (tf x.l[j]).length ≤ 1000000) := hlen
  clear hg hx hty hbt hTY hKW hpre htl h4 h9 hlen hb0
  cases bt
  rotate_left
  focus
    have HP2 : Hid (pre = 40 :: KW ++ 32 :: TY) := HPRE.out
    rw [← HP2.out] at a3
    go_enter Tryd.func33, Tryd.ntmps33
    go_wp2_with fail
    refine (HK.out _).mono ?_
    rintro e w' ⟨rfl, hw'⟩
    subst hw'
    go_wp2_with fail
    refine (HT.out trivial _ (HG.out _) (HX.out _).t).mono ?_
    rintro e w2 ⟨rfl, hb2⟩
    have HE2 : Hid (Below w.heap.size w w2 ∧ x.In w2 ∧ Gl w2) := ⟨(HB.out _).trans (hb2.mono (by simp)), (HX.out _).below hb2, (HG.out _).below hb2⟩
    have c6 : w2.cell? ⟨w.heap.size, 6, none⟩ = some (.slice x.a x.l.length x.c) := cell_later hb2 (by simp [go_sem])
    clear hb2
    go_wp2_with fail
  rotate_left
  focus
    have HP2 : Hid (pre = 40 :: KW) := by have := HPRE.out; simpa [Hid] using this
    rw [← HP2.out] at a1
    go_enter Tryd.func33, Tryd.ntmps33
    go_wp2_with fail
    refine (HK.out _).mono ?_
    rintro e w2 ⟨rfl, hw'⟩
    have HE2 : Hid (Below w.heap.size w w2 ∧ x.In w2 ∧ Gl w2) := by subst hw'; exact ⟨HB.out _, HX.out _, HG.out _⟩
    have c6 : w2.cell? ⟨w.heap.size, 6, none⟩ = some (.slice x.a x.l.length x.c) := by subst hw'; simp [go_sem]
    clear hw'
    go_wp2_with fail
  all_goals
    clear a1 a2 a3
    go_loopg [3, 42] x.l.length (fun g tv i wr => ∃ (j : Nat) (acc : List UInt8), g + j = x.l.length ∧ i = .int .i64 (j : Int) ∧ tv = .string (bw acc) ∧ Hid (acc = pre ++ (x.l.take j).flatMap (fun y => 32 :: tf y) ∧ acc.length ≤ 100 + j * 1000001 ∧ Below w2.heap.size w2 wr))
    case atStart => exact ⟨0, pre, by omega, rfl, rfl, by simp, by omega, Below.refl _ _⟩
    case round =>
      obtain ⟨j, acc, hj, rfl, rfl, HQ⟩ := hrel
      by_cases hlt : j < x.l.length
      · obtain ⟨b, o, ea, h7', hxj⟩ := HE2.out.2.1.part j hlt
        have h8 := h7'.below HQ.out.2.2
        have d0 := h8.c0
        have d1 := h8.c1
        have d2 := h8.c2
        have d3 := h8.c3
        have d4 := h8.c4
        have d5 := h8.c5
        have d6 := h8.c6
        have hbp : ∀ o, Below wr.heap.size wr (wr.alloc o) := fun o => (Below.refl _ _).alloc (Nat.le_refl _) _
        have HP : Hid (∀ o, Calls Tryd.prog 33 #[.agg #[.int .i64 x.l[j].k, .int .i64 x.l[j].n, .int .i64 x.l[j].t.k, .slice x.l[j].t.a x.l[j].t.l.length x.l[j].t.c, .int .i64 x.l[j].f.k, .slice x.l[j].f.a x.l[j].f.l.length x.l[j].f.c, .slice x.l[j].a x.l[j].l.length x.l[j].c]] (wr.alloc o) fun e w' => e = .returned (.string (bw (tf x.l[j]))) ∧ Below (wr.alloc o).heap.size (wr.alloc o) w') := fun o => HC.out j hlt _ ((HE2.out.2.2.below HQ.out.2.2).below (hbp o)) ((hxj.below HQ.out.2.2).below (hbp o))
        have i2 : (j : Int) < (x.l.length : Int) := by omega
        have i3 : (0 : Int) ≤ (j : Int) := by omega
        have hl1 := HLN.out j hlt
        have hl2 := HQ.out.2.1
        obtain ⟨T, hT⟩ : ∃ T, tf x.l[j] = T := ⟨_, rfl⟩
        rw [hT] at HP hl1
        have HTT : Hid (tf x.l[j] = T) := hT
        have b1 : ∀ w, (Op.stringOp .add ⟨#[32]⟩ (bw T)).run Tryd.prog w = .ok (.string (bw (32 :: T))) w := cat_run [32] T (by simp; omega)
        have b2 : ∀ w, (Op.stringOp .add (bw acc) (bw (32 :: T))).run Tryd.prog w = .ok (.string (bw (acc ++ 32 :: T))) w := cat_run acc (32 :: T) (by simp; omega)
        have HEA : Hid (x.a = some ⟨b, o, none⟩) := ea
        have HJ : Hid (gk + j = x.l.length) := hj
        rw [ea]
        clear h7' hxj h8 ea hbp hT hj hl2 hl1
        go_wp2_with fail
        refine (HP.out _).mono ?_
        rintro e w3 ⟨rfl, hb3⟩
        have HF : Hid (acc ++ 32 :: T = pre ++ (x.l.take (j + 1)).flatMap (fun y => 32 :: tf y) ∧ (acc ++ 32 :: T).length ≤ 100 + (j + 1) * 1000001 ∧ Below w2.heap.size w2 w3) := by
          refine ⟨?_, ?_, HQ.out.2.2.trans (((Below.refl _ _).alloc (Nat.le_refl _) _).trans (hb3.mono (by simp)) |>.mono HQ.out.2.2.size)⟩
          · rw [List.take_succ_eq_append_getElem hlt, List.flatMap_append, ← List.append_assoc, ← HQ.out.1]
            simp [HTT.out]
          · have h1 := HQ.out.2.1
            have h2 := HLN.out j hlt
            rw [HTT.out] at h2
            simp only [List.length_append, List.length_cons]
            omega
        clear hb3 HQ HP d0 d1 d2 d3 d4 d5 d6
        go_wp2_with fail
        rw [← HEA.out]
        go_roundg (x.l.length - (j + 1))
        case measure => have := HJ.out; omega
        case rel => exact ⟨j + 1, acc ++ 32 :: T, by have := HJ.out; omega, by go_num, rfl, HF⟩
      · have hl2 := HQ.out.2.1
        have b1 : ∀ w, (Op.stringOp .add (bw acc) ⟨#[41]⟩).run Tryd.prog w = .ok (.string (bw (acc ++ [41]))) w := cat_run acc [41] (by simp; omega)
        have HF : Hid (acc ++ [41] = pre ++ x.l.flatMap (fun y => 32 :: tf y) ++ [41] ∧ Below w.heap.size w wr) := by
          refine ⟨?_, HE2.out.1.trans (HQ.out.2.2.mono HE2.out.1.size)⟩
          rw [HQ.out.1, List.take_of_length_le (by omega)]
        clear HQ hj hl2
        go_wp2_with fail
        go_ret
        exact ⟨by rw [← HF.out.1]; rfl, HF.out.2⟩
end Go.Proofs.YtnddkmccagiclaaDoor

/-
  What the call of term.Print answers, at any term.
-/
namespace Go.Proofs.YtnddkmccagiclaaDoor
open Go.RowKit

/-- term.termText. -/
theorem termText_any (n : Nat) : n ≤ 500 → ∀ (ins : Nat) (x : TT) (r r' : Nat) (w : World), ins + n ≤ 1000 → r ≤ 1000 → goodS 0 n (ins : Int) x.tm r = some r' → Gl w → x.In w →
    Calls Tryd.prog 33 #[.agg #[.int .i64 x.k, .int .i64 x.n, .int .i64 x.t.k, .slice x.t.a x.t.l.length x.t.c, .int .i64 x.f.k, .slice x.f.a x.f.l.length x.f.c, .slice x.a x.l.length x.c]] w fun e w' => e = .returned (.string (bw (tmText n x.tm))) ∧ Below w.heap.size w w' := by
  induction n with
  | zero => intro _ ins x r r' w _ _ h; simp [goodS] at h
  | succ n ih =>
    intro hn ins x r r' w hi hr h hg hx
    obtain ⟨m, q, hm, rfl, hok, hb⟩ := goodS_top h
    obtain rfl : n = m := by omega
    obtain ⟨h1, h9, hl, hty, hnum⟩ := okTop_parts hok
    rw [TT.tm_k] at h1 h9 hty hnum hl hb
    rw [TT.tm_n] at hnum
    rw [TT.tm_t, TT.tm_f] at hty
    rw [TT.tm_l, List.length_map] at hl
    have hbd := okNum_bound (by omega) hnum
    by_cases hk : x.k = 1 ∨ x.k = 2 ∨ x.k = 3
    · have e : tmText (n + 1) x.tm = if x.k = 1 then 35 :: Lib.itoa x.n else if x.k = 2 then Lib.itoa x.n else truthW x.n := by
        simp only [tmText, TT.tm_k, TT.tm_n]
        split
        · rfl
        · split
          · rfl
          · rw [if_pos (by omega)]
      rw [e]
      refine termText_word x w hg hk hbd.1 hbd.2 (fun h3 => ?_)
      rw [okNum, if_neg (by omega), if_neg (by omega), if_pos h3] at hnum
      simpa using hnum
    · have hp := parts_le x.k
      have e : tmText (n + 1) x.tm = (40 :: kindW x.k ++ (if tells x.k = true then 32 :: tyText 4 x.t.ty else [])) ++ x.l.flatMap (fun y => 32 :: tmText n y.tm) ++ [41] := by
        simp only [tmText, TT.tm_k, TT.tm_n, TT.tm_t, TT.tm_l]
        rw [if_neg (by omega), if_neg (by omega), if_neg (by omega), List.flatMap_map]
      rw [e]
      have hins : insOf x.k (ins : Int) = ((if x.k = 7 then ins + 1 else ins : Nat) : Int) := by unfold insOf; split <;> simp
      rw [hins, TT.tm_l, bindL_map] at hb
      refine termText_parts x w hg hx (by omega) h9 (by omega) (fun ht => ?_) (fun y => tmText n y.tm) _ rfl (fun j hj => ?_) (fun j hj W hgW hW => ?_)
      · simp only [okTypes, Bool.and_eq_true] at hty
        rw [ht, if_pos rfl] at hty
        exact hty.2
      · obtain ⟨q1, q2, hq1, hq⟩ := bindL_at (fun y q q' h => goodS_le 0 n _ _ q q' h) hb j hj
        have := tmText_len n (if x.k = 7 then ins + 1 else ins) x.l[j].tm q1 q2 (by split <;> omega) hq
        show (tmText n x.l[j].tm).length ≤ 1000000
        omega
      · obtain ⟨q1, q2, hq1, hq⟩ := bindL_at (fun y q q' h => goodS_le 0 n _ _ q q' h) hb j hj
        exact ih (by omega) (if x.k = 7 then ins + 1 else ins) x.l[j] q1 q2 W (by split <;> omega) (by omega) hq hgW hW

def PrPost (x : Tm) (w : World) (e : Ending) (w' : World) : Prop :=
  ∃ (s : ByteArray) (er : Int), e = .returned (.tuple #[.string s, .int .i64 er]) ∧ Below w.heap.size w w' ∧
    ((goodM 0 x = false ∧ s = bw [] ∧ er = 1) ∨ (goodM 0 x = true ∧ 1000 < (tmText 40 x).length ∧ s = bw [] ∧ er = 4) ∨ (goodM 0 x = true ∧ (tmText 40 x).length ≤ 1000 ∧ s = bw (tmText 40 x) ∧ er = 0))

theorem bw_size (a : List UInt8) : (bw a).size = a.length := by
  show a.toArray.size = a.length
  simp

set_option maxRecDepth 20000 in
set_option maxHeartbeats 1000000 in
/-- term.Print. -/
theorem print_any (x : TT) (w : World) (hg : Gl w) (hx : x.In w) (hnb : x.nb) :
    Calls Tryd.prog 8 #[.agg #[.int .i64 x.k, .int .i64 x.n, .int .i64 x.t.k, .slice x.t.a x.t.l.length x.t.c, .int .i64 x.f.k, .slice x.f.a x.f.l.length x.f.c, .slice x.a x.l.length x.c]] w (PrPost x.tm w) := by
  have hb0 : ∀ o, Below w.heap.size w (w.alloc o) := fun o => (Below.refl _ _).alloc (Nat.le_refl _) _
  obtain ⟨g, hgd⟩ : ∃ g, goodM 0 x.tm = g := ⟨_, rfl⟩
  have HGD : Hid (∀ o, Calls Tryd.prog 32 #[.agg #[.int .i64 x.k, .int .i64 x.n, .int .i64 x.t.k, .slice x.t.a x.t.l.length x.t.c, .int .i64 x.f.k, .slice x.f.a x.f.l.length x.f.c, .slice x.a x.l.length x.c], .int .i64 0] (w.alloc o) fun e w' => e = .returned (.bool g) ∧ Below (w.alloc o).heap.size (w.alloc o) w') := by
    intro o
    have := goodTm_any x 0 _ (hg.below (hb0 o)).gp (hx.below (hb0 o)) hnb
    rw [hgd] at this
    exact this
  have HGG : Hid (goodM 0 x.tm = g) := hgd
  have HG : Hid (Gl w ∧ x.In w) := ⟨hg, hx⟩
  have HB : Hid (∀ o, Below w.heap.size w (w.alloc o)) := hb0
  clear hg hx hnb hgd hb0
  cases g with
  | false =>
    go_enter Tryd.func8, Tryd.ntmps8
    go_wp2_with fail
    refine (HGD.out _).mono ?_
    rintro e w1 ⟨rfl, hb1⟩
    have HF : Hid (PrPost x.tm w (.returned (.tuple #[.string ⟨#[]⟩, .int .i64 1])) w1) := ⟨_, _, rfl, (HB.out _).trans (hb1.mono (by simp)), .inl ⟨HGG.out, rfl, rfl⟩⟩
    clear hb1
    go_wp2_with fail
    go_ret2
    exact HF.out
  | true =>
    obtain ⟨r', hr⟩ := Option.isSome_iff_exists.1 HGG.out
    have hr0 : goodS 0 40 ((0 : Nat) : Int) x.tm 40 = some r' := hr
    have hl := (tmText_len 40 0 x.tm 40 r' (by omega) hr0).2
    obtain ⟨T, hT⟩ : ∃ T, tmText 40 x.tm = T := ⟨_, rfl⟩
    have HTT : Hid (∀ W, Gl W → x.In W → Calls Tryd.prog 33 #[.agg #[.int .i64 x.k, .int .i64 x.n, .int .i64 x.t.k, .slice x.t.a x.t.l.length x.t.c, .int .i64 x.f.k, .slice x.f.a x.f.l.length x.f.c, .slice x.a x.l.length x.c]] W fun e w' => e = .returned (.string (bw T)) ∧ Below W.heap.size W w') := by
      intro W hgW hxW
      have := termText_any 40 (by omega) 0 x 40 r' W (by omega) (by omega) hr0 hgW hxW
      rw [hT] at this
      exact this
    have HT : Hid (tmText 40 x.tm = T) := hT
    have hsz := bw_size T
    have hsz2 : (bw T).size ≤ 100000 := by rw [hsz, ← hT]; omega
    by_cases hlong : 1000 < (bw T).size
    · have i1 : (1000 : Int) < ((bw T).size : Int) := by omega
      have HL : Hid (1000 < (tmText 40 x.tm).length) := by rw [HT.out, ← hsz]; exact hlong
      clear hl hr hr0 hT hsz hlong
      go_enter Tryd.func8, Tryd.ntmps8
      go_wp2_with fail
      refine (HGD.out _).mono ?_
      rintro e w1 ⟨rfl, hb1⟩
      have hbw : Below w.heap.size w w1 := (HB.out _).trans (hb1.mono (by simp))
      have h7 : At7 w1 w.heap.size 0 x := At7.below hb1 (by constructor <;> simp [go_sem])
      have c0 := h7.c0
      have c1 := h7.c1
      have c2 := h7.c2
      have c3 := h7.c3
      have c4 := h7.c4
      have c5 := h7.c5
      have c6 := h7.c6
      simp only [Nat.zero_add] at c0 c1 c2 c3 c4 c5 c6
      clear h7 hb1
      go_wp2_with fail
      refine (HTT.out _ (HG.out.1.below hbw) (HG.out.2.below hbw)).mono ?_
      rintro e w2 ⟨rfl, hb2⟩
      have HF : Hid (PrPost x.tm w (.returned (.tuple #[.string ⟨#[]⟩, .int .i64 4])) w2) := ⟨_, _, rfl, hbw.trans (hb2.mono hbw.size), .inr (.inl ⟨HGG.out, HL.out, rfl, rfl⟩)⟩
      clear hb2 hbw c0 c1 c2 c3 c4 c5 c6
      go_wp2_with fail
      go_ret2
      exact HF.out
    · have i1 : ¬ (1000 : Int) < ((bw T).size : Int) := by omega
      have hl9 : (tmText 40 x.tm).length ≤ 1000 := by rw [hT, ← hsz]; omega
      have HL : Hid ((tmText 40 x.tm).length ≤ 1000) := hl9
      clear hl9
      clear hl hr hr0 hT hsz hlong
      go_enter Tryd.func8, Tryd.ntmps8
      go_wp2_with fail
      refine (HGD.out _).mono ?_
      rintro e w1 ⟨rfl, hb1⟩
      have hbw : Below w.heap.size w w1 := (HB.out _).trans (hb1.mono (by simp))
      have h7 : At7 w1 w.heap.size 0 x := At7.below hb1 (by constructor <;> simp [go_sem])
      have c0 := h7.c0
      have c1 := h7.c1
      have c2 := h7.c2
      have c3 := h7.c3
      have c4 := h7.c4
      have c5 := h7.c5
      have c6 := h7.c6
      simp only [Nat.zero_add] at c0 c1 c2 c3 c4 c5 c6
      clear h7 hb1
      go_wp2_with fail
      refine (HTT.out _ (HG.out.1.below hbw) (HG.out.2.below hbw)).mono ?_
      rintro e w2 ⟨rfl, hb2⟩
      have HF : Hid (PrPost x.tm w (.returned (.tuple #[.string (bw T), .int .i64 0])) w2) := ⟨_, _, rfl, hbw.trans (hb2.mono hbw.size), .inr (.inr ⟨HGG.out, HL.out, by rw [HT.out], rfl⟩)⟩
      clear hb2 hbw c0 c1 c2 c3 c4 c5 c6
      go_wp2_with fail
      go_ret2
      exact HF.out
end Go.Proofs.YtnddkmccagiclaaDoor

/-
  What the call of chaperonekeep.terms answers.
-/
namespace Go.Proofs.YtnddkmccagiclaaDoor
open Go.RowKit

/-! ### The closed term -/

/-- (fun (to num any) (call #0 7)) -/
def T0 : Tm := ⟨7, 0, ⟨3, [⟨1, []⟩, ⟨0, []⟩]⟩, anyY, [⟨8, 0, anyY, anyY, [⟨1, 0, anyY, anyY, []⟩, ⟨2, 7, anyY, anyY, []⟩]⟩]⟩
def X0 : ByteArray := ⟨#[40, 102, 117, 110, 32, 40, 116, 111, 32, 110, 117, 109, 32, 97, 110, 121, 41, 32, 40, 99, 97, 108, 108, 32, 35, 48, 32, 55, 41, 41]⟩

theorem itoa0 : Lib.itoa 0 = [48] := by
  rw [Lib.itoa, if_neg (by omega)]
  exact Lib.decDigits_one (by omega)
theorem itoa7 : Lib.itoa 7 = [55] := by
  rw [Lib.itoa, if_neg (by omega)]
  exact Lib.decDigits_one (by omega)

theorem isAny_any0 : isAnyY anyY = true := by simp [isAnyY, anyY, relY_mk, relL]

theorem T0_texts (n : Nat) : tmText (n + 1 + 1 + 1) T0 = X0.data.toList := by
  have e : tyText (1 + 1 + 1 + 1) ⟨3, [⟨1, []⟩, ⟨0, []⟩]⟩ = [40, 116, 111, 32, 110, 117, 109, 32, 97, 110, 121, 41] := rfl
  have e4 : tyText 4 ⟨3, [⟨1, []⟩, ⟨0, []⟩]⟩ = [40, 116, 111, 32, 110, 117, 109, 32, 97, 110, 121, 41] := e
  simp [T0, tmText, e4, kindW, tells, itoa0, itoa7, X0]

theorem T0_text : tmText 40 T0 = X0.data.toList := T0_texts 37

theorem T0_step (n r : Nat) : goodS 0 (n + 1 + 1 + 1) 0 T0 (r + 1 + 1 + 1 + 1) = some r := by
  simp [goodS, T0, okTop, okTypes, okNum, tells, partsOf, goodY, isAny_any0, bindL, insOf]

theorem T0_good : goodM 0 T0 = true := congrArg Option.isSome (T0_step 37 36)

theorem T0_size : T0.sz = 4 := by simp [T0, Tm.sz_mk]

theorem X0_parse : parseS X0.data.toList = some T0 := by
  rw [← T0_text]
  exact parse_text T0 T0_good

set_option maxRecDepth 20000 in
set_option maxHeartbeats 2000000 in
/-- chaperonekeep.terms. -/
theorem terms_any (w : World) (hg : Gl w) : Calls Tryd.prog 11 #[] w fun e w' => e = .returned (.bool true) ∧ Below w.heap.size w w' := by
  have HP : Hid (Calls Tryd.prog 9 #[.string ⟨#[40, 102, 117, 110, 32, 40, 116, 111, 32, 110, 117, 109, 32, 97, 110, 121, 41, 32, 40, 99, 97, 108, 108, 32, 35, 48, 32, 55, 41, 41]⟩] w fun e w' => ∃ x : TT, e = .returned (.tuple #[.agg #[.int .i64 x.k, .int .i64 x.n, .int .i64 x.t.k, .slice x.t.a x.t.l.length x.t.c, .int .i64 x.f.k, .slice x.f.a x.f.l.length x.f.c, .slice x.a x.l.length x.c], .int .i64 0]) ∧ x.In w' ∧ x.nb ∧ x.tm = T0 ∧ Below w.heap.size w w') := by
    refine (parse_any X0 (by decide) w hg).mono ?_
    rintro e w' ⟨x, er, rfl, hin, hnb, hb, ⟨h, _⟩ | ⟨_, h, _⟩ | ⟨_, h, rfl⟩⟩
    · exact absurd h (by decide)
    · rw [X0_parse] at h; cases h
    · rw [X0_parse] at h
      exact ⟨x, rfl, hin, hnb, (Option.some.inj h).symm, hb⟩
  have HG : Hid (Gl w) := hg
  clear hg
  go_enter Tryd.func11, Tryd.ntmps11
  go_wp2_with fail
  refine HP.out.mono ?_
  rintro e w1 ⟨x, rfl, hin, hnb, htm, hb1⟩
  have hk7 : x.k = 7 := by rw [← TT.tm_k, htm]; rfl
  have hz4 : x.sz = 4 := by rw [TT.sz_tm, htm, T0_size]
  have hbo : ∀ o, Below w1.heap.size w1 (w1.alloc o) := fun o => (Below.refl _ _).alloc (Nat.le_refl _) _
  have HPR : Hid (∀ o, Calls Tryd.prog 8 #[.agg #[.int .i64 x.k, .int .i64 x.n, .int .i64 x.t.k, .slice x.t.a x.t.l.length x.t.c, .int .i64 x.f.k, .slice x.f.a x.f.l.length x.f.c, .slice x.a x.l.length x.c]] (w1.alloc o) fun e w' => e = .returned (.tuple #[.string ⟨#[40, 102, 117, 110, 32, 40, 116, 111, 32, 110, 117, 109, 32, 97, 110, 121, 41, 32, 40, 99, 97, 108, 108, 32, 35, 48, 32, 55, 41, 41]⟩, .int .i64 0]) ∧ Below (w1.alloc o).heap.size (w1.alloc o) w') := by
    intro o
    refine (print_any x _ ((HG.out.below hb1).below (hbo o)) (hin.below (hbo o)) hnb).mono ?_
    rintro e w' ⟨s, er, rfl, hb, ⟨h, _⟩ | ⟨_, h, _⟩ | ⟨_, _, rfl, rfl⟩⟩
    · rw [htm, T0_good] at h; cases h
    · rw [htm, T0_text] at h; exact absurd h (by decide)
    · refine ⟨?_, hb⟩
      rw [htm, T0_text]
      rfl
  have HND : Hid (∀ W, x.In W → Calls Tryd.prog 25 #[.agg #[.int .i64 x.k, .int .i64 x.n, .int .i64 x.t.k, .slice x.t.a x.t.l.length x.t.c, .int .i64 x.f.k, .slice x.f.a x.f.l.length x.f.c, .slice x.a x.l.length x.c]] W fun e w' => e = .returned (.int .i64 4) ∧ Below W.heap.size W w') := by
    intro W hW
    have := nodes_any x W hW (by omega)
    rw [hz4] at this
    exact this
  have HK : Hid (x.k = 7) := hk7
  have e7 : (x.k == 7) = true := by simp [hk7]
  have HI : Hid (x.In w1 ∧ Below w.heap.size w w1) := ⟨hin, hb1⟩
  clear hk7 hz4 htm hin hnb hb1 hbo HP HG
  go_wp2_with fail
  refine (HPR.out _).mono ?_
  rintro e w2 ⟨rfl, hb2⟩
  have h7 : At7 w2 w1.heap.size 0 x := At7.below hb2 (by constructor <;> simp [go_sem])
  have hbw : Below w1.heap.size w1 w2 := ((Below.refl _ _).alloc (Nat.le_refl _) _).trans (hb2.mono (by simp))
  have c0 := h7.c0
  have c1 := h7.c1
  have c2 := h7.c2
  have c3 := h7.c3
  have c4 := h7.c4
  have c5 := h7.c5
  have c6 := h7.c6
  simp only [Nat.zero_add] at c0 c1 c2 c3 c4 c5 c6
  have HN2 : Hid (Calls Tryd.prog 25 #[.agg #[.int .i64 x.k, .int .i64 x.n, .int .i64 x.t.k, .slice x.t.a x.t.l.length x.t.c, .int .i64 x.f.k, .slice x.f.a x.f.l.length x.f.c, .slice x.a x.l.length x.c]] w2 fun e w' => e = .returned (.int .i64 4) ∧ Below w2.heap.size w2 w') := HND.out w2 (HI.out.1.below hbw)
  have HB2 : Hid (Below w.heap.size w w2) := HI.out.2.trans (hbw.mono HI.out.2.size)
  clear h7 hb2 hbw HPR HND
  go_wp2_with fail
  refine HN2.out.mono ?_
  rintro e w3 ⟨rfl, hb3⟩
  have HB3 : Hid (Below w.heap.size w w3) := HB2.out.trans (hb3.mono HB2.out.size)
  clear hb3 c0 c1 c2 c3 c4 c5 c6
  go_wp2_with fail
  go_ret
  exact ⟨rfl, HB3.out⟩
end Go.Proofs.YtnddkmccagiclaaDoor

/-
  What the call of chaperonekeep.TermBack answers: true, at any term and any text.
-/
namespace Go.Proofs.YtnddkmccagiclaaDoor
open Go.RowKit

/-- Print and then Parse of what was printed: the second is read as the first. -/
theorem back_text {x : Tm} {s : ByteArray} {er : Int} (h : (goodM 0 x = false ∧ s = bw [] ∧ er = 1) ∨ (goodM 0 x = true ∧ 1000 < (tmText 40 x).length ∧ s = bw [] ∧ er = 4) ∨ (goodM 0 x = true ∧ (tmText 40 x).length ≤ 1000 ∧ s = bw (tmText 40 x) ∧ er = 0)) :
    s.size ≤ 1000 ∧ ((er = 0 ∧ goodM 0 x = true ∧ parseS s.data.toList = some x) ∨ (er == 0) = false) := by
  rcases h with ⟨_, rfl, rfl⟩ | ⟨_, _, rfl, rfl⟩ | ⟨hg, hl, rfl, rfl⟩
  · exact ⟨by rw [bw_size]; simp, .inr rfl⟩
  · exact ⟨by rw [bw_size]; simp, .inr rfl⟩
  · exact ⟨by rw [bw_size]; exact hl, .inl ⟨rfl, hg, by rw [bw_data]; exact parse_text x hg⟩⟩

/-- What Parse leaves, the error as a letter. -/
def PsL (s : ByteArray) (w : World) (e : Ending) (w' : World) : Prop :=
  ∃ (u : TT) (f : Int), e = .returned (.tuple #[.agg #[.int .i64 u.k, .int .i64 u.n, .int .i64 u.t.k, .slice u.t.a u.t.l.length u.t.c, .int .i64 u.f.k, .slice u.f.a u.f.l.length u.f.c, .slice u.a u.l.length u.c], .int .i64 f]) ∧ u.In w' ∧ u.nb ∧ Below w.heap.size w w' ∧ ((f = 0 ∧ parseS s.data.toList = some u.tm) ∨ ((f == 0) = false ∧ (s.size ≤ 1000 → parseS s.data.toList = none)))

theorem parse_letters (s : ByteArray) (hm : s.size ≤ 9223372036854775807) (w : World) (hg : Gl w) : Calls Tryd.prog 9 #[.string s] w (PsL s w) := by
  refine (parse_any s hm w hg).mono ?_
  rintro e w' ⟨u, f, rfl, hi, hn, hb, ⟨h, rfl, _⟩ | ⟨_, h, rfl, _⟩ | ⟨_, h, rfl⟩⟩
  · exact ⟨u, 4, rfl, hi, hn, hb, .inr ⟨rfl, fun h' => by omega⟩⟩
  · exact ⟨u, 1, rfl, hi, hn, hb, .inr ⟨rfl, fun _ => h⟩⟩
  · exact ⟨u, 0, rfl, hi, hn, hb, .inl ⟨rfl, h⟩⟩

theorem parseS_good {s : List UInt8} {x : Tm} (h : parseS s = some x) : goodM 0 x = true := by
  unfold parseS at h
  split at h
  · split at h
    · cases h; assumption
    · cases h
  · cases h

set_option maxRecDepth 20000 in
set_option maxHeartbeats 8000000 in
/-- chaperonekeep.TermBack. -/
theorem back_any (x : TT) (s : ByteArray) (hm : s.size ≤ 9223372036854775807) (w : World) (hg : Gl w) (hx : x.In w) (hnb : x.nb) :
    Calls Tryd.prog 3 #[.agg #[.int .i64 x.k, .int .i64 x.n, .int .i64 x.t.k, .slice x.t.a x.t.l.length x.t.c, .int .i64 x.f.k, .slice x.f.a x.f.l.length x.f.c, .slice x.a x.l.length x.c], .string s] w fun e w' => e = .returned (.bool true) ∧ Below w.heap.size w w' := by
  have hb0 : ∀ o, Below w.heap.size w (w.alloc o) := fun o => (Below.refl _ _).alloc (Nat.le_refl _) _
  have HPR : Hid (∀ o, Calls Tryd.prog 8 #[.agg #[.int .i64 x.k, .int .i64 x.n, .int .i64 x.t.k, .slice x.t.a x.t.l.length x.t.c, .int .i64 x.f.k, .slice x.f.a x.f.l.length x.f.c, .slice x.a x.l.length x.c]] (w.alloc o) (PrPost x.tm (w.alloc o))) := fun o => print_any x _ (hg.below (hb0 o)) (hx.below (hb0 o)) hnb
  have HX : Hid (x.In w ∧ Gl w) := ⟨hx, hg⟩
  have HB0 : Hid (∀ o, Below w.heap.size w (w.alloc o)) := hb0
  have HM : Hid (s.size ≤ 9223372036854775807) := hm
  clear hx hg hnb hb0 hm
  go_enter Tryd.func3, Tryd.ntmps3
  go_wp2_with fail
  refine (HPR.out _).mono ?_
  rintro e w1 ⟨xs, er, rfl, hb1, hpr⟩
  have hbk := back_text hpr
  have hbw1 : Below w.heap.size w w1 := (HB0.out _).trans (hb1.mono (by simp))
  have b7 : At7 w1 w.heap.size 0 x := At7.below hb1 (by constructor <;> simp [go_sem])
  have HP1 : Hid (Calls Tryd.prog 9 #[.string xs] w1 (PsL xs w1)) := parse_letters xs (by have := hbk.1; omega) w1 (HX.out.2.below hbw1)
  have HBK : Hid ((er = 0 ∧ goodM 0 x.tm = true ∧ parseS xs.data.toList = some x.tm) ∨ (er == 0) = false) := hbk.2
  have HXS : Hid (xs.size ≤ 1000) := hbk.1
  have H1 : Hid (Below w.heap.size w w1 ∧ At7 w1 w.heap.size 0 x) := ⟨hbw1, b7⟩
  clear hb1 hpr hbk hbw1 b7 HPR
  go_wp2_with fail
  refine HP1.out.mono ?_
  rintro e w2 ⟨u, f, rfl, hiu, hnu, hb2, hps⟩
  have hbw2 : Below w.heap.size w w2 := H1.out.1.trans (hb2.mono H1.out.1.size)
  have hlw : w.heap.size < w2.heap.size := by have := H1.out.2.lt; have := hb2.size; omega
  have H2 : Hid (∀ o, Below w.heap.size w (w2.alloc o) ∧ At7 (w2.alloc o) w.heap.size 0 x ∧ u.In (w2.alloc o)) := fun o => by
    have hbo : Below w2.heap.size w2 (w2.alloc o) := (Below.refl _ _).alloc (Nat.le_refl _) _
    exact ⟨hbw2.trans (hbo.mono hbw2.size), At7.below hbo (At7.below hb2 H1.out.2), hiu.below hbo⟩
  have HPS : Hid ((f = 0 ∧ parseS xs.data.toList = some u.tm) ∨ ((f == 0) = false ∧ (xs.size ≤ 1000 → parseS xs.data.toList = none))) := hps
  clear hb2 hps hnu hiu hbw2 HP1
  -- region 3, in two ways
  have hcase : (er = 0 ∧ f = 0 ∧ goodM 0 x.tm = true ∧ x.tm = u.tm) ∨ (er == 0) = false := by
    rcases HBK.out with ⟨h1, h2, h3⟩ | h
    · left
      rcases HPS.out with ⟨h4, h5⟩ | ⟨_, h5⟩
      · rw [h3] at h5; exact ⟨h1, h4, h2, Option.some.inj h5⟩
      · rw [h3] at h5; exact absurd (h5 HXS.out) (by simp)
    · exact .inr h
  have HPS2 : Hid (∀ W, Gl W → Calls Tryd.prog 9 #[.string s] W (PsL s W)) := fun W hW => parse_letters s HM.out W hW
  clear HBK HPS HXS H1
  rcases hcase with ⟨rfl, rfl, hgd, htm⟩ | he0
  focus
    obtain ⟨htok, hsz⟩ := goodM_tok hgd
    have HSM : Hid (∀ W, x.In W → u.In W → Calls Tryd.prog 10 #[.agg #[.int .i64 x.k, .int .i64 x.n, .int .i64 x.t.k, .slice x.t.a x.t.l.length x.t.c, .int .i64 x.f.k, .slice x.f.a x.f.l.length x.f.c, .slice x.a x.l.length x.c], .agg #[.int .i64 u.k, .int .i64 u.n, .int .i64 u.t.k, .slice u.t.a u.t.l.length u.t.c, .int .i64 u.f.k, .slice u.f.a u.f.l.length u.f.c, .slice u.a u.l.length u.c]] W fun e w' => e = .returned (.bool true) ∧ Below W.heap.size W w') := fun W h1 h2 => sameTm_yes x u W h1 h2 htm htok (by omega)
    obtain ⟨O, hO⟩ : ∃ O, O = Obj.cells #[.int .i64 u.k, .int .i64 u.n, .int .i64 u.t.k, .slice u.t.a u.t.l.length u.t.c, .int .i64 u.f.k, .slice u.f.a u.f.l.length u.f.c, .slice u.a u.l.length u.c] 27 := ⟨_, rfl⟩
    have b7 := (H2.out O).2.1
    have b0 := b7.c0
    have b1 := b7.c1
    have b2 := b7.c2
    have b3 := b7.c3
    have b4 := b7.c4
    have b5 := b7.c5
    have b6 := b7.c6
    simp only [Nat.zero_add] at b0 b1 b2 b3 b4 b5 b6
    have HS2 : Hid (Calls Tryd.prog 10 #[.agg #[.int .i64 x.k, .int .i64 x.n, .int .i64 x.t.k, .slice x.t.a x.t.l.length x.t.c, .int .i64 x.f.k, .slice x.f.a x.f.l.length x.f.c, .slice x.a x.l.length x.c], .agg #[.int .i64 u.k, .int .i64 u.n, .int .i64 u.t.k, .slice u.t.a u.t.l.length u.t.c, .int .i64 u.f.k, .slice u.f.a u.f.l.length u.f.c, .slice u.a u.l.length u.c]] (w2.alloc O) fun e w' => e = .returned (.bool true) ∧ Below (w2.alloc O).heap.size (w2.alloc O) w') := HSM.out _ (HX.out.1.below (H2.out O).1) (H2.out O).2.2
    have HW2 : Hid (Below w.heap.size w (w2.alloc O)) := (H2.out O).1
    subst hO
    clear hgd htm htok hsz b7 H2 HSM
    go_wp2_with fail
    refine HS2.out.mono ?_
    rintro e w3 ⟨rfl, hb3⟩
    have HB3 : Hid (Below w.heap.size w w3 ∧ Gl w3) := ⟨HW2.out.trans (hb3.mono HW2.out.size), HX.out.2.below (HW2.out.trans (hb3.mono HW2.out.size))⟩
    clear hb3 HS2 HW2 b0 b1 b2 b3 b4 b5 b6
    go_wp2_with fail
  rotate_left
  focus
    obtain ⟨O, hO⟩ : ∃ O, O = Obj.cells #[.int .i64 u.k, .int .i64 u.n, .int .i64 u.t.k, .slice u.t.a u.t.l.length u.t.c, .int .i64 u.f.k, .slice u.f.a u.f.l.length u.f.c, .slice u.a u.l.length u.c] 27 := ⟨_, rfl⟩
    obtain ⟨w3, hw3⟩ : ∃ W, W = w2.alloc O := ⟨_, rfl⟩
    have HB3 : Hid (Below w.heap.size w w3 ∧ Gl w3) := by rw [hw3]; exact ⟨(H2.out O).1, HX.out.2.below (H2.out O).1⟩
    subst hO
    clear H2
    go_wp2_with fail
    rw [← hw3]
    clear hw3
  all_goals
    refine (HPS2.out _ HB3.out.2).mono ?_
    rintro e w4 ⟨u2, f2, rfl, hi4, hn4, hb4, hp4⟩
    have hbw4 : Below w.heap.size w w4 := HB3.out.1.trans (hb4.mono HB3.out.1.size)
    have hbo : ∀ o, Below w4.heap.size w4 (w4.alloc o) := fun o => (Below.refl _ _).alloc (Nat.le_refl _) _
    have HPR2 : Hid (∀ o, Calls Tryd.prog 8 #[.agg #[.int .i64 u2.k, .int .i64 u2.n, .int .i64 u2.t.k, .slice u2.t.a u2.t.l.length u2.t.c, .int .i64 u2.f.k, .slice u2.f.a u2.f.l.length u2.f.c, .slice u2.a u2.l.length u2.c]] (w4.alloc o) (PrPost u2.tm (w4.alloc o))) := fun o => print_any u2 _ ((HX.out.2.below hbw4).below (hbo o)) (hi4.below (hbo o)) hn4
    have H4 : Hid (Below w.heap.size w w4 ∧ u2.In w4) := ⟨hbw4, hi4⟩
    have HP4 : Hid ((f2 = 0 ∧ parseS s.data.toList = some u2.tm) ∨ (f2 == 0) = false) := by
      rcases hp4 with h | h
      · exact .inl h
      · exact .inr h.1
    clear hbw4 hbo hi4 hn4 hb4 hp4 HPS2 HB3
    go_wp2_with fail
    refine (HPR2.out _).mono ?_
    rintro e w5 ⟨y, g, rfl, hb5, hpr5⟩
    have hbk := back_text hpr5
    have d7 : At7 w5 w4.heap.size 0 u2 := At7.below hb5 (by constructor <;> simp [go_sem])
    have hb45 : Below w4.heap.size w4 w5 := ((Below.refl _ _).alloc (Nat.le_refl _) _).trans (hb5.mono (by simp))
    have hbw5 : Below w.heap.size w w5 := H4.out.1.trans (hb45.mono H4.out.1.size)
    have HBK : Hid ((g = 0 ∧ goodM 0 u2.tm = true ∧ parseS y.data.toList = some u2.tm) ∨ (g == 0) = false) := hbk.2
    have HY : Hid (y.size ≤ 1000) := hbk.1
    have H5 : Hid (Below w.heap.size w w5 ∧ At7 w5 w4.heap.size 0 u2 ∧ u2.In w5) := ⟨hbw5, d7, H4.out.2.below hb45⟩
    have HTM : Hid (Calls Tryd.prog 11 #[] w5 fun e w' => e = .returned (.bool true) ∧ Below w5.heap.size w5 w') := terms_any w5 (HX.out.2.below hbw5)
    clear hb5 hpr5 hbk d7 hb45 hbw5 HPR2 H4
    rcases HP4.out with ⟨rfl, hps2⟩ | hf2
    · rcases HBK.out with ⟨rfl, hgd, hpy⟩ | hg0
      · obtain ⟨htok, hsz⟩ := goodM_tok hgd
        have HP6 : Hid (Calls Tryd.prog 9 #[.string y] w5 (PsL y w5)) := parse_letters y (by have := HY.out; omega) w5 (HX.out.2.below H5.out.1)
        have HPY : Hid (parseS y.data.toList = some u2.tm ∧ u2.tok ∧ u2.sz ≤ 40) := ⟨hpy, htok, hsz⟩
        clear hgd hpy hps2 htok hsz HBK HP4 HTM
        go_wp2_with fail
        refine HP6.out.mono ?_
        rintro e w6 ⟨v, h, rfl, hi6, hn6, hb6, hp6⟩
        obtain ⟨rfl, hvt⟩ : h = 0 ∧ u2.tm = v.tm := by
          rcases hp6 with ⟨h1, h2⟩ | ⟨_, h2⟩
          · rw [HPY.out.1] at h2; exact ⟨h1, Option.some.inj h2⟩
          · rw [HPY.out.1] at h2; exact absurd (h2 HY.out) (by simp)
        have hbo : ∀ o, Below w6.heap.size w6 (w6.alloc o) := fun o => (Below.refl _ _).alloc (Nat.le_refl _) _
        have hbw6 : Below w.heap.size w w6 := H5.out.1.trans (hb6.mono H5.out.1.size)
        have HSM : Hid (∀ o, Calls Tryd.prog 10 #[.agg #[.int .i64 u2.k, .int .i64 u2.n, .int .i64 u2.t.k, .slice u2.t.a u2.t.l.length u2.t.c, .int .i64 u2.f.k, .slice u2.f.a u2.f.l.length u2.f.c, .slice u2.a u2.l.length u2.c], .agg #[.int .i64 v.k, .int .i64 v.n, .int .i64 v.t.k, .slice v.t.a v.t.l.length v.t.c, .int .i64 v.f.k, .slice v.f.a v.f.l.length v.f.c, .slice v.a v.l.length v.c]] (w6.alloc o) fun e w' => e = .returned (.bool true) ∧ Below (w6.alloc o).heap.size (w6.alloc o) w') := fun o => sameTm_yes u2 v _ ((H5.out.2.2.below hb6).below (hbo o)) (hi6.below (hbo o)) hvt HPY.out.2.1 (by have := HPY.out.2.2; omega)
        have d7 := At7.below hb6 H5.out.2.1
        have hlt6 : w4.heap.size < w6.heap.size := d7.lt
        have d0 := d7.c0
        have d1 := d7.c1
        have d2 := d7.c2
        have d3 := d7.c3
        have d4 := d7.c4
        have d5 := d7.c5
        have d6 := d7.c6
        simp only [Nat.zero_add] at d0 d1 d2 d3 d4 d5 d6
        have H6 : Hid (∀ o, Below w.heap.size w (w6.alloc o)) := fun o => hbw6.trans ((hbo o).mono hbw6.size)
        clear hi6 hn6 hb6 hp6 hvt hbo hbw6 d7 HP6 HPY H5
        go_wp2_with fail
        refine (HSM.out _).mono ?_
        rintro e w7 ⟨rfl, hb7⟩
        have hbw7 : Below w.heap.size w w7 := (H6.out _).trans (hb7.mono (H6.out _).size)
        have HT7 : Hid (Calls Tryd.prog 11 #[] w7 fun e w' => e = .returned (.bool true) ∧ Below w7.heap.size w7 w') := terms_any w7 (HX.out.2.below hbw7)
        have H7 : Hid (Below w.heap.size w w7) := hbw7
        clear hb7 hbw7 HSM H6 d0 d1 d2 d3 d4 d5 d6
        go_wp2_with fail
        refine HT7.out.mono ?_
        rintro e w8 ⟨rfl, hb8⟩
        have H8 : Hid (Below w.heap.size w w8) := H7.out.trans (hb8.mono H7.out.size)
        clear hb8 HT7 H7
        go_wp2_with fail
        go_ret
        exact ⟨rfl, H8.out⟩
      · have hg1 : (g != 0) = true := by rw [bne, hg0]; rfl
        clear hps2 HBK HP4
        go_wp2_with fail
        refine HTM.out.mono ?_
        rintro e w8 ⟨rfl, hb8⟩
        have H8 : Hid (Below w.heap.size w w8) := H5.out.1.trans (hb8.mono H5.out.1.size)
        clear hb8 HTM H5
        go_wp2_with fail
        go_ret
        exact ⟨rfl, H8.out⟩
    · have hf3 : (f2 != 0) = true := by rw [bne, hf2]; rfl
      clear HBK HP4
      go_wp2_with fail
      refine HTM.out.mono ?_
      rintro e w8 ⟨rfl, hb8⟩
      have H8 : Hid (Below w.heap.size w w8) := H5.out.1.trans (hb8.mono H5.out.1.size)
      clear hb8 HTM H5
      go_wp2_with fail
      go_ret
      exact ⟨rfl, H8.out⟩
end Go.Proofs.YtnddkmccagiclaaDoor

/-
  Whatever can be read as data of the type 'Type{Kind int, L []Type}' is a tree that lies in memory.
-/
namespace Go.Proofs.YtnddkmccagiclaaDoor
open Go.ChangeShapes Go.WideShapes Go.ChangeAt Go.RowKit

theorem Tryd.cells24 : Tryd.prog.cellsOf 24 = 2 := by kernel_rfl
theorem Tryd.cells22 : Tryd.prog.cellsOf 22 = 1 := by kernel_rfl
theorem Tryd.cells3 : Tryd.prog.cellsOf 3 = 1 := by kernel_rfl

theorem cell_spot {w : World} {a : Addr} {v : Value} (h : w.cell? a = some v) : a = ⟨a.block, a.off, none⟩ := by
  obtain ⟨b, o, s⟩ := a
  cases s with
  | none => rfl
  | some s =>
    unfold World.cell? at h
    split at h <;> simp at h

theorem cellsTwo {w : World} {base : Nat} {a : Addr} {u v : Value} (h : w.cells? base a 2 = some [u, v]) : w.cell? a = some u ∧ w.cell? (a.add 1) = some v := by
  unfold World.cells? at h
  split at h
  · have h0 : a.add 0 = a := by simp [Addr.add]
    simp only [List.range_succ, List.range_zero, List.nil_append, List.cons_append, List.mapM_cons, List.mapM_nil, h0] at h
    cases hu : w.cell? a with
    | none => simp [hu] at h
    | some u' =>
      cases hv : w.cell? (a.add 1) with
      | none => simp [hu, hv] at h
      | some v' =>
        simp [hu, hv] at h
        exact ⟨by rw [h.1], by rw [h.2]⟩
  · cases h

set_option maxRecDepth 100000 in
theorem tr_of {H : Type} {enc : TypeId × Value → H} {W : World} {base : Nat} {spare : Nat → Bool} {held : Bool} : ∀ (fuel : Nat) (cs : List Value) (x : DataW H × List MemPlace),
    DataW.trod enc Tryd.prog W base spare held fuel 24 cs = some x → ∃ t : Tr, cs = [.int .i64 t.k, .slice t.a t.l.length t.c] ∧ t.In W := by
  intro fuel
  induction fuel using Nat.strongRecOn with
  | _ fuel ih =>
    intro cs x h
    obtain ⟨xs, n, rfl, _, hl, hlen, hf⟩ := DataW.trod_struct Tryd.underlying24 h
    rw [Tryd.cells24] at hl
    match cs, hl with
    | [c0, c1], _ =>
      have h0 := hf 0 { name := "Kind", type := 3, offset := 0, embedded := false, tag := "", pkgPath := "", byteOffset := 0 } rfl
      have h1 := hf 1 { name := "L", type := 22, offset := 1, embedded := false, tag := "", pkgPath := "", byteOffset := 8 } rfl
      simp only [List.drop_zero, List.drop_succ_cons, Tryd.cells3, Tryd.cells22, List.take_succ_cons, List.take_zero] at h0 h1
      match xs, hlen with
      | [y0, y1], _ =>
        simp only [List.getElem?_cons_zero, List.getElem?_cons_succ] at h0 h1
        obtain ⟨k, hc0, _, _⟩ := DataW.trod_int Tryd.underlying3 h0
        simp only [List.cons.injEq, and_true] at hc0
        subst hc0
        rcases DataW.trod_slice Tryd.underlying22 h1 with ⟨hc1, _⟩ | ⟨a, len, cap, elems, rest, m, rfl, hc1, _, _, _, _, hel, hat, _⟩
        · simp only [List.cons.injEq, and_true] at hc1
          subst hc1
          exact ⟨.mk k none 0 [], rfl, Tr.In_nil _ _ _ _⟩
        · simp only [List.cons.injEq, and_true] at hc1
          subst hc1
          have hex : ∀ i, i < len → ∃ t : Tr, W.cells? base (a.add (i * 2)) 2 = some [.int .i64 t.k, .slice t.a t.l.length t.c] ∧ t.In W := by
            intro i hi
            have hi' := hat i hi
            rw [Tryd.cells24, List.getElem?_eq_getElem (by omega)] at hi'
            obtain ⟨cs', hcs, htr⟩ := Option.bind_eq_some_iff.1 hi'
            obtain ⟨t, rfl, hin⟩ := ih m (by omega) cs' _ htr
            exact ⟨t, hcs, hin⟩
          haveI : Inhabited Tr := ⟨.mk 0 none 0 []⟩
          obtain ⟨T, hT⟩ := Go.Deep.choose_lt hex
          refine ⟨.mk k (some a) cap ((List.range len).map T), by simp, ?_⟩
          refine Tr.In_mk.2 ⟨fun j hj => ?_, fun t ht => ?_⟩
          rotate_left
          · obtain ⟨i, hi, rfl⟩ := List.mem_map.1 ht
            exact (hT i (by simpa using hi)).2
          have hj' : j < len := by simpa using hj
          obtain ⟨hz, _⟩ := cellsTwo (hT 0 (by omega)).1
          simp only [Nat.zero_mul] at hz
          have ha0 : a.add 0 = a := by simp [Addr.add]
          rw [ha0] at hz
          have ha := cell_spot hz
          have hc := (hT j hj').1
          obtain ⟨c0, c1⟩ := cellsTwo hc
          have hadd : ∀ q, a.add q = ⟨a.block, a.off + q, none⟩ := by
            intro q
            rw [ha]
            unfold Addr.add
            by_cases hq : q = 0 <;> simp [hq]
          refine ⟨a.block, a.off, by rw [← ha], ?_, ?_⟩
          · rw [hadd] at c0
            simpa using c0
          · rw [Go.Deep.add_add, hadd] at c1
            simp only [List.getElem_map, List.getElem_range, Tr.sl]
            rw [show a.off + j * 2 + 1 = a.off + (j * 2 + 1) by omega]
            exact c1

set_option maxRecDepth 100000 in
/-- An argument of the type is a tree. -/
theorem tr_arg {H : Type} {enc : TypeId × Value → H} {W : World} {base b0 : Nat} {spare : Nat → Bool} {held : Bool} {r : Reach} {v : Value} {d : DataW H} {p : List MemPlace} (hv : Value.okWide Tryd.prog W r b0 24 v) (h : DataW.Trod enc Tryd.prog W base spare held 24 v d p) :
    ∃ t : Tr, v = .agg #[.int .i64 t.k, .slice t.a t.l.length t.c] ∧ t.In W := by
  obtain ⟨cs, rfl, _⟩ := okWide_struct Tryd.underlying24 hv
  obtain ⟨fuel, hf⟩ := h
  obtain ⟨t, ht, hin⟩ := tr_of fuel _ _ hf
  refine ⟨t, ?_, hin⟩
  have : cs.toList = [.int .i64 t.k, .slice t.a t.l.length t.c] := by simpa [Value.cells] using ht
  rw [← this]
end Go.Proofs.YtnddkmccagiclaaDoor

/-
  Whatever can be read as data of the type 'Term' is a term's tree that lies in memory.
-/
namespace Go.Proofs.YtnddkmccagiclaaDoor
open Go.ChangeShapes Go.WideShapes Go.ChangeAt Go.RowKit

theorem Tryd.cells27 : Tryd.prog.cellsOf 27 = 7 := by kernel_rfl
theorem Tryd.cells25 : Tryd.prog.cellsOf 25 = 1 := by kernel_rfl

theorem cells_seven {w : World} {base : Nat} {a : Addr} {l : List Value} (h : w.cells? base a 7 = some l) : ∀ i, i < 7 → w.cell? (a.add i) = l[i]? := by
  unfold World.cells? at h
  split at h
  · intro i hi
    have hm := Lib.mapM_at h i i (by simp [hi])
    obtain ⟨b, hb, hf⟩ := hm
    rw [hb]
    exact hf
  · cases h

theorem int_le {n : Int} (h : (Lit.int .i64 n).wf = true) : n ≤ 9223372036854775807 := (bounds_i64 h).2

set_option maxRecDepth 100000 in
theorem tm_of {H : Type} {enc : TypeId × Value → H} {W : World} {base : Nat} {spare : Nat → Bool} {held : Bool} : ∀ (fuel : Nat) (cs : List Value) (x : DataW H × List MemPlace),
    DataW.trod enc Tryd.prog W base spare held fuel 27 cs = some x → ∃ t : TT, cs = [.int .i64 t.k, .int .i64 t.n, .int .i64 t.t.k, .slice t.t.a t.t.l.length t.t.c, .int .i64 t.f.k, .slice t.f.a t.f.l.length t.f.c, .slice t.a t.l.length t.c] ∧ t.In W ∧ t.nb := by
  intro fuel
  induction fuel using Nat.strongRecOn with
  | _ fuel ih =>
    intro cs x h
    obtain ⟨xs, n, rfl, _, hl, hlen, hf⟩ := DataW.trod_struct Tryd.underlying27 h
    rw [Tryd.cells27] at hl
    match cs, hl with
    | [c0, c1, c2, c3, c4, c5, c6], _ =>
      have h0 := hf 0 { name := "Kind", type := 3, offset := 0, embedded := false, tag := "", pkgPath := "", byteOffset := 0 } rfl
      have h1 := hf 1 { name := "N", type := 3, offset := 1, embedded := false, tag := "", pkgPath := "", byteOffset := 8 } rfl
      have h2 := hf 2 { name := "T", type := 24, offset := 2, embedded := false, tag := "", pkgPath := "", byteOffset := 16 } rfl
      have h3 := hf 3 { name := "From", type := 24, offset := 4, embedded := false, tag := "", pkgPath := "", byteOffset := 48 } rfl
      have h4 := hf 4 { name := "L", type := 25, offset := 6, embedded := false, tag := "", pkgPath := "", byteOffset := 80 } rfl
      simp only [List.drop_zero, List.drop_succ_cons, Tryd.cells3, Tryd.cells24, Tryd.cells25, List.take_succ_cons, List.take_zero] at h0 h1 h2 h3 h4
      match xs, hlen with
      | [y0, y1, y2, y3, y4], _ =>
        simp only [List.getElem?_cons_zero, List.getElem?_cons_succ] at h0 h1 h2 h3 h4
        obtain ⟨k, hc0, _, _⟩ := DataW.trod_int Tryd.underlying3 h0
        obtain ⟨nn, hc1, _, hwf⟩ := DataW.trod_int Tryd.underlying3 h1
        obtain ⟨t, hc2, ht⟩ := tr_of n _ _ h2
        obtain ⟨f, hc4, hfi⟩ := tr_of n _ _ h3
        simp only [List.cons.injEq, and_true] at hc0 hc1 hc2 hc4
        obtain ⟨rfl, rfl⟩ := hc2
        obtain ⟨rfl, rfl⟩ := hc4
        subst hc0 hc1
        rcases DataW.trod_slice Tryd.underlying25 h4 with ⟨hc6, _⟩ | ⟨a, len, cap, elems, rest, m, rfl, hc6, _, _, _, _, hel, hat, _⟩
        · simp only [List.cons.injEq, and_true] at hc6
          subst hc6
          exact ⟨.mk k nn t f none 0 [], rfl, TT.In_mk.2 ⟨ht, hfi, fun j h => absurd h (by simp), fun t h => by cases h⟩, TT.nb_mk.2 ⟨int_le hwf, fun t h => by cases h⟩⟩
        · simp only [List.cons.injEq, and_true] at hc6
          subst hc6
          have hex : ∀ i, i < len → ∃ t : TT, W.cells? base (a.add (i * 7)) 7 = some [.int .i64 t.k, .int .i64 t.n, .int .i64 t.t.k, .slice t.t.a t.t.l.length t.t.c, .int .i64 t.f.k, .slice t.f.a t.f.l.length t.f.c, .slice t.a t.l.length t.c] ∧ t.In W ∧ t.nb := by
            intro i hi
            have hi' := hat i hi
            rw [Tryd.cells27, List.getElem?_eq_getElem (by omega)] at hi'
            obtain ⟨cs', hcs, htr⟩ := Option.bind_eq_some_iff.1 hi'
            obtain ⟨t, rfl, hin⟩ := ih m (by omega) cs' _ htr
            exact ⟨t, hcs, hin⟩
          haveI : Inhabited TT := ⟨tleaf 0 0⟩
          obtain ⟨T, hT⟩ := Go.Deep.choose_lt hex
          refine ⟨.mk k nn t f (some a) cap ((List.range len).map T), by simp, ?_, ?_⟩
          · refine TT.In_mk.2 ⟨ht, hfi, fun j hj => ?_, fun t ht => ?_⟩
            rotate_left
            · obtain ⟨i, hi, rfl⟩ := List.mem_map.1 ht
              exact (hT i (by simpa using hi)).2.1
            have hj' : j < len := by simpa using hj
            have hz := cells_seven (hT 0 (by omega)).1 0 (by omega)
            simp only [Nat.zero_mul, List.getElem?_cons_zero] at hz
            have ha0 : (a.add 0).add 0 = a := by simp [Addr.add]
            rw [ha0] at hz
            have ha := cell_spot hz
            have hc := cells_seven (hT j hj').1
            have hadd : ∀ q, a.add q = ⟨a.block, a.off + q, none⟩ := by
              intro q
              rw [ha]
              unfold Addr.add
              by_cases hq : q = 0 <;> simp [hq]
            have hat7 : ∀ i, i < 7 → W.cell? ⟨a.block, a.off + j * 7 + i, none⟩ = [Value.int .i64 (T j).k, .int .i64 (T j).n, .int .i64 (T j).t.k, .slice (T j).t.a (T j).t.l.length (T j).t.c, .int .i64 (T j).f.k, .slice (T j).f.a (T j).f.l.length (T j).f.c, .slice (T j).a (T j).l.length (T j).c][i]? := by
              intro i hi
              have := hc i hi
              rw [Go.Deep.add_add, hadd] at this
              rw [show a.off + j * 7 + i = a.off + (j * 7 + i) by omega]
              exact this
            refine ⟨a.block, a.off, by rw [← ha], ?_⟩
            simp only [List.getElem_map, List.getElem_range]
            exact ⟨hat7 0 (by omega), hat7 1 (by omega), hat7 2 (by omega), hat7 3 (by omega), hat7 4 (by omega), hat7 5 (by omega), hat7 6 (by omega)⟩
          · refine TT.nb_mk.2 ⟨int_le hwf, fun t ht => ?_⟩
            obtain ⟨i, hi, rfl⟩ := List.mem_map.1 ht
            exact (hT i (by simpa using hi)).2.2

set_option maxRecDepth 100000 in
/-- An argument of the type is a term's tree. -/
theorem tm_arg {H : Type} {enc : TypeId × Value → H} {W : World} {base b0 : Nat} {spare : Nat → Bool} {held : Bool} {r : Reach} {v : Value} {d : DataW H} {p : List MemPlace} (hv : Value.okWide Tryd.prog W r b0 27 v) (h : DataW.Trod enc Tryd.prog W base spare held 27 v d p) :
    ∃ t : TT, v = .agg #[.int .i64 t.k, .int .i64 t.n, .int .i64 t.t.k, .slice t.t.a t.t.l.length t.t.c, .int .i64 t.f.k, .slice t.f.a t.f.l.length t.f.c, .slice t.a t.l.length t.c] ∧ t.In W ∧ t.nb := by
  obtain ⟨cs, rfl, _⟩ := okWide_struct Tryd.underlying27 hv
  obtain ⟨fuel, hf⟩ := h
  obtain ⟨t, ht, hin⟩ := tm_of fuel _ _ hf
  refine ⟨t, ?_, hin⟩
  have : cs.toList = [.int .i64 t.k, .int .i64 t.n, .int .i64 t.t.k, .slice t.t.a t.t.l.length t.t.c, .int .i64 t.f.k, .slice t.f.a t.f.l.length t.f.c, .slice t.a t.l.length t.c] := by simpa [Value.cells] using ht
  rw [← this]
end Go.Proofs.YtnddkmccagiclaaDoor
