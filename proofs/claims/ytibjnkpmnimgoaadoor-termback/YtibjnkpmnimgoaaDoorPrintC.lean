/-
  What the calls of term.termText and term.Print answer.
-/
import Derived.Test.YtibjnkpmnimgoaaDoorPrintB
namespace Go.Proofs.YtibjnkpmnimgoaaDoor
open Go.RowKit

theorem words_cell {w : World} (hg : Gl w) (k : Int) (h1 : 4 ≤ k) (h2 : k ≤ 9) : w.cell? ⟨1, k.toNat, none⟩ = some (.string (bw (kindW k))) := by
  rw [hg.wd.cell]
  obtain rfl | rfl | rfl | rfl | rfl | rfl : k = 4 ∨ k = 5 ∨ k = 6 ∨ k = 7 ∨ k = 8 ∨ k = 9 := by omega
  all_goals rfl

theorem truth_cell {w : World} (hg : Gl w) (n : Int) (h : n = 0 ∨ n = 1) : w.cell? ⟨0, n.toNat, none⟩ = some (.string (bw (truthW n))) := by
  rw [hg.tw.cell]
  rcases h with rfl | rfl
  all_goals rfl

theorem itoa_any (v : Int) (h0 : -1000000 ≤ v) (h1 : v ≤ 1000000) (W : World) (hg : Gl W) : Calls Tryd.prog 51 #[.int .i64 v] W fun e w' => e = .returned (.string (bw (Lib.itoa v))) ∧ Below W.heap.size W w' := by
  refine (Tryd.strconv_Itoa v (by omega) (by omega) W hg.pow).mono ?_
  rintro e w' ⟨rfl, k, os, rfl⟩
  exact ⟨rfl, below_grew _ _ _⟩

set_option maxRecDepth 20000 in
set_option maxHeartbeats 1000000 in
theorem termText_word (x : TT) (w : World) (hg : Gl w) (hk : x.k = 1 ∨ x.k = 2 ∨ x.k = 3) (h0 : -1000000 ≤ x.n) (h1 : x.n ≤ 1000000) (h3 : x.k = 3 → x.n = 0 ∨ x.n = 1) :
    Calls Tryd.prog 33 #[.agg #[.int .i64 x.k, .int .i64 x.n, .int .i64 x.t.k, .slice x.t.a x.t.l.length x.t.c, .int .i64 x.f.k, .slice x.f.a x.f.l.length x.f.c, .slice x.a x.l.length x.c]] w fun e w' => e = .returned (.string (bw (if x.k = 1 then 35 :: Lib.itoa x.n else if x.k = 2 then Lib.itoa x.n else truthW x.n))) ∧ Below w.heap.size w w' := by
  have hl := itoa_short x.n h0 h1
  have HI : Hid (∀ W, Gl W → Calls Tryd.prog 51 #[.int .i64 x.n] W fun e w' => e = .returned (.string (bw (Lib.itoa x.n))) ∧ Below W.heap.size W w') := itoa_any x.n h0 h1
  have hb0 : ∀ o, Below w.heap.size w (w.alloc o) := fun o => (Below.refl _ _).alloc (Nat.le_refl _) _
  have HG : Hid (∀ o, Gl (w.alloc o)) := fun o => hg.below (hb0 o)
  have hgs := hg.size
  by_cases k1 : x.k = 1
  · rw [if_pos k1]
    have e1 : (x.k == 1) = true := by simp [k1]
    have a1 : ∀ w, (Op.stringOp .add ⟨#[35]⟩ (bw (Lib.itoa x.n))).run Tryd.prog w = .ok (.string (bw (35 :: Lib.itoa x.n))) w := cat_run [35] (Lib.itoa x.n) (by simp; omega)
    clear hg hk h3 k1 hb0
    go_enter Tryd.func33, Tryd.ntmps33
    go_wp2_with fail
    refine (HI.out _ (HG.out _)).mono ?_
    rintro e w1 ⟨rfl, hb1⟩
    have hb2 : Below w.heap.size w w1 := ((Below.refl _ _).alloc (Nat.le_refl _) _).trans (hb1.mono (by simp))
    clear hb1
    go_wp2_with fail
    go_ret
    exact ⟨rfl, hb2⟩
  · rw [if_neg k1]
    have e1 : (x.k == 1) = false := by simpa using k1
    by_cases k2 : x.k = 2
    · rw [if_pos k2]
      have e2 : (x.k == 2) = true := by simp [k2]
      clear hg hk h3 k1 k2 hb0
      go_enter Tryd.func33, Tryd.ntmps33
      go_wp2_with fail
      refine (HI.out _ (HG.out _)).mono ?_
      rintro e w1 ⟨rfl, hb1⟩
      have hb2 : Below w.heap.size w w1 := ((Below.refl _ _).alloc (Nat.le_refl _) _).trans (hb1.mono (by simp))
      clear hb1
      go_wp2_with fail
      go_ret
      exact ⟨rfl, hb2⟩
    · rw [if_neg k2]
      have e2 : (x.k == 2) = false := by simpa using k2
      have k3 : x.k = 3 := by omega
      have e3 : (x.k == 3) = true := by simp [k3]
      have hc := truth_cell hg x.n (h3 k3)
      have i0 : (0 : Int) ≤ x.n := by have := h3 k3; omega
      have i1 : x.n < 2 := by have := h3 k3; omega
      have hne : (0 : Nat) < w.heap.size := by omega
      clear hg hk h3 k1 k2 k3 hb0
      go_enter Tryd.func33, Tryd.ntmps33
      go_wp2_with fail
      go_ret
      exact ⟨rfl, (Below.refl _ _).alloc (Nat.le_refl _) _⟩

set_option maxRecDepth 20000 in
set_option maxHeartbeats 4000000 in
theorem termText_parts (x : TT) (w : World) (hg : Gl w) (hx : x.In w) (h4 : 4 ≤ x.k) (h9 : x.k ≤ 9) (hln : x.l.length ≤ 3) (hty : tells x.k = true → goodY 4 x.t.ty = true)
    (tf : TT → List UInt8) (pre : List UInt8) (hpre : pre = 40 :: kindW x.k ++ (if tells x.k = true then 32 :: tyText 4 x.t.ty else []))
    (hlen : ∀ j (hj : j < x.l.length), (tf x.l[j]).length ≤ 1000000)
    (HC : Hid (∀ (j : Nat) (hj : j < x.l.length) (W : World), Gl W → x.l[j].In W → Calls Tryd.prog 33 #[.agg #[.int .i64 x.l[j].k, .int .i64 x.l[j].n, .int .i64 x.l[j].t.k, .slice x.l[j].t.a x.l[j].t.l.length x.l[j].t.c, .int .i64 x.l[j].f.k, .slice x.l[j].f.a x.l[j].f.l.length x.l[j].f.c, .slice x.l[j].a x.l[j].l.length x.l[j].c]] W fun e w' => e = .returned (.string (bw (tf x.l[j]))) ∧ Below W.heap.size W w')) :
    Calls Tryd.prog 33 #[.agg #[.int .i64 x.k, .int .i64 x.n, .int .i64 x.t.k, .slice x.t.a x.t.l.length x.t.c, .int .i64 x.f.k, .slice x.f.a x.f.l.length x.f.c, .slice x.a x.l.length x.c]] w fun e w' => e = .returned (.string (bw (pre ++ x.l.flatMap (fun y => 32 :: tf y) ++ [41]))) ∧ Below w.heap.size w w' := by
  have e1 : (x.k == 1) = false := by simp; omega
  have e2 : (x.k == 2) = false := by simp; omega
  have e3 : (x.k == 3) = false := by simp; omega
  have hc := words_cell hg x.k h4 h9
  have i0 : (0 : Int) ≤ x.k := by omega
  have i1 : x.k < 10 := by omega
  have hgs := hg.size
  have hne : (1 : Nat) < w.heap.size := by omega
  have hkw : (kindW x.k).length ≤ 4 := by unfold kindW; repeat' split
                                          all_goals simp
  have a1 : ∀ w, (Op.stringOp .add ⟨#[40]⟩ (bw (kindW x.k))).run Tryd.prog w = .ok (.string (bw (40 :: kindW x.k))) w := cat_run [40] (kindW x.k) (by simp; omega)
  have hb0 : ∀ o, Below w.heap.size w (w.alloc o) := fun o => (Below.refl _ _).alloc (Nat.le_refl _) _
  have HG : Hid (∀ o, Gl (w.alloc o)) := fun o => hg.below (hb0 o)
  have HX : Hid (∀ o, x.In (w.alloc o)) := fun o => hx.below (hb0 o)
  have HB : Hid (∀ o, Below w.heap.size w (w.alloc o)) := hb0
  obtain ⟨bt, hbt⟩ : ∃ b, tells x.k = b := ⟨_, rfl⟩
  have HK : Hid (∀ w, Calls Tryd.prog 52 #[.int .i64 x.k] w fun e w' => e = .returned (.bool bt) ∧ w' = w) := by
    intro w
    have := tells_any x.k w
    rw [hbt] at this
    exact this
  rw [hbt] at hpre hty
  have htl := tyText_len 4 x.t.ty
  obtain ⟨TY, hTY⟩ : ∃ l, tyText 4 x.t.ty = l := ⟨_, rfl⟩
  have HT : Hid (bt = true → ∀ W, Gl W → x.t.In W → Calls Tryd.prog 53 #[.agg #[.int .i64 x.t.k, .slice x.t.a x.t.l.length x.t.c]] W fun e w' => e = .returned (.string (bw TY)) ∧ Below W.heap.size W w') := by
    intro hb W hgW hW
    have := typeText_any 4 (by omega) x.t W (hty hb) hW hgW
    rw [hTY] at this
    exact this
  rw [hTY] at hpre htl
  have htl' : TY.length ≤ 90 := by omega
  have a2 : ∀ w, (Op.stringOp .add ⟨#[32]⟩ (bw TY)).run Tryd.prog w = .ok (.string (bw (32 :: TY))) w := cat_run [32] TY (by simp; omega)
  have a3 : ∀ w, (Op.stringOp .add (bw (40 :: kindW x.k)) (bw (32 :: TY))).run Tryd.prog w = .ok (.string (bw (40 :: kindW x.k ++ 32 :: TY))) w := cat_run (40 :: kindW x.k) (32 :: TY) (by simp; omega)
  obtain ⟨KW, hKW⟩ : ∃ l, kindW x.k = l := ⟨_, rfl⟩
  rw [hKW] at hpre hc hkw a1 a3
  have HPRE : Hid (pre = 40 :: KW ++ (if bt = true then 32 :: TY else [])) := hpre
  have hpl : pre.length ≤ 100 := by rw [hpre]; split <;> simp <;> omega
  have HLN : Hid (∀ j (hj : j < x.l.length), (tf x.l[j]).length ≤ 1000000) := hlen
  clear hg hx hty hbt hTY hKW hpre htl h4 h9 hlen hb0
  cases bt
  rotate_left
  focus
    have HP2 : Hid (pre = 40 :: KW ++ 32 :: TY) := HPRE.out
    rw [← HP2.out] at a3
    go_enter Tryd.func33, Tryd.ntmps33
    go_wp2_with fail
    refine (HK.out _).mono ?_
    rintro e w' ⟨rfl, hw'⟩
    subst hw'
    go_wp2_with fail
    refine (HT.out trivial _ (HG.out _) (HX.out _).t).mono ?_
    rintro e w2 ⟨rfl, hb2⟩
    have HE2 : Hid (Below w.heap.size w w2 ∧ x.In w2 ∧ Gl w2) := ⟨(HB.out _).trans (hb2.mono (by simp)), (HX.out _).below hb2, (HG.out _).below hb2⟩
    have c6 : w2.cell? ⟨w.heap.size, 6, none⟩ = some (.slice x.a x.l.length x.c) := cell_later hb2 (by simp [go_sem])
    clear hb2
    go_wp2_with fail
  rotate_left
  focus
    have HP2 : Hid (pre = 40 :: KW) := by have := HPRE.out; simpa [Hid] using this
    rw [← HP2.out] at a1
    go_enter Tryd.func33, Tryd.ntmps33
    go_wp2_with fail
    refine (HK.out _).mono ?_
    rintro e w2 ⟨rfl, hw'⟩
    have HE2 : Hid (Below w.heap.size w w2 ∧ x.In w2 ∧ Gl w2) := by subst hw'; exact ⟨HB.out _, HX.out _, HG.out _⟩
    have c6 : w2.cell? ⟨w.heap.size, 6, none⟩ = some (.slice x.a x.l.length x.c) := by subst hw'; simp [go_sem]
    clear hw'
    go_wp2_with fail
  all_goals
    clear a1 a2 a3
    go_loopg [3, 42] x.l.length (fun g tv i wr => ∃ (j : Nat) (acc : List UInt8), g + j = x.l.length ∧ i = .int .i64 (j : Int) ∧ tv = .string (bw acc) ∧ Hid (acc = pre ++ (x.l.take j).flatMap (fun y => 32 :: tf y) ∧ acc.length ≤ 100 + j * 1000001 ∧ Below w2.heap.size w2 wr))
    case atStart => exact ⟨0, pre, by omega, rfl, rfl, by simp, by omega, Below.refl _ _⟩
    case round =>
      obtain ⟨j, acc, hj, rfl, rfl, HQ⟩ := hrel
      by_cases hlt : j < x.l.length
      · obtain ⟨b, o, ea, h7', hxj⟩ := HE2.out.2.1.part j hlt
        have h8 := h7'.below HQ.out.2.2
        have d0 := h8.c0
        have d1 := h8.c1
        have d2 := h8.c2
        have d3 := h8.c3
        have d4 := h8.c4
        have d5 := h8.c5
        have d6 := h8.c6
        have hbp : ∀ o, Below wr.heap.size wr (wr.alloc o) := fun o => (Below.refl _ _).alloc (Nat.le_refl _) _
        have HP : Hid (∀ o, Calls Tryd.prog 33 #[.agg #[.int .i64 x.l[j].k, .int .i64 x.l[j].n, .int .i64 x.l[j].t.k, .slice x.l[j].t.a x.l[j].t.l.length x.l[j].t.c, .int .i64 x.l[j].f.k, .slice x.l[j].f.a x.l[j].f.l.length x.l[j].f.c, .slice x.l[j].a x.l[j].l.length x.l[j].c]] (wr.alloc o) fun e w' => e = .returned (.string (bw (tf x.l[j]))) ∧ Below (wr.alloc o).heap.size (wr.alloc o) w') := fun o => HC.out j hlt _ ((HE2.out.2.2.below HQ.out.2.2).below (hbp o)) ((hxj.below HQ.out.2.2).below (hbp o))
        have i2 : (j : Int) < (x.l.length : Int) := by omega
        have i3 : (0 : Int) ≤ (j : Int) := by omega
        have hl1 := HLN.out j hlt
        have hl2 := HQ.out.2.1
        obtain ⟨T, hT⟩ : ∃ T, tf x.l[j] = T := ⟨_, rfl⟩
        rw [hT] at HP hl1
        have HTT : Hid (tf x.l[j] = T) := hT
        have b1 : ∀ w, (Op.stringOp .add ⟨#[32]⟩ (bw T)).run Tryd.prog w = .ok (.string (bw (32 :: T))) w := cat_run [32] T (by simp; omega)
        have b2 : ∀ w, (Op.stringOp .add (bw acc) (bw (32 :: T))).run Tryd.prog w = .ok (.string (bw (acc ++ 32 :: T))) w := cat_run acc (32 :: T) (by simp; omega)
        have HEA : Hid (x.a = some ⟨b, o, none⟩) := ea
        have HJ : Hid (gk + j = x.l.length) := hj
        rw [ea]
        clear h7' hxj h8 ea hbp hT hj hl2 hl1
        go_wp2_with fail
        refine (HP.out _).mono ?_
        rintro e w3 ⟨rfl, hb3⟩
        have HF : Hid (acc ++ 32 :: T = pre ++ (x.l.take (j + 1)).flatMap (fun y => 32 :: tf y) ∧ (acc ++ 32 :: T).length ≤ 100 + (j + 1) * 1000001 ∧ Below w2.heap.size w2 w3) := by
          refine ⟨?_, ?_, HQ.out.2.2.trans (((Below.refl _ _).alloc (Nat.le_refl _) _).trans (hb3.mono (by simp)) |>.mono HQ.out.2.2.size)⟩
          · rw [List.take_succ_eq_append_getElem hlt, List.flatMap_append, ← List.append_assoc, ← HQ.out.1]
            simp [HTT.out]
          · have h1 := HQ.out.2.1
            have h2 := HLN.out j hlt
            rw [HTT.out] at h2
            simp only [List.length_append, List.length_cons]
            omega
        clear hb3 HQ HP d0 d1 d2 d3 d4 d5 d6
        go_wp2_with fail
        rw [← HEA.out]
        go_roundg (x.l.length - (j + 1))
        case measure => have := HJ.out; omega
        case rel => exact ⟨j + 1, acc ++ 32 :: T, by have := HJ.out; omega, by go_num, rfl, HF⟩
      · have hl2 := HQ.out.2.1
        have b1 : ∀ w, (Op.stringOp .add (bw acc) ⟨#[41]⟩).run Tryd.prog w = .ok (.string (bw (acc ++ [41]))) w := cat_run acc [41] (by simp; omega)
        have HF : Hid (acc ++ [41] = pre ++ x.l.flatMap (fun y => 32 :: tf y) ++ [41] ∧ Below w.heap.size w wr) := by
          refine ⟨?_, HE2.out.1.trans (HQ.out.2.2.mono HE2.out.1.size)⟩
          rw [HQ.out.1, List.take_of_length_le (by omega)]
        clear HQ hj hl2
        go_wp2_with fail
        go_ret
        exact ⟨by rw [← HF.out.1]; rfl, HF.out.2⟩
end Go.Proofs.YtibjnkpmnimgoaaDoor
