/-
  What the call of chaperoneref.text answers at a term with parts.
-/
import Derived.Test.YtnddkmccagiclaaGreatDoorLot8d717cfea7
import Derived.Test.YtnddkmccagiclaaGreatDoorLot914012f14a
import Derived.Lib.AppendIntMem
import Derived.Test.YtnddkmccagiclaaGreatDoorLot7757a90fd4
import Derived.Test.YtnddkmccagiclaaGreatDoorLot8a8b3f08ee
import Derived.Test.YtnddkmccagiclaaGreatDoorLotf63a16e00c
import Derived.Maps.OwnOps
import Derived.WalkKit
namespace Go.Proofs.YtnddkmccagiclaaGreatDoor
open Go.RowKit

/-- The table of spaces, as it was laid. -/
def Ta (w : World) : Prop := Lib.TabIs Tryz.prog w "strings.asciiSpace" .u8 Lib.asciiSpaceTab
theorem Ta.below {w w' : World} (h : Ta w) (hb : Below w.heap.size w w') : Ta w' := Lib.tabBelow_of_tabIs h w' hb

theorem Tryz.info9s : (Tryz.prog.info? 9).map (fun i => (i.zero, i.size, i.bytes)) = some (some (.string ⟨#[]⟩), 1, 16) := by kernel_rfl
theorem Tryz.underlying57s : Tryz.prog.underlying 57 = some (.slice 9) := by kernel_rfl

theorem word_cell (k : Int) (h4 : 4 ≤ k) (h9 : k ≤ 9) (W : World) : (W.alloc (.cells #[.string (bw (kindW 4)), .string (bw (kindW 5)), .string (bw (kindW 6)), .string (bw (kindW 7)), .string (bw (kindW 8)), .string (bw (kindW 9))] 9)).cell? ⟨W.heap.size, (k - 4).toNat, none⟩ = some (.string (bw (kindW k))) := by
  obtain rfl | rfl | rfl | rfl | rfl | rfl : k = 4 ∨ k = 5 ∨ k = 6 ∨ k = 7 ∨ k = 8 ∨ k = 9 := by omega
  all_goals simp [go_sem]


theorem At7.all {W : World} {b : Nat} {x : TT} (h : At7 W b 0 x) : W.cell? ⟨b, 0, none⟩ = some (.int .i64 x.k) ∧ W.cell? ⟨b, 1, none⟩ = some (.int .i64 x.n) ∧ W.cell? ⟨b, 2, none⟩ = some (.int .i64 x.t.k) ∧ W.cell? ⟨b, 3, none⟩ = some (.slice x.t.a x.t.l.length x.t.c) ∧ W.cell? ⟨b, 4, none⟩ = some (.int .i64 x.f.k) ∧ W.cell? ⟨b, 5, none⟩ = some (.slice x.f.a x.f.l.length x.f.c) ∧ W.cell? ⟨b, 6, none⟩ = some (.slice x.a x.l.length x.c) := by
  obtain ⟨c0, c1, c2, c3, c4, c5, c6⟩ := h
  simp only [Nat.zero_add] at c0 c1 c2 c3 c4 c5 c6
  exact ⟨c0, c1, c2, c3, c4, c5, c6⟩

theorem join_text0 (kw : List UInt8) (l : List TT) (tf : TT → List UInt8) : 40 :: Lib.join ([kw] ++ l.map tf) [32] ++ [41] = 40 :: kw ++ [] ++ l.flatMap (fun y => 32 :: tf y) ++ [41] := by
  have h := join_words kw (l.map tf)
  rw [List.flatMap_map] at h
  have e : [kw] ++ l.map tf = kw :: l.map tf := rfl
  rw [e, h]
  simp
theorem join_text1 (kw ty : List UInt8) (l : List TT) (tf : TT → List UInt8) : 40 :: Lib.join ([kw, ty] ++ l.map tf) [32] ++ [41] = 40 :: kw ++ 32 :: ty ++ l.flatMap (fun y => 32 :: tf y) ++ [41] := by
  have h := join_words kw (ty :: l.map tf)
  rw [List.flatMap_cons, List.flatMap_map] at h
  have e : [kw, ty] ++ l.map tf = kw :: ty :: l.map tf := rfl
  rw [e, h]
  simp

theorem grown_low {B : Nat} {w4 w5 : World} {v : Value} {o : Obj} (hgrow : (w4.alloc o).grownBy w5 v.ownBlock) (hov : ∀ q, v.ownBlock = some q → B ≤ q ∧ q < w4.heap.size) (hB : B ≤ w4.heap.size) : Below B w4 w5 := by
  refine ⟨hgrow.os.trans rfl, hgrow.tape.trans rfl, hgrow.output.trans rfl, by have := hgrow.size; simp at this; omega, fun q hq => ?_⟩
  rw [hgrow.block q (by simp; omega) (fun e => by have := (hov q e.symm).1; omega)]
  exact ((Below.refl _ w4).alloc (Nat.le_refl _) _).block q (by omega)

theorem bw_back (ss : List (List UInt8)) : (ss.map bw).map (fun s : ByteArray => s.data.toList) = ss := by
  rw [List.map_map]
  exact List.map_id ss

theorem sum_small : ∀ (l : List (List UInt8)) (m : Nat), (∀ s, s ∈ l → s.length ≤ m) → (l.flatMap fun s => 32 :: s).length ≤ l.length * (m + 1)
  | [], m, _ => by simp
  | s :: r, m, h => by
    have h1 := sum_small r m fun t ht => h t (by simp [ht])
    have h2 := h s (by simp)
    simp only [List.flatMap_cons, List.length_append, List.length_cons, Nat.add_mul, Nat.one_mul]
    omega

theorem join_small {x : TT} {tf : TT → List UInt8} {ss r : List (List UInt8)} {kw TY : List UInt8} (hl : ∀ j (hj : j < x.l.length), (tf x.l[j]).length ≤ 1000000) (hs : ss = kw :: r ++ x.l.map tf) (ht : TY.length ≤ 90) (hk : kw.length ≤ 4) (hln : x.l.length ≤ 3) (hr : r = [TY] ∨ r = [] := by first | exact .inl rfl | exact .inr rfl) : (Lib.join ss [32]).length ≤ 10000000 := by
  subst hs
  rw [List.cons_append, join_words]
  have h := sum_small (r ++ x.l.map tf) 1000000 fun s hs => by
    rcases List.mem_append.1 hs with h | h
    · rcases hr with rfl | rfl
      · rcases List.mem_singleton.1 h with rfl; omega
      · cases h
    · obtain ⟨y, hy, rfl⟩ := List.mem_map.1 h
      obtain ⟨j, hj, rfl⟩ := List.getElem_of_mem hy
      exact hl j hj
  have hrl : (r ++ x.l.map tf).length ≤ 4 := by
    rcases hr with rfl | rfl <;> simp <;> omega
  rw [List.length_append]
  have := Nat.mul_le_mul_right (1000000 + 1) hrl
  omega

set_option maxRecDepth 20000 in
set_option maxHeartbeats 8000000 in
theorem refTm_parts (x : TT) (w : World) (hT : Ta w) (hx : x.In w) (h4 : 4 ≤ x.k) (h9 : x.k ≤ 9) (hln : x.l.length ≤ 3) (hty : tells x.k = true → goodY 4 x.t.ty = true)
    (tf : TT → List UInt8) (pre : List UInt8) (hpre : pre = 40 :: kindW x.k ++ (if tells x.k = true then 32 :: tyText 4 x.t.ty else []))
    (hlen : ∀ j (hj : j < x.l.length), (tf x.l[j]).length ≤ 1000000)
    (HC : Hid (∀ (j : Nat) (hj : j < x.l.length) (W : World), Ta W → x.l[j].In W → Calls Tryz.prog 23 #[.agg #[.int .i64 x.l[j].k, .int .i64 x.l[j].n, .int .i64 x.l[j].t.k, .slice x.l[j].t.a x.l[j].t.l.length x.l[j].t.c, .int .i64 x.l[j].f.k, .slice x.l[j].f.a x.l[j].f.l.length x.l[j].f.c, .slice x.l[j].a x.l[j].l.length x.l[j].c]] W fun e w' => e = .returned (.string (bw (tf x.l[j]))) ∧ Below W.heap.size W w')) :
    Calls Tryz.prog 23 #[.agg #[.int .i64 x.k, .int .i64 x.n, .int .i64 x.t.k, .slice x.t.a x.t.l.length x.t.c, .int .i64 x.f.k, .slice x.f.a x.f.l.length x.f.c, .slice x.a x.l.length x.c]] w fun e w' => e = .returned (.string (bw (pre ++ x.l.flatMap (fun y => 32 :: tf y) ++ [41]))) ∧ Below w.heap.size w w' := by
  obtain ⟨i0, hi0, hz0, hz1, hz2⟩ := info_parts Tryz.info9s
  have e1 : (x.k == 1) = false := by simp; omega
  have e2 : (x.k == 2) = false := by simp; omega
  have e3 : (x.k == 3) = false := by simp; omega
  obtain ⟨W1, hW1⟩ : ∃ W1, W1 = w.alloc (.cells #[.int .i64 x.k, .int .i64 x.n, .int .i64 x.t.k, .slice x.t.a x.t.l.length x.t.c, .int .i64 x.f.k, .slice x.f.a x.f.l.length x.f.c, .slice x.a x.l.length x.c] 27) := ⟨_, rfl⟩
  have hb1 : Below w.heap.size w W1 := by rw [hW1]; exact (Below.refl _ _).alloc (Nat.le_refl _) _
  have h7 : At7 W1 w.heap.size 0 x := by rw [hW1]; exact At7.new w x
  have HS : Hid (∀ V : World, Below W1.heap.size W1 V → V.cell? ⟨w.heap.size, 0, none⟩ = some (.int .i64 x.k)) := fun V hb => (h7.below hb).c0
  have HF : Hid (Calls Tryz.prog 40 #[.string ⟨#[97, 100, 100, 32, 108, 101, 115, 115, 32, 105, 102, 32, 102, 117, 110, 32, 99, 97, 108, 108, 32, 97, 115]⟩] W1.drew fun e w' => e = .returned (.slice (some ⟨W1.heap.size, 0, none⟩) 6 6) ∧ w'.cell? ⟨W1.heap.size, (x.k - 4).toNat, none⟩ = some (.string (bw (kindW x.k))) ∧ Below W1.heap.size W1 w') := by
    refine (fields_any W1.drew (hT.below hb1.drew)).mono ?_
    rintro e w' ⟨rfl, rfl⟩
    exact ⟨rfl, word_cell x.k h4 h9 W1.drew, ((Below.refl _ _).drew).trans (((Below.refl _ _).alloc (Nat.le_refl _) _).mono (Nat.le_refl _))⟩
  have hw4 : IntKind.i64.wrap (x.k - 4) = x.k - 4 := by rw [IntKind.wrap_i64]; omega
  have j0 : (0 : Int) ≤ x.k - 4 := by omega
  have j1 : x.k - 4 < 6 := by omega
  have HX : Hid (x.In w ∧ Ta w ∧ Below w.heap.size w W1 ∧ At7 W1 w.heap.size 0 x) := ⟨hx, hT, hb1, h7⟩
  have HLN : Hid (∀ j (hj : j < x.l.length), (tf x.l[j]).length ≤ 1000000) := hlen
  have htl := tyText_len 4 x.t.ty
  obtain ⟨TY, hTY⟩ : ∃ l, tyText 4 x.t.ty = l := ⟨_, rfl⟩
  have HT : Hid (tells x.k = true → ∀ W, x.t.In W → Calls Tryz.prog 41 #[.agg #[.int .i64 x.t.k, .slice x.t.a x.t.l.length x.t.c]] W fun e w' => e = .returned (.string (bw TY)) ∧ Below W.heap.size W w') := by
    intro hb W hW
    have := refText_any 4 (by omega) x.t W (hty hb) hW
    rw [hTY] at this
    exact this
  rw [hTY] at hpre htl
  have htl' : TY.length ≤ 90 := by omega
  have hkw : (kindW x.k).length ≤ 4 := by unfold kindW; repeat' split
                                          all_goals simp
  have HPRE : Hid (pre = 40 :: kindW x.k ++ (if tells x.k = true then 32 :: TY else [])) := hpre
  clear hx hT hb1 h7 hty hlen hpre hTY htl
  go_enter Tryz.func23, Tryz.ntmps23
  go_upto_region 10 with fail
  rw [← hW1]
  clear hW1
  refine wp_region_held_drew (S := fun V : World => V.cell? ⟨w.heap.size, 0, none⟩ = some (.int .i64 x.k)) (by kernel_rfl) (HS.out _ ((Below.refl _ _).drew)) (fun hHeld => ?_)
  refine takeH (i := 1) (v := ?_) rfl (by kernel_rfl) (by kernel_rfl) (by kernel_rfl) (fun _ _ _ h => h) (Or.inl ⟨by rfl, ?_⟩) hHeld ?_; rotate_left; (focus (intro w' hSw; (try dsimp only at hSw); go_split_ands; first | (go_simp; done) | (go_simp; with_reducible rfl))); simp only [Act.put, List.setIfInBounds_toArray, List.set_cons_zero, List.set_cons_succ]
  refine takeH (i := 2) (v := ?_) rfl (by kernel_rfl) (by kernel_rfl) (by kernel_rfl) (fun _ _ _ h => h) (Or.inl ⟨by rfl, ?_⟩) hHeld ?_; rotate_left; (focus (intro w' hSw; (try dsimp only at hSw); go_split_ands; first | (go_simp; done) | (go_simp; with_reducible rfl))); simp only [Act.put, List.setIfInBounds_toArray, List.set_cons_zero, List.set_cons_succ]
  refine takeH (i := 3) (v := ?_) rfl (by kernel_rfl) (by kernel_rfl) (by kernel_rfl) (fun _ _ _ h => h) (Or.inl ⟨by rfl, ?_⟩) hHeld ?_; rotate_left; (focus (intro w' hSw; (try dsimp only at hSw); go_split_ands; first | (go_simp; done) | (go_simp; with_reducible rfl))); simp only [Act.put, List.setIfInBounds_toArray, List.set_cons_zero, List.set_cons_succ]
  refine oneH (i := 0) rfl (by kernel_rfl) (fun K hK => ?_)
  go_simp
  go_at_call 40
  refine HF.out.mono ?_
  rintro e w2 ⟨rfl, hcw, hb2⟩
  refine hK.out _ _ (HS.out _ hb2) (fun hHeld => ?_)
  clear hK K
  refine oneH (i := 4) rfl (by kernel_rfl) (fun K hK => ?_)
  go_simp
  refine hK.out _ _ hHeld (fun hHeld => ?_)
  clear hK K
  refine oneH (i := 5) rfl (by kernel_rfl) (fun K hK => ?_)
  go_simp
  refine hK.out _ _ hHeld (fun hHeld => ?_)
  clear hK K
  refine oneH (i := 6) rfl (by kernel_rfl) (fun K hK => ?_)
  go_simp
  refine hK.out _ _ (HS.out _ (hb2.trans (((Below.refl _ _).alloc (Nat.le_refl _) _).mono hb2.size))) (fun hHeld => ?_)
  clear hK K
  refine takeH (i := 7) (v := ?_) rfl (by kernel_rfl) (by kernel_rfl) (by kernel_rfl) (fun _ _ _ h => h) (Or.inl ⟨by rfl, ?_⟩) hHeld ?_; rotate_left; (focus (intro w' hSw; (try dsimp only at hSw); go_split_ands; first | (go_simp; done) | (go_simp; with_reducible rfl))); simp only [Act.put, List.setIfInBounds_toArray, List.set_cons_zero, List.set_cons_succ]
  refine wpAnyH_done (by kernel_rfl) ?_ _
  have HE : Hid (Below w.heap.size w w2 ∧ x.In w2 ∧ Ta w2 ∧ At7 w2 w.heap.size 0 x) := by
    have hb := HX.out.2.2.1.trans (hb2.mono HX.out.2.2.1.size)
    exact ⟨hb, HX.out.1.below hb, HX.out.2.1.below hb, HX.out.2.2.2.below hb2⟩
  obtain ⟨W3, hW3⟩ : ∃ W3, W3 = w2.alloc (.cells #[.string (bw (kindW x.k))] 9) := ⟨_, rfl⟩
  have hb3 : Below w2.heap.size w2 W3 := by rw [hW3]; exact (Below.refl _ _).alloc (Nat.le_refl _) _
  have hr3 : W3.ownsRow w2.heap.size 9 1 (.slice (some ⟨w2.heap.size, 0, none⟩) 1 1) 1 [Value.string (bw (kindW x.k))] := by
    have hh := heap_alloc_new w2 (.cells #[.string (bw (kindW x.k))] 9)
    rw [hW3]
    exact ⟨rfl, .inr ⟨_, 1, _, rfl, Nat.le_refl _, hh, Nat.le_refl _, by unfold maxLen; omega, rfl, rfl⟩⟩
  have HR3 : Hid (W3.ownsRow w2.heap.size 9 1 (.slice (some ⟨w2.heap.size, 0, none⟩) 1 1) 1 [Value.string (bw (kindW x.k))] ∧ Below w2.heap.size w2 W3) := ⟨hr3, hb3⟩
  obtain ⟨p0, p1, p2, p3, p4, p5, p6⟩ := (HE.out.2.2.2.below hb3)
  simp only [Nat.zero_add] at p0 p1 p2 p3 p4 p5 p6
  clear HS HF HX hHeld hcw hb2 hb3 hr3
  rw [← hW3]
  clear hW3
  by_cases k7 : x.k = 7
  · have e7 : (x.k == 7) = true := by simp [k7]
    have ht : tells x.k = true := by rw [k7]; rfl
    have HTT' : Hid (tells x.k = true) := ht
    clear ht k7
    go_wp2_with fail
    refine (HT.out HTT'.out _ ((HE.out.2.1.below HR3.out.2)).t).mono ?_
    rintro e w4 ⟨rfl, hb4⟩
    have HB4 : Hid (Below w2.heap.size w2 w4) := HR3.out.2.trans (hb4.mono HR3.out.2.size)
    have uo : w4.ownsRow w2.heap.size 9 1 (.slice (some ⟨w2.heap.size, 0, none⟩) 1 1) 1 [Value.string (bw (kindW x.k))] := ownsRow_low HR3.out.1 hb4
    have hnew := heap_alloc_new w4 (.cells #[.string (bw TY)] 9)
    have l4 : w2.heap.size ≤ w4.heap.size := Nat.le_trans HR3.out.2.size hb4.size
    go_wp2_with (at_builtin; refine wpList_append_lies _ rfl _ _ _ rfl w2.heap.size 9 i0 _ 1 16 Tryz.underlying57s hi0 hz0 hz1 hz2 rfl (by omega) (.slice (some ⟨w2.heap.size, 0, none⟩) 1 1) 1 [Value.string (bw (kindW x.k))] rfl (uo.alloc _) ⟨w4.heap.size, 0, none⟩ 1 1 [.string (bw TY)] rfl rfl (World.news_of_block (cs := #[.string (bw TY)]) (t := 9) (fr := (0, 0)) hnew) (by simp [Value.oneCell']) (by omega) (by unfold maxLen; omega) (by omega) (by simp; omega) (w4.heap.size + 1) (by simp) ?_; intro gg cap1 w5 hown1 hgrow hat hlt3; have hlow : Below w2.heap.size w4 w5 := grown_low hgrow uo.lt l4; have q6 : w5.cell? ⟨w.heap.size, 6, none⟩ = some (.slice x.a x.l.length x.c) := ((HE.out.2.2.2.below (HB4.out.trans hlow)).all).2.2.2.2.2.2)
    have HV : Hid (w5.ownsRow w2.heap.size 9 1 (.slice (some ⟨gg, 0, none⟩) (1 + 1) cap1) [kindW x.k, TY].length ([kindW x.k, TY].map fun s => Value.string (bw s)) ∧ Below w2.heap.size w2 w5) := ⟨hown1, HB4.out.trans hlow⟩
    clear hown1 hgrow hat hlt3 hlow uo hnew hb4 HR3 HB4 p0 p1 p2 p3 p4 p5 p6
    go_loopg [3, 48] x.l.length (fun g tv i wr => ∃ (j : Nat) (v : Value) (ss : List (List UInt8)), g + j = x.l.length ∧ i = .int .i64 (j : Int) ∧ v = tv ∧ Hid (wr.ownsRow w2.heap.size 9 1 v ss.length (ss.map fun s => Value.string (bw s)) ∧ ss = [kindW x.k, TY] ++ (x.l.take j).map tf ∧ Below w2.heap.size w2 wr))
    case atStart => exact ⟨0, _, [kindW x.k, TY], by omega, rfl, rfl, HV.out.1, by simp, HV.out.2⟩
    case round =>
      obtain ⟨j, v, ss, hj, rfl, hv, HQ⟩ := hrel
      subst hv
      have HJ : Hid (gk + j = x.l.length) := hj
      clear hj
      have hss : ss.length = 2 + min j x.l.length := by
        have := congrArg List.length HQ.out.2.1
        simp at this
        omega
      by_cases hlt : j < x.l.length
      · obtain ⟨b, o, ea, h7', hxj⟩ := HE.out.2.1.part j hlt
        have h8 := h7'.below HQ.out.2.2
        have d0 := h8.c0
        have d1 := h8.c1
        have d2 := h8.c2
        have d3 := h8.c3
        have d4 := h8.c4
        have d5 := h8.c5
        have d6 := h8.c6
        have lB : w2.heap.size ≤ wr.heap.size := HQ.out.2.2.size
        have HP : Hid (∀ ob, Calls Tryz.prog 23 #[.agg #[.int .i64 x.l[j].k, .int .i64 x.l[j].n, .int .i64 x.l[j].t.k, .slice x.l[j].t.a x.l[j].t.l.length x.l[j].t.c, .int .i64 x.l[j].f.k, .slice x.l[j].f.a x.l[j].f.l.length x.l[j].f.c, .slice x.l[j].a x.l[j].l.length x.l[j].c]] (wr.alloc ob) fun e w' => e = .returned (.string (bw (tf x.l[j]))) ∧ Below (wr.alloc ob).heap.size (wr.alloc ob) w') := fun ob => by
          have hbp : Below wr.heap.size wr (wr.alloc ob) := (Below.refl _ _).alloc (Nat.le_refl _) _
          exact HC.out j hlt _ ((HE.out.2.2.1.below HQ.out.2.2).below hbp) ((hxj.below HQ.out.2.2).below hbp)
        have i2 : (j : Int) < (x.l.length : Int) := by omega
        have i3 : (0 : Int) ≤ (j : Int) := by omega
        obtain ⟨T, hT⟩ : ∃ T, tf x.l[j] = T := ⟨_, rfl⟩
        rw [hT] at HP
        have HTT : Hid (tf x.l[j] = T) := hT
        have HEA : Hid (x.a = some ⟨b, o, none⟩) := ea
        rw [ea]
        clear h7' hxj h8 ea hT
        go_wp2_with fail
        refine (HP.out _).mono ?_
        rintro e w6 ⟨rfl, hb6⟩
        have hbr : Below wr.heap.size wr w6 := ((Below.refl _ _).alloc (Nat.le_refl _) _).trans (hb6.mono (by simp))
        obtain ⟨M, hM⟩ : ∃ M, ss.length = M := ⟨_, rfl⟩
        obtain ⟨xs, hxs⟩ : ∃ xs, (ss.map fun s => Value.string (bw s)) = xs := ⟨_, rfl⟩
        have uo : w6.ownsRow w2.heap.size 9 1 v M xs := by rw [← hM, ← hxs]; exact ownsRow_low HQ.out.1 hbr
        have HMX : Hid (ss.length = M ∧ (ss.map fun s => Value.string (bw s)) = xs) := ⟨hM, hxs⟩
        have hMb : M ≤ 10 := by omega
        have l6 : w2.heap.size ≤ w6.heap.size := Nat.le_trans lB hbr.size
        have hnew := heap_alloc_new w6 (.cells #[.string (bw T)] 9)
        clear hM hxs hb6 HP d0 d1 d2 d3 d4 d5 d6 hss
        go_wp2_with (at_builtin; refine wpList_append_lies _ rfl _ _ _ rfl w2.heap.size 9 i0 _ 1 16 Tryz.underlying57s hi0 hz0 hz1 hz2 rfl (by omega) v M xs rfl (uo.alloc _) ⟨w6.heap.size, 0, none⟩ 1 1 [.string (bw T)] rfl rfl (World.news_of_block (cs := #[.string (bw T)]) (t := 9) (fr := (0, 0)) hnew) (by simp [Value.oneCell']) (by omega) (by unfold maxLen; omega) (by omega) (by simp; omega) (w6.heap.size + 1) (by simp) ?_; intro gg cap1 w7 hown1 hgrow hat hlt3)
        have hov : ∀ q, v.ownBlock = some q → w2.heap.size ≤ q ∧ q < w6.heap.size := uo.lt
        have hlow : Below w2.heap.size w6 w7 := by
          refine ⟨hgrow.os.trans rfl, hgrow.tape.trans rfl, hgrow.output.trans rfl, by have := hgrow.size; simp at this; omega, fun q hq => ?_⟩
          rw [hgrow.block q (by simp; omega) (fun e => by have := (hov q e.symm).1; omega)]
          exact ((Below.refl _ w6).alloc (Nat.le_refl _) _).block q (by omega)
        have HN : Hid (w7.ownsRow w2.heap.size 9 1 (.slice (some ⟨gg, 0, none⟩) (M + 1) cap1) (ss ++ [T]).length ((ss ++ [T]).map fun s => Value.string (bw s)) ∧ ss ++ [T] = [kindW x.k, TY] ++ (x.l.take (j + 1)).map tf ∧ Below w2.heap.size w2 w7) := by
          refine ⟨?_, ?_, (HQ.out.2.2.trans (hbr.mono lB)).trans hlow⟩
          · rw [List.map_append, List.length_append, List.length_singleton, HMX.out.1, HMX.out.2]
            exact hown1
          · rw [List.take_succ_eq_append_getElem hlt, List.map_append, ← List.append_assoc, ← HQ.out.2.1]
            simp [HTT.out]
        clear hown1 hgrow hat hlt3 hov hlow uo hnew hbr HQ
        go_wp2_with fail
        rw [← HEA.out]
        go_roundg (x.l.length - (j + 1))
        case measure => have := HJ.out; omega
        case rel => exact ⟨j + 1, _, ss ++ [T], by have := HJ.out; omega, by go_num, rfl, HN⟩
      · have hsj : ss = [kindW x.k, TY] ++ x.l.map tf := by rw [HQ.out.2.1, List.take_of_length_le (by omega)]
        have ho := HQ.out.1
        have hl0 : 0 < ss.length := by omega
        obtain ⟨gj, cj, rfl, hgj, hgl⟩ := ho.form hl0
        have hcap : ss.length ≤ cj := by
          rcases ho.2 with ⟨h, _⟩ | ⟨g', cap', cur, h, _, _, h1, _⟩
          · cases h
          · cases h; exact h1
        have HJN : Hid (Calls Tryz.prog 42 #[.slice (some ⟨gj, 0, none⟩) ss.length cj, .string ⟨#[32]⟩] wr fun e w' => e = .returned (.string (bw (Lib.join ss [32]))) ∧ Below wr.heap.size wr w') := by
          have hjl : (Lib.join ss [32]).length ≤ 10000000 := join_small HLN.out hsj htl' hkw hln
          have := Tryz.strings_Join gj 0 cj (ss.map bw) ⟨#[32]⟩ wr (fun q s hq => by
            rw [List.getElem?_map] at hq
            obtain ⟨t, ht, rfl⟩ := Option.map_eq_some_iff.1 hq
            have := ho.cellAt (q * 1) (by
              have := (List.getElem?_eq_some_iff.1 ht).1
              omega)
            simp only [Nat.mul_one, List.getElem?_map, ht, Option.map_some] at this
            simpa using this) hgl (by simp; omega) (by simpa using hcap) (by rw [bw_back]; exact Nat.le_trans hjl (by omega))
          rw [bw_back, List.length_map] at this
          exact this
        have hjl : (Lib.join ss [32]).length ≤ 10000000 := join_small HLN.out hsj htl' hkw hln
        obtain ⟨J, hJ⟩ : ∃ J, Lib.join ss [32] = J := ⟨_, rfl⟩
        rw [hJ] at HJN hjl
        have b1 : ∀ w, (Op.stringOp .add ⟨#[40]⟩ (bw J)).run Tryz.prog w = .ok (.string (bw (40 :: J))) w := rcat_run [40] J (by simp; omega)
        have b2 : ∀ w, (Op.stringOp .add (bw (40 :: J)) ⟨#[41]⟩).run Tryz.prog w = .ok (.string (bw (40 :: J ++ [41]))) w := rcat_run (40 :: J) [41] (by simp; omega)
        have HF : Hid (40 :: J ++ [41] = pre ++ x.l.flatMap (fun y => 32 :: tf y) ++ [41] ∧ Below w.heap.size w wr) := by
          refine ⟨?_, HE.out.1.trans (HQ.out.2.2.mono HE.out.1.size)⟩
          rw [← hJ, HPRE.out, hsj]
          rw [if_pos HTT'.out]; exact join_text1 _ _ _ _
        clear HQ ho hsj hjl hcap hgl hl0 hgj hJ hss HC HE HLN HPRE
        go_wp2_with fail
        refine HJN.out.mono ?_
        rintro e w9 ⟨rfl, hb9⟩
        go_wp2_with fail
        refine bodyPost_ret (v := .string (bw (40 :: J ++ [41]))) ?_ rfl ⟨by rw [HF.out.1], HF.out.2.trans (hb9.mono HF.out.2.size)⟩
        simp [results, Tryz.results23, go_sem]
  · have e7 : (x.k == 7) = false := by simpa using k7
    by_cases k9 : x.k = 9
    · have e9 : (x.k == 9) = true := by simp [k9]
      have ht : tells x.k = true := by rw [k9]; rfl
      have HTT' : Hid (tells x.k = true) := ht
      clear ht k7 k9
      go_wp2_with fail
      refine (HT.out HTT'.out _ ((HE.out.2.1.below HR3.out.2)).t).mono ?_
      rintro e w4 ⟨rfl, hb4⟩
      have HB4 : Hid (Below w2.heap.size w2 w4) := HR3.out.2.trans (hb4.mono HR3.out.2.size)
      have uo : w4.ownsRow w2.heap.size 9 1 (.slice (some ⟨w2.heap.size, 0, none⟩) 1 1) 1 [Value.string (bw (kindW x.k))] := ownsRow_low HR3.out.1 hb4
      have hnew := heap_alloc_new w4 (.cells #[.string (bw TY)] 9)
      have l4 : w2.heap.size ≤ w4.heap.size := Nat.le_trans HR3.out.2.size hb4.size
      go_wp2_with (at_builtin; refine wpList_append_lies _ rfl _ _ _ rfl w2.heap.size 9 i0 _ 1 16 Tryz.underlying57s hi0 hz0 hz1 hz2 rfl (by omega) (.slice (some ⟨w2.heap.size, 0, none⟩) 1 1) 1 [Value.string (bw (kindW x.k))] rfl (uo.alloc _) ⟨w4.heap.size, 0, none⟩ 1 1 [.string (bw TY)] rfl rfl (World.news_of_block (cs := #[.string (bw TY)]) (t := 9) (fr := (0, 0)) hnew) (by simp [Value.oneCell']) (by omega) (by unfold maxLen; omega) (by omega) (by simp; omega) (w4.heap.size + 1) (by simp) ?_; intro gg cap1 w5 hown1 hgrow hat hlt3; have hlow : Below w2.heap.size w4 w5 := grown_low hgrow uo.lt l4; have q6 : w5.cell? ⟨w.heap.size, 6, none⟩ = some (.slice x.a x.l.length x.c) := ((HE.out.2.2.2.below (HB4.out.trans hlow)).all).2.2.2.2.2.2)
      have HV : Hid (w5.ownsRow w2.heap.size 9 1 (.slice (some ⟨gg, 0, none⟩) (1 + 1) cap1) [kindW x.k, TY].length ([kindW x.k, TY].map fun s => Value.string (bw s)) ∧ Below w2.heap.size w2 w5) := ⟨hown1, HB4.out.trans hlow⟩
      clear hown1 hgrow hat hlt3 hlow uo hnew hb4 HR3 HB4 p0 p1 p2 p3 p4 p5 p6
      go_loopg [3, 48] x.l.length (fun g tv i wr => ∃ (j : Nat) (v : Value) (ss : List (List UInt8)), g + j = x.l.length ∧ i = .int .i64 (j : Int) ∧ v = tv ∧ Hid (wr.ownsRow w2.heap.size 9 1 v ss.length (ss.map fun s => Value.string (bw s)) ∧ ss = [kindW x.k, TY] ++ (x.l.take j).map tf ∧ Below w2.heap.size w2 wr))
      case atStart => exact ⟨0, _, [kindW x.k, TY], by omega, rfl, rfl, HV.out.1, by simp, HV.out.2⟩
      case round =>
        obtain ⟨j, v, ss, hj, rfl, hv, HQ⟩ := hrel
        subst hv
        have HJ : Hid (gk + j = x.l.length) := hj
        clear hj
        have hss : ss.length = 2 + min j x.l.length := by
          have := congrArg List.length HQ.out.2.1
          simp at this
          omega
        by_cases hlt : j < x.l.length
        · obtain ⟨b, o, ea, h7', hxj⟩ := HE.out.2.1.part j hlt
          have h8 := h7'.below HQ.out.2.2
          have d0 := h8.c0
          have d1 := h8.c1
          have d2 := h8.c2
          have d3 := h8.c3
          have d4 := h8.c4
          have d5 := h8.c5
          have d6 := h8.c6
          have lB : w2.heap.size ≤ wr.heap.size := HQ.out.2.2.size
          have HP : Hid (∀ ob, Calls Tryz.prog 23 #[.agg #[.int .i64 x.l[j].k, .int .i64 x.l[j].n, .int .i64 x.l[j].t.k, .slice x.l[j].t.a x.l[j].t.l.length x.l[j].t.c, .int .i64 x.l[j].f.k, .slice x.l[j].f.a x.l[j].f.l.length x.l[j].f.c, .slice x.l[j].a x.l[j].l.length x.l[j].c]] (wr.alloc ob) fun e w' => e = .returned (.string (bw (tf x.l[j]))) ∧ Below (wr.alloc ob).heap.size (wr.alloc ob) w') := fun ob => by
            have hbp : Below wr.heap.size wr (wr.alloc ob) := (Below.refl _ _).alloc (Nat.le_refl _) _
            exact HC.out j hlt _ ((HE.out.2.2.1.below HQ.out.2.2).below hbp) ((hxj.below HQ.out.2.2).below hbp)
          have i2 : (j : Int) < (x.l.length : Int) := by omega
          have i3 : (0 : Int) ≤ (j : Int) := by omega
          obtain ⟨T, hT⟩ : ∃ T, tf x.l[j] = T := ⟨_, rfl⟩
          rw [hT] at HP
          have HTT : Hid (tf x.l[j] = T) := hT
          have HEA : Hid (x.a = some ⟨b, o, none⟩) := ea
          rw [ea]
          clear h7' hxj h8 ea hT
          go_wp2_with fail
          refine (HP.out _).mono ?_
          rintro e w6 ⟨rfl, hb6⟩
          have hbr : Below wr.heap.size wr w6 := ((Below.refl _ _).alloc (Nat.le_refl _) _).trans (hb6.mono (by simp))
          obtain ⟨M, hM⟩ : ∃ M, ss.length = M := ⟨_, rfl⟩
          obtain ⟨xs, hxs⟩ : ∃ xs, (ss.map fun s => Value.string (bw s)) = xs := ⟨_, rfl⟩
          have uo : w6.ownsRow w2.heap.size 9 1 v M xs := by rw [← hM, ← hxs]; exact ownsRow_low HQ.out.1 hbr
          have HMX : Hid (ss.length = M ∧ (ss.map fun s => Value.string (bw s)) = xs) := ⟨hM, hxs⟩
          have hMb : M ≤ 10 := by omega
          have l6 : w2.heap.size ≤ w6.heap.size := Nat.le_trans lB hbr.size
          have hnew := heap_alloc_new w6 (.cells #[.string (bw T)] 9)
          clear hM hxs hb6 HP d0 d1 d2 d3 d4 d5 d6 hss
          go_wp2_with (at_builtin; refine wpList_append_lies _ rfl _ _ _ rfl w2.heap.size 9 i0 _ 1 16 Tryz.underlying57s hi0 hz0 hz1 hz2 rfl (by omega) v M xs rfl (uo.alloc _) ⟨w6.heap.size, 0, none⟩ 1 1 [.string (bw T)] rfl rfl (World.news_of_block (cs := #[.string (bw T)]) (t := 9) (fr := (0, 0)) hnew) (by simp [Value.oneCell']) (by omega) (by unfold maxLen; omega) (by omega) (by simp; omega) (w6.heap.size + 1) (by simp) ?_; intro gg cap1 w7 hown1 hgrow hat hlt3)
          have hov : ∀ q, v.ownBlock = some q → w2.heap.size ≤ q ∧ q < w6.heap.size := uo.lt
          have hlow : Below w2.heap.size w6 w7 := by
            refine ⟨hgrow.os.trans rfl, hgrow.tape.trans rfl, hgrow.output.trans rfl, by have := hgrow.size; simp at this; omega, fun q hq => ?_⟩
            rw [hgrow.block q (by simp; omega) (fun e => by have := (hov q e.symm).1; omega)]
            exact ((Below.refl _ w6).alloc (Nat.le_refl _) _).block q (by omega)
          have HN : Hid (w7.ownsRow w2.heap.size 9 1 (.slice (some ⟨gg, 0, none⟩) (M + 1) cap1) (ss ++ [T]).length ((ss ++ [T]).map fun s => Value.string (bw s)) ∧ ss ++ [T] = [kindW x.k, TY] ++ (x.l.take (j + 1)).map tf ∧ Below w2.heap.size w2 w7) := by
            refine ⟨?_, ?_, (HQ.out.2.2.trans (hbr.mono lB)).trans hlow⟩
            · rw [List.map_append, List.length_append, List.length_singleton, HMX.out.1, HMX.out.2]
              exact hown1
            · rw [List.take_succ_eq_append_getElem hlt, List.map_append, ← List.append_assoc, ← HQ.out.2.1]
              simp [HTT.out]
          clear hown1 hgrow hat hlt3 hov hlow uo hnew hbr HQ
          go_wp2_with fail
          rw [← HEA.out]
          go_roundg (x.l.length - (j + 1))
          case measure => have := HJ.out; omega
          case rel => exact ⟨j + 1, _, ss ++ [T], by have := HJ.out; omega, by go_num, rfl, HN⟩
        · have hsj : ss = [kindW x.k, TY] ++ x.l.map tf := by rw [HQ.out.2.1, List.take_of_length_le (by omega)]
          have ho := HQ.out.1
          have hl0 : 0 < ss.length := by omega
          obtain ⟨gj, cj, rfl, hgj, hgl⟩ := ho.form hl0
          have hcap : ss.length ≤ cj := by
            rcases ho.2 with ⟨h, _⟩ | ⟨g', cap', cur, h, _, _, h1, _⟩
            · cases h
            · cases h; exact h1
          have HJN : Hid (Calls Tryz.prog 42 #[.slice (some ⟨gj, 0, none⟩) ss.length cj, .string ⟨#[32]⟩] wr fun e w' => e = .returned (.string (bw (Lib.join ss [32]))) ∧ Below wr.heap.size wr w') := by
            have hjl : (Lib.join ss [32]).length ≤ 10000000 := join_small HLN.out hsj htl' hkw hln
            have := Tryz.strings_Join gj 0 cj (ss.map bw) ⟨#[32]⟩ wr (fun q s hq => by
              rw [List.getElem?_map] at hq
              obtain ⟨t, ht, rfl⟩ := Option.map_eq_some_iff.1 hq
              have := ho.cellAt (q * 1) (by
                have := (List.getElem?_eq_some_iff.1 ht).1
                omega)
              simp only [Nat.mul_one, List.getElem?_map, ht, Option.map_some] at this
              simpa using this) hgl (by simp; omega) (by simpa using hcap) (by rw [bw_back]; exact Nat.le_trans hjl (by omega))
            rw [bw_back, List.length_map] at this
            exact this
          have hjl : (Lib.join ss [32]).length ≤ 10000000 := join_small HLN.out hsj htl' hkw hln
          obtain ⟨J, hJ⟩ : ∃ J, Lib.join ss [32] = J := ⟨_, rfl⟩
          rw [hJ] at HJN hjl
          have b1 : ∀ w, (Op.stringOp .add ⟨#[40]⟩ (bw J)).run Tryz.prog w = .ok (.string (bw (40 :: J))) w := rcat_run [40] J (by simp; omega)
          have b2 : ∀ w, (Op.stringOp .add (bw (40 :: J)) ⟨#[41]⟩).run Tryz.prog w = .ok (.string (bw (40 :: J ++ [41]))) w := rcat_run (40 :: J) [41] (by simp; omega)
          have HF : Hid (40 :: J ++ [41] = pre ++ x.l.flatMap (fun y => 32 :: tf y) ++ [41] ∧ Below w.heap.size w wr) := by
            refine ⟨?_, HE.out.1.trans (HQ.out.2.2.mono HE.out.1.size)⟩
            rw [← hJ, HPRE.out, hsj]
            rw [if_pos HTT'.out]; exact join_text1 _ _ _ _
          clear HQ ho hsj hjl hcap hgl hl0 hgj hJ hss HC HE HLN HPRE
          go_wp2_with fail
          refine HJN.out.mono ?_
          rintro e w9 ⟨rfl, hb9⟩
          go_wp2_with fail
          refine bodyPost_ret (v := .string (bw (40 :: J ++ [41]))) ?_ rfl ⟨by rw [HF.out.1], HF.out.2.trans (hb9.mono HF.out.2.size)⟩
          simp [results, Tryz.results23, go_sem]
    · have e9 : (x.k == 9) = false := by simpa using k9
      have HTT' : Hid (¬ tells x.k = true) := by
        show ¬ _
        simp [tells, k7, k9]
      clear k7 k9
      have HV : Hid (W3.ownsRow w2.heap.size 9 1 (.slice (some ⟨w2.heap.size, 0, none⟩) 1 1) [kindW x.k].length ([kindW x.k].map fun s => Value.string (bw s)) ∧ Below w2.heap.size w2 W3) := HR3
      go_wp2_with fail
      clear p0 p1 p2 p3 p4 p5 p6 HR3
      go_loopg [3, 48] x.l.length (fun g tv i wr => ∃ (j : Nat) (v : Value) (ss : List (List UInt8)), g + j = x.l.length ∧ i = .int .i64 (j : Int) ∧ v = tv ∧ Hid (wr.ownsRow w2.heap.size 9 1 v ss.length (ss.map fun s => Value.string (bw s)) ∧ ss = [kindW x.k] ++ (x.l.take j).map tf ∧ Below w2.heap.size w2 wr))
      case atStart => exact ⟨0, _, [kindW x.k], by omega, rfl, rfl, HV.out.1, by simp, HV.out.2⟩
      case round =>
        obtain ⟨j, v, ss, hj, rfl, hv, HQ⟩ := hrel
        subst hv
        have HJ : Hid (gk + j = x.l.length) := hj
        clear hj
        have hss : ss.length = 1 + min j x.l.length := by
          have := congrArg List.length HQ.out.2.1
          simp at this
          omega
        by_cases hlt : j < x.l.length
        · obtain ⟨b, o, ea, h7', hxj⟩ := HE.out.2.1.part j hlt
          have h8 := h7'.below HQ.out.2.2
          have d0 := h8.c0
          have d1 := h8.c1
          have d2 := h8.c2
          have d3 := h8.c3
          have d4 := h8.c4
          have d5 := h8.c5
          have d6 := h8.c6
          have lB : w2.heap.size ≤ wr.heap.size := HQ.out.2.2.size
          have HP : Hid (∀ ob, Calls Tryz.prog 23 #[.agg #[.int .i64 x.l[j].k, .int .i64 x.l[j].n, .int .i64 x.l[j].t.k, .slice x.l[j].t.a x.l[j].t.l.length x.l[j].t.c, .int .i64 x.l[j].f.k, .slice x.l[j].f.a x.l[j].f.l.length x.l[j].f.c, .slice x.l[j].a x.l[j].l.length x.l[j].c]] (wr.alloc ob) fun e w' => e = .returned (.string (bw (tf x.l[j]))) ∧ Below (wr.alloc ob).heap.size (wr.alloc ob) w') := fun ob => by
            have hbp : Below wr.heap.size wr (wr.alloc ob) := (Below.refl _ _).alloc (Nat.le_refl _) _
            exact HC.out j hlt _ ((HE.out.2.2.1.below HQ.out.2.2).below hbp) ((hxj.below HQ.out.2.2).below hbp)
          have i2 : (j : Int) < (x.l.length : Int) := by omega
          have i3 : (0 : Int) ≤ (j : Int) := by omega
          obtain ⟨T, hT⟩ : ∃ T, tf x.l[j] = T := ⟨_, rfl⟩
          rw [hT] at HP
          have HTT : Hid (tf x.l[j] = T) := hT
          have HEA : Hid (x.a = some ⟨b, o, none⟩) := ea
          rw [ea]
          clear h7' hxj h8 ea hT
          go_wp2_with fail
          refine (HP.out _).mono ?_
          rintro e w6 ⟨rfl, hb6⟩
          have hbr : Below wr.heap.size wr w6 := ((Below.refl _ _).alloc (Nat.le_refl _) _).trans (hb6.mono (by simp))
          obtain ⟨M, hM⟩ : ∃ M, ss.length = M := ⟨_, rfl⟩
          obtain ⟨xs, hxs⟩ : ∃ xs, (ss.map fun s => Value.string (bw s)) = xs := ⟨_, rfl⟩
          have uo : w6.ownsRow w2.heap.size 9 1 v M xs := by rw [← hM, ← hxs]; exact ownsRow_low HQ.out.1 hbr
          have HMX : Hid (ss.length = M ∧ (ss.map fun s => Value.string (bw s)) = xs) := ⟨hM, hxs⟩
          have hMb : M ≤ 10 := by omega
          have l6 : w2.heap.size ≤ w6.heap.size := Nat.le_trans lB hbr.size
          have hnew := heap_alloc_new w6 (.cells #[.string (bw T)] 9)
          clear hM hxs hb6 HP d0 d1 d2 d3 d4 d5 d6 hss
          go_wp2_with (at_builtin; refine wpList_append_lies _ rfl _ _ _ rfl w2.heap.size 9 i0 _ 1 16 Tryz.underlying57s hi0 hz0 hz1 hz2 rfl (by omega) v M xs rfl (uo.alloc _) ⟨w6.heap.size, 0, none⟩ 1 1 [.string (bw T)] rfl rfl (World.news_of_block (cs := #[.string (bw T)]) (t := 9) (fr := (0, 0)) hnew) (by simp [Value.oneCell']) (by omega) (by unfold maxLen; omega) (by omega) (by simp; omega) (w6.heap.size + 1) (by simp) ?_; intro gg cap1 w7 hown1 hgrow hat hlt3)
          have hov : ∀ q, v.ownBlock = some q → w2.heap.size ≤ q ∧ q < w6.heap.size := uo.lt
          have hlow : Below w2.heap.size w6 w7 := by
            refine ⟨hgrow.os.trans rfl, hgrow.tape.trans rfl, hgrow.output.trans rfl, by have := hgrow.size; simp at this; omega, fun q hq => ?_⟩
            rw [hgrow.block q (by simp; omega) (fun e => by have := (hov q e.symm).1; omega)]
            exact ((Below.refl _ w6).alloc (Nat.le_refl _) _).block q (by omega)
          have HN : Hid (w7.ownsRow w2.heap.size 9 1 (.slice (some ⟨gg, 0, none⟩) (M + 1) cap1) (ss ++ [T]).length ((ss ++ [T]).map fun s => Value.string (bw s)) ∧ ss ++ [T] = [kindW x.k] ++ (x.l.take (j + 1)).map tf ∧ Below w2.heap.size w2 w7) := by
            refine ⟨?_, ?_, (HQ.out.2.2.trans (hbr.mono lB)).trans hlow⟩
            · rw [List.map_append, List.length_append, List.length_singleton, HMX.out.1, HMX.out.2]
              exact hown1
            · rw [List.take_succ_eq_append_getElem hlt, List.map_append, ← List.append_assoc, ← HQ.out.2.1]
              simp [HTT.out]
          clear hown1 hgrow hat hlt3 hov hlow uo hnew hbr HQ
          go_wp2_with fail
          rw [← HEA.out]
          go_roundg (x.l.length - (j + 1))
          case measure => have := HJ.out; omega
          case rel => exact ⟨j + 1, _, ss ++ [T], by have := HJ.out; omega, by go_num, rfl, HN⟩
        · have hsj : ss = [kindW x.k] ++ x.l.map tf := by rw [HQ.out.2.1, List.take_of_length_le (by omega)]
          have ho := HQ.out.1
          have hl0 : 0 < ss.length := by omega
          obtain ⟨gj, cj, rfl, hgj, hgl⟩ := ho.form hl0
          have hcap : ss.length ≤ cj := by
            rcases ho.2 with ⟨h, _⟩ | ⟨g', cap', cur, h, _, _, h1, _⟩
            · cases h
            · cases h; exact h1
          have HJN : Hid (Calls Tryz.prog 42 #[.slice (some ⟨gj, 0, none⟩) ss.length cj, .string ⟨#[32]⟩] wr fun e w' => e = .returned (.string (bw (Lib.join ss [32]))) ∧ Below wr.heap.size wr w') := by
            have hjl : (Lib.join ss [32]).length ≤ 10000000 := join_small HLN.out hsj htl' hkw hln
            have := Tryz.strings_Join gj 0 cj (ss.map bw) ⟨#[32]⟩ wr (fun q s hq => by
              rw [List.getElem?_map] at hq
              obtain ⟨t, ht, rfl⟩ := Option.map_eq_some_iff.1 hq
              have := ho.cellAt (q * 1) (by
                have := (List.getElem?_eq_some_iff.1 ht).1
                omega)
              simp only [Nat.mul_one, List.getElem?_map, ht, Option.map_some] at this
              simpa using this) hgl (by simp; omega) (by simpa using hcap) (by rw [bw_back]; exact Nat.le_trans hjl (by omega))
            rw [bw_back, List.length_map] at this
            exact this
          have hjl : (Lib.join ss [32]).length ≤ 10000000 := join_small HLN.out hsj htl' hkw hln
          obtain ⟨J, hJ⟩ : ∃ J, Lib.join ss [32] = J := ⟨_, rfl⟩
          rw [hJ] at HJN hjl
          have b1 : ∀ w, (Op.stringOp .add ⟨#[40]⟩ (bw J)).run Tryz.prog w = .ok (.string (bw (40 :: J))) w := rcat_run [40] J (by simp; omega)
          have b2 : ∀ w, (Op.stringOp .add (bw (40 :: J)) ⟨#[41]⟩).run Tryz.prog w = .ok (.string (bw (40 :: J ++ [41]))) w := rcat_run (40 :: J) [41] (by simp; omega)
          have HF : Hid (40 :: J ++ [41] = pre ++ x.l.flatMap (fun y => 32 :: tf y) ++ [41] ∧ Below w.heap.size w wr) := by
            refine ⟨?_, HE.out.1.trans (HQ.out.2.2.mono HE.out.1.size)⟩
            rw [← hJ, HPRE.out, hsj]
            rw [if_neg HTT'.out]; exact join_text0 _ _ _
          clear HQ ho hsj hjl hcap hgl hl0 hgj hJ hss HC HE HLN HPRE
          go_wp2_with fail
          refine HJN.out.mono ?_
          rintro e w9 ⟨rfl, hb9⟩
          go_wp2_with fail
          refine bodyPost_ret (v := .string (bw (40 :: J ++ [41]))) ?_ rfl ⟨by rw [HF.out.1], HF.out.2.trans (hb9.mono HF.out.2.size)⟩
          simp [results, Tryz.results23, go_sem]
end Go.Proofs.YtnddkmccagiclaaGreatDoor

/-
  While the parts of a term are read out of trees: the term's box, the row of its parts; and the plain facts of a tree with brackets.
-/
namespace Go.Proofs.YtnddkmccagiclaaGreatDoor
open Go.RowKit

/-- The term's box at S, as it was laid in W3, its parts in a row behind it. -/
structure CU (S : Nat) (k : Int) (t : Tr) (v : Value) (cs : List TT) (W3 wr : World) : Prop where
  row : Row (S + 1) v cs wr
  low : Below S W3 wr
  box : ∃ a c, v = .slice a cs.length c ∧ Box7 wr S ⟨k, 0, t, leaf 0, a, c, cs⟩
  tin : t.In wr ∧ t.Bl (fun b => S + 1 ≤ b ∧ some b ≠ v.ownBlock)

theorem CU.lt {S : Nat} {k : Int} {t : Tr} {v : Value} {cs : List TT} {W3 wr : World} (h : CU S k t v cs W3 wr) : S < wr.heap.size := by
  obtain ⟨_, _, _, hb⟩ := h.box
  exact hb.lt

theorem CU.step {S : Nat} {k : Int} {c : TT} {t : Tr} {gg cap1 : Nat} {v : Value} {cs : List TT} {W3 wr w1 w2 w3 : World} {X : Obj} (h : CU S k t v cs W3 wr) (hb1 : Below wr.heap.size wr w1) (hin : c.In w2) (hbl : c.Bl (w1.heap.size ≤ ·)) (hb2 : Below w1.heap.size w1 w2)
    (hown : w3.ownsRow (S + 1) 27 7 (.slice (some ⟨gg, 0, none⟩) (cs.length + 1) cap1) (cs.length + 1) (cells7 cs ++ [.int .i64 c.k, .int .i64 c.n, .int .i64 c.t.k, .slice c.t.a c.t.l.length c.t.c, .int .i64 c.f.k, .slice c.f.a c.f.l.length c.f.c, .slice c.a c.l.length c.c])) (hgrow : (w2.alloc X).grownBy w3 v.ownBlock) (hat : v.ownBlock = some gg ∨ gg = w2.heap.size + 1) :
    CU S k t (.slice (some ⟨gg, 0, none⟩) (cs.length + 1) cap1) (cs ++ [c]) W3 (w3.setCell ⟨S, 6, none⟩ (.slice (some ⟨gg, 0, none⟩) (cs.length + 1) cap1)) := by
  have s1 := hb1.size
  have s2 := hb2.size
  have hlr : S < wr.heap.size := h.lt
  have hbr : Below wr.heap.size wr w2 := hb1.trans (hb2.mono s1)
  have hov := h.row.lt
  obtain ⟨hr3, hblk⟩ := (h.row.below hbr).step hin (hbl.mono fun b hb => ⟨by omega, fun e => by have := (hov b e.symm).2; omega⟩) (by simpa [cells7] using hown) hgrow hat
  have hno : ∀ k, k ≤ S → some k ≠ v.ownBlock := fun k hk e => by have := (hov k e.symm).1; omega
  have hold : ∀ k, k < wr.heap.size → some k ≠ v.ownBlock → w3.heap[k]? = wr.heap[k]? := fun k hk hn => (hblk k (by omega) hn).trans (hbr.block k hk)
  have hset : ∀ k i, k ≠ S → (w3.setCell ⟨S, 6, none⟩ (.slice (some ⟨gg, 0, none⟩) (cs.length + 1) cap1)).cell? ⟨k, i, none⟩ = w3.cell? ⟨k, i, none⟩ := by
    intro k i hk
    rw [World.cell?_setCell_other]
    intro e; simp only [Addr.mk.injEq] at e; omega
  refine ⟨hr3.kept (R := S) setR_kept (by omega), ?_, ?_, ?_⟩
  · have hb3 : Below S (w2.alloc X) w3 := ⟨hgrow.os, hgrow.tape, hgrow.output, hgrow.size, fun k hk => hgrow.block k (by simp; omega) (hno k (by omega))⟩
    have hba : Below S w2 (w2.alloc X) := ((Below.refl _ _).alloc (Nat.le_refl _) _).mono (by omega)
    exact (((h.low.trans (hbr.mono (by omega))).trans hba).trans hb3).setCell (by simp) _
  · obtain ⟨a, c0, hv, hbx⟩ := h.box
    refine ⟨some ⟨gg, 0, none⟩, cap1, ?_, ?_⟩
    · rw [List.length_append, List.length_singleton]
    · have := (hbx.blk (hold S (by omega) (hno S (by omega)))).set6 (a' := some ⟨gg, 0, none⟩) (c' := cap1) (l' := cs ++ [c])
      rw [List.length_append, List.length_singleton] at this
      exact this
  · obtain ⟨i1, i2⟩ := h.tin
    have i3 := i1.bl.and i2
    refine ⟨i1.congr (P := fun b => b < wr.heap.size ∧ S + 1 ≤ b ∧ some b ≠ v.ownBlock) (fun b hb i => ?_) i3, i3.mono fun b hb => ⟨hb.2.1, ?_⟩⟩
    · rw [hset b i (by omega)]
      exact World.cell?_of_block (a := ⟨b, i, none⟩) (hold b hb.1 hb.2.2)
    · show some b ≠ some gg
      rcases hat with e | e
      · rw [← e]; exact hb.2.2
      · simp only [ne_eq, Option.some.injEq]; omega

/-- All but the blocks from S on is as it was: the tree's box and the answer's lie there still. -/
theorem TB.belowS {x : Nd} {w W V : World} {S : Nat} (h : TB x w W) (hS : w.heap.size + 1 < S) (hb : Below S W V) : TB x w V := by
  have c : ∀ b i, b ≤ w.heap.size + 1 → V.cell? ⟨b, i, none⟩ = W.cell? ⟨b, i, none⟩ := fun b i h => hb.cell (p := ⟨b, i, none⟩) (show b < S by omega)
  have f : ∀ b i, b ≤ w.heap.size + 1 → V.frozen? ⟨b, i, none⟩ = W.frozen? ⟨b, i, none⟩ := fun b i h => hb.frozen (p := ⟨b, i, none⟩) (show b < S by omega)
  exact ⟨h.low.trans (hb.mono (by omega)), (c _ _ (by omega)).trans h.b0, (c _ _ (by omega)).trans h.b1, (c _ _ (by omega)).trans h.b2, ⟨h.box.at7.of fun i => c _ i (by omega), fun i hi => (f _ i (by omega)).trans (h.box.fz i hi)⟩⟩

/-! ### Which word -/

theorem atWord_first (x : ByteArray) : ∀ (l : List ByteArray) (i j : Nat) (h : j < l.length), (∀ q (hq : q < l.length), q < j → l[q] ≠ x) → l[j] = x → atWord x l i = some (i + j)
  | y :: r, i, 0, _, _, hj => by
    rw [atWord, if_pos (by simpa using hj)]
    rfl
  | y :: r, i, j + 1, h, hn, hj => by
    rw [atWord, if_neg (by have := hn 0 (by simp) (by omega); simpa using this)]
    rw [atWord_first x r (i + 1) j (by simpa using h) (fun q hq hqj => by have := hn (q + 1) (by simpa using hq) (by omega); simpa using this) (by simpa using hj)]
    congr 1
    omega
theorem atWord_none (x : ByteArray) : ∀ (l : List ByteArray) (i : Nat), (∀ y, y ∈ l → y ≠ x) → atWord x l i = none
  | [], _, _ => rfl
  | y :: r, i, h => by
    rw [atWord, if_neg (h y List.mem_cons_self)]
    exact atWord_none x r (i + 1) fun z hz => h z (List.mem_cons_of_mem _ hz)

/-! ### A tree with brackets -/

theorem termT_nil (n : Nat) (x : Nd) (ho : x.o = true) (hl : x.l = []) : termT (n + 1) x.tn = none := by
  rw [termT, Nd.tn_o, if_neg (by rw [ho]; simp), Nd.tn_l, hl]
  rfl
theorem termT_two (n : Nat) (x y : Nd) (r : List Nd) (ho : x.o = true) (hl : x.l = y :: r) (hy : y.o = true) : termT (n + 1) x.tn = none := by
  rw [termT, Nd.tn_o, if_neg (by rw [ho]; simp), Nd.tn_l, hl]
  simp [Nd.tn_o, hy]
theorem termT_cons (n : Nat) (x y : Nd) (r : List Nd) (ho : x.o = true) (hl : x.l = y :: r) (hy : y.o = false) : termT (n + 1) x.tn = (kindAt y.w).bind fun k => (headT n k (r.map Nd.tn)).bind fun p => if p.2.length = partsOf (k : Int) then (allO (termT n) p.2).map fun l => ⟨(k : Int), 0, p.1, anyY, l⟩ else none := by
  rw [termT, Nd.tn_o, if_neg (by rw [ho]; simp), Nd.tn_l, hl]
  simp only [List.map_cons, Nd.tn_o, hy, Bool.false_eq_true, if_false, Nd.tn_w]
  rfl

/-- Parts that were read so far: what each came to, and whether all came to something. -/
structure PU (n : Nat) (L : List Nd) (ok0 : Bool) (j : Nat) (ok : Bool) (cs : List TT) : Prop where
  len : cs.length = j
  ok : ok = (ok0 && (L.take j).all fun y => (termT n y.tn).isSome)
  tm : ∀ i (h : i < cs.length) (h' : i < L.length) v, termT n L[i].tn = some v → cs[i].tm = v

theorem PU.start (n : Nat) (L : List Nd) (ok0 : Bool) : PU n L ok0 0 ok0 [] := ⟨rfl, by simp, fun i h => by cases h⟩

theorem PU.step {n : Nat} {L : List Nd} {ok0 ok b : Bool} {j : Nat} {cs : List TT} {z : TT} (h : PU n L ok0 j ok cs) (hj : j < L.length) (hb : b = (termT n L[j].tn).isSome) (hz : ∀ v, termT n L[j].tn = some v → z.tm = v) : PU n L ok0 (j + 1) (ok && b) (cs ++ [z]) := by
  refine ⟨by simp [h.len], ?_, fun i hi h' v hv => ?_⟩
  · rw [h.ok, hb, List.take_succ_eq_append_getElem hj, List.all_append]
    simp [Bool.and_assoc]
  · by_cases hc : i < cs.length
    · rw [List.getElem_append_left hc]
      exact h.tm i hc h' v hv
    · have e : i = cs.length := by simp at hi; omega
      subst e
      rw [List.getElem_append_right (Nat.le_refl _)]
      simp only [Nat.sub_self, List.getElem_cons_zero]
      exact hz v (by simpa only [h.len] using hv)

theorem allO_none {f : Tn → Option Tm} : ∀ l : List Tn, (l.all fun y => (f y).isSome) = false → allO f l = none
  | [], h => by simp at h
  | x :: l, h => by
    rw [allO]
    simp only [List.all_cons, Bool.and_eq_false_iff] at h
    rcases h with h | h
    · cases hf : f x with
      | none => rfl
      | some t => rw [hf] at h; cases h
    · rw [allO_none l h]
      cases f x <;> rfl

theorem allO_some {f : Tn → Option Tm} : ∀ (l : List Tn) (ts : List Tm), ts.length = l.length → (∀ i (h : i < l.length) (h' : i < ts.length), f l[i] = some ts[i]) → allO f l = some ts
  | [], [], _, _ => rfl
  | [], t :: ts, h, _ => by simp at h
  | x :: l, [], h, _ => by simp at h
  | x :: l, t :: ts, hl, h => by
    rw [allO, show f x = some t from h 0 (by simp) (by simp), Option.bind_some, allO_some l ts (by simpa using hl) fun i h1 h2 => by
      have := h (i + 1) (by simpa using h1) (by simpa using h2)
      simpa using this]
    rfl

/-- What the whole comes to. -/
theorem PU.end {n : Nat} {L : List Nd} {ok0 ok : Bool} {cs : List TT} (h : PU n L ok0 L.length ok cs) : (ok = true → ok0 = true ∧ allO (termT n) (L.map Nd.tn) = some (cs.map TT.tm)) ∧ (ok = false → ok0 = false ∨ allO (termT n) (L.map Nd.tn) = none) := by
  have e : ok = (ok0 && L.all fun y => (termT n y.tn).isSome) := by rw [h.ok, List.take_length]
  constructor
  · intro ho
    rw [e, Bool.and_eq_true] at ho
    refine ⟨ho.1, allO_some _ _ (by simp [h.len]) fun i h1 h2 => ?_⟩
    have hi : i < L.length := by simpa using h1
    have hs := List.all_eq_true.1 ho.2 L[i] (List.getElem_mem hi)
    obtain ⟨v, hv⟩ := Option.isSome_iff_exists.1 hs
    have := h.tm i (by simpa using h2) hi v hv
    simp only [List.getElem_map]
    rw [hv, this]
  · intro ho
    rw [e, Bool.and_eq_false_iff] at ho
    rcases ho with ho | ho
    · exact .inl ho
    · refine .inr (allO_none _ ?_)
      rw [List.all_map]
      exact ho
end Go.Proofs.YtnddkmccagiclaaGreatDoor

/-
  What the call of chaperoneref.IsType answers at a tree that lies in memory.
-/
namespace Go.Proofs.YtnddkmccagiclaaGreatDoor
open Go.RowKit

theorem good_right : ∀ (n : Nat) (t : Tr), goodT n t = (rightY t.ty && decide (t.hgt ≤ n))
  | 0, t => by
    have := t.hgt_pos
    have e : decide (t.hgt ≤ 0) = false := by simp; omega
    rw [e]
    simp [goodT]
  | n + 1, ⟨k, a, c, l⟩ => by
    rw [right_ty, hgt_most]
    match l with
    | [] =>
      have e : (k == 0 || k == 1 || k == 2) = (decide (0 ≤ k) && decide (k ≤ 2)) := by
        rw [Bool.eq_iff_iff]; simp; omega
      simp [goodT, topR, most, e]
    | [x] => simp [goodT, topR]
    | [x, y] =>
      have h1 := good_right n x
      have h2 := good_right n y
      have e : decide (most [x, y] + 1 ≤ n + 1) = (decide (x.hgt ≤ n) && decide (y.hgt ≤ n)) := by
        rw [Bool.eq_iff_iff]
        simp [most]
        omega
      simp only [goodT, h1, h2, e, topR, List.all_cons, List.all_nil, List.length_cons, List.length_nil]
      cases k == 3 <;> cases rightY x.ty <;> cases rightY y.ty <;> cases decide (x.hgt ≤ n) <;> simp
    | x :: y :: z :: r =>
      have e1 : (((x :: y :: z :: r).length : Int) == 0) = false := by simp; omega
      have e2 : (((x :: y :: z :: r).length : Int) == 2) = false := by simp; omega
      have e3 : topR k (x :: y :: z :: r).length = false := by unfold topR; rw [e1, e2]; simp
      simp only [goodT, e3, Bool.false_and]

set_option maxHeartbeats 400000 in
/-- chaperoneref.IsType. -/
theorem isType_any (n : Nat) (hn : n ≤ 1000000000) (x : Tr) (w : World) (hx : x.In w) (hh : x.hgt ≤ n) (hs : x.sm) :
    Calls Tryz.prog 47 #[.agg #[.int .i64 x.k, .slice x.a x.l.length x.c]] w fun e w' => e = .returned (.bool (goodT 4 x)) ∧ Below w.heap.size w w' := by
  have hg := good_right 4 x
  have hb0 : Below w.heap.size w (w.alloc (.cells #[.int .i64 x.k, .slice x.a x.l.length x.c] 24)) := (Below.refl _ _).alloc (Nat.le_refl _) _
  obtain ⟨r, hr⟩ : ∃ r, rightY x.ty = r := ⟨_, rfl⟩
  have G1 : Hid (∀ W, x.In W → Calls Tryz.prog 77 #[.agg #[.int .i64 x.k, .slice x.a x.l.length x.c]] W fun e w' => e = .returned (.bool r) ∧ Below W.heap.size W w') := fun W h => hr ▸ isRight_any n x W h hh hs
  have G2 : Hid (∀ W, x.In W → Calls Tryz.prog 78 #[.agg #[.int .i64 x.k, .slice x.a x.l.length x.c]] W fun e w' => e = .returned (.int .i64 (x.hgt : Int)) ∧ Below W.heap.size W w') := fun W h => deepOf_any n hn x W h hh hs
  have HG : Hid (goodT 4 x = (r && decide (x.hgt ≤ 4))) := by show _ = _; rw [hg, hr]
  clear hg hr hh hs
  cases r
  · go_enter Tryz.func47, Tryz.ntmps47
    go_wp2_with fail
    refine (G1.out _ (hx.below hb0)).mono ?_
    rintro e w1 ⟨rfl, h1⟩
    have hb1 := hb0.trans (h1.mono hb0.size)
    clear h1 hb0
    go_wp2_with fail
    go_ret
    exact ⟨by rw [HG.out]; rfl, hb1⟩
  · go_enter Tryz.func47, Tryz.ntmps47
    go_wp2_with fail
    refine (G1.out _ (hx.below hb0)).mono ?_
    rintro e w1 ⟨rfl, h1⟩
    have hb1 := hb0.trans (h1.mono hb0.size)
    have p0 : w1.cell? ⟨w.heap.size, 0, none⟩ = some (.int .i64 x.k) := cell_later h1 (by simp [go_sem])
    have p1 : w1.cell? ⟨w.heap.size, 1, none⟩ = some (.slice x.a x.l.length x.c) := cell_later h1 (by simp [go_sem])
    clear h1 hb0
    go_wp2_with fail
    refine (G2.out _ (hx.below hb1)).mono ?_
    rintro e w2 ⟨rfl, h2⟩
    have hb2 := hb1.trans (h2.mono hb1.size)
    have HE : Hid (goodT 4 x = decide ((x.hgt : Int) < 5)) := by
      show _ = _
      rw [HG.out, Bool.true_and, Bool.eq_iff_iff]; simp; omega
    clear h2 hb1 HG
    go_wp2_with fail
    go_ret
    exact ⟨by rw [HE.out]; rfl, hb2⟩
end Go.Proofs.YtnddkmccagiclaaGreatDoor

/-
  What the call of ref's parts answers: a map that the call makes.
-/
namespace Go.Proofs.YtnddkmccagiclaaGreatDoor
open Go.RowKit Go.Maps

theorem law3 : Keyed Tryz.prog 3 := int_keyed Tryz.underlying3
theorem zero3 (w : World) : (zeroValue 3).run Tryz.prog w = .ok (.int .i64 0) w := by kernel_rfl

/-- A key of a map's literal. -/
theorem put_key {b n : Nat} {D : DataW Unit} {w : World} (hown : w.ownsMap Tryz.prog 3 (plainElem Tryz.prog 3) b n D) (hn : n < 100) (k v : Int) (hk : (Lit.int .i64 k).wf = true) (hv : (Lit.int .i64 v).wf = true) :
    ∃ w', (Instr.mapUpdate 133 (.map (some b)) (.int .i64 k) (.int .i64 v)).run Tryz.prog w = .ok () w' ∧ w'.ownsMap Tryz.prog 3 (plainElem (H := Unit) Tryz.prog 3) b (n + 1) (D.put (.int .i64 k) (.lit (.int .i64 v))) ∧ w.grownBy w' (some b) :=
  hown.update law3 Tryz.underlying133 (by unfold maxLen; omega) (keyOf_int_mk Tryz.underlying3 hk) (plainElem_int Tryz.underlying3 hv)

/-- What the table tells. -/
theorem parts_at (k : Int) : DataW.atKey ((((((((((DataW.map (H := Unit) []).put (.int .i64 1) (.lit (.int .i64 0))).put (.int .i64 2) (.lit (.int .i64 0))).put (.int .i64 3) (.lit (.int .i64 0))).put (.int .i64 4) (.lit (.int .i64 2))).put (.int .i64 5) (.lit (.int .i64 2))).put (.int .i64 6) (.lit (.int .i64 3))).put (.int .i64 7) (.lit (.int .i64 1))).put (.int .i64 8) (.lit (.int .i64 2))).put (.int .i64 9) (.lit (.int .i64 1))) (.int .i64 k) (.lit (.int .i64 0)) = .lit (.int .i64 (partsOf k : Int)) := by
  have e : ((((((((((DataW.map (H := Unit) []).put (.int .i64 1) (.lit (.int .i64 0))).put (.int .i64 2) (.lit (.int .i64 0))).put (.int .i64 3) (.lit (.int .i64 0))).put (.int .i64 4) (.lit (.int .i64 2))).put (.int .i64 5) (.lit (.int .i64 2))).put (.int .i64 6) (.lit (.int .i64 3))).put (.int .i64 7) (.lit (.int .i64 1))).put (.int .i64 8) (.lit (.int .i64 2))).put (.int .i64 9) (.lit (.int .i64 1))) = DataW.map (H := Unit) [(.int .i64 1, .lit (.int .i64 0)), (.int .i64 2, .lit (.int .i64 0)), (.int .i64 3, .lit (.int .i64 0)), (.int .i64 4, .lit (.int .i64 2)), (.int .i64 5, .lit (.int .i64 2)), (.int .i64 6, .lit (.int .i64 3)), (.int .i64 7, .lit (.int .i64 1)), (.int .i64 8, .lit (.int .i64 2)), (.int .i64 9, .lit (.int .i64 1))] := by rfl
  rw [e]
  by_cases hk : 1 ≤ k ∧ k ≤ 9
  · have : k = 1 ∨ k = 2 ∨ k = 3 ∨ k = 4 ∨ k = 5 ∨ k = 6 ∨ k = 7 ∨ k = 8 ∨ k = 9 := by omega
    rcases this with rfl | rfl | rfl | rfl | rfl | rfl | rfl | rfl | rfl <;> rfl
  · have hp : partsOf k = 0 := by unfold partsOf; rw [if_neg (by omega), if_neg (by omega), if_neg (by omega)]
    have hn : ∀ j : Int, 1 ≤ j → j ≤ 9 → (Lit.int .i64 j).sameKey (.int .i64 k) = false := fun j h1 h2 => by
      simp only [Lit.sameKey, decide_eq_false_iff_not]
      intro h
      omega
    rw [hp]
    simp [DataW.atKey, List.find?, hn]

set_option maxRecDepth 20000 in
set_option maxHeartbeats 400000 in
theorem parts_any (k : Int) (hk : (Lit.int .i64 k).wf = true) (w : World) : Calls Tryz.prog 45 #[.int .i64 k] w fun e w' => e = .returned (.int .i64 (partsOf k : Int)) ∧ Below w.heap.size w w' := by
  have hmm := @run_makeMap Tryz.prog
  go_enter Tryz.func45, Tryz.ntmps45
  go_wp2_with fail
  obtain ⟨w1, r1, o1, g1⟩ := put_key (World.ownsMap_made w Tryz.prog 3 (plainElem (H := Unit) Tryz.prog 3)) (by omega) 1 0 (by decide) (by decide)
  rw [r1]
  clear r1
  go_wp2_with fail
  obtain ⟨w2, r2, o2, g2⟩ := put_key o1 (by omega) 2 0 (by decide) (by decide)
  rw [r2]
  clear r2
  go_wp2_with fail
  obtain ⟨w3, r3, o3, g3⟩ := put_key o2 (by omega) 3 0 (by decide) (by decide)
  rw [r3]
  clear r3
  go_wp2_with fail
  obtain ⟨w4, r4, o4, g4⟩ := put_key o3 (by omega) 4 2 (by decide) (by decide)
  rw [r4]
  clear r4
  go_wp2_with fail
  obtain ⟨w5, r5, o5, g5⟩ := put_key o4 (by omega) 5 2 (by decide) (by decide)
  rw [r5]
  clear r5
  go_wp2_with fail
  obtain ⟨w6, r6, o6, g6⟩ := put_key o5 (by omega) 6 3 (by decide) (by decide)
  rw [r6]
  clear r6
  go_wp2_with fail
  obtain ⟨w7, r7, o7, g7⟩ := put_key o6 (by omega) 7 1 (by decide) (by decide)
  rw [r7]
  clear r7
  go_wp2_with fail
  obtain ⟨w8, r8, o8, g8⟩ := put_key o7 (by omega) 8 2 (by decide) (by decide)
  rw [r8]
  clear r8
  go_wp2_with fail
  obtain ⟨w9, r9, o9, g9⟩ := put_key o8 (by omega) 9 1 (by decide) (by decide)
  rw [r9]
  clear r9
  go_wp2_with fail
  obtain ⟨c, hrun, hat, _⟩ := o9.lookup_int law3 Tryz.underlying133 Tryz.underlying3 (zero3 _) (keyOf_int_mk Tryz.underlying3 hk)
  rw [parts_at] at hat
  have hB : Below w.heap.size w w9 := by
    have h0 : Below w.heap.size w (w.alloc (.map #[] 0)) := (Below.refl _ _).alloc (Nat.le_refl _) _
    have st : ∀ {u u' : World}, Below w.heap.size w u → u.grownBy u' (some w.heap.size) → Below w.heap.size w u' := fun h g => h.grown g h.size (fun j hj => by cases hj; exact Nat.le_refl _)
    exact st (st (st (st (st (st (st (st (st h0 g1) g2) g3) g4) g5) g6) g7) g8) g9
  have HB : Hid (Below w.heap.size w w9) := hB
  have HC : Hid (c = (partsOf k : Int)) := by
    have : DataW.lit (H := Unit) (.int .i64 (partsOf k : Int)) = .lit (.int .i64 c) := hat
    cases this
    exact rfl
  clear hat hB o1 o2 o3 o4 o5 o6 o7 o8 o9 g1 g2 g3 g4 g5 g6 g7 g8 g9
  rw [hrun]
  clear hrun
  go_wp2_with fail
  go_ret
  exact ⟨by rw [HC.out]; rfl, HB.out⟩
end Go.Proofs.YtnddkmccagiclaaGreatDoor
