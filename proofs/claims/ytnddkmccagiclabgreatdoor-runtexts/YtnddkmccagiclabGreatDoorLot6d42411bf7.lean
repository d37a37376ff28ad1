/-
  What the call of ref's typeOf answers at a good term.
-/
import Derived.Test.YtnddkmccagiclabGreatDoorLot789dfea93b
import Derived.Test.YtnddkmccagiclabGreatDoorLot4ae5b21284
import Derived.Test.YtnddkmccagiclabGreatDoorLotdf4e4ec170
import Derived.Test.YtnddkmccagiclabGreatDoorLotd76c694fc3
import Derived.Deep.RegionHeld3
import Derived.Deep.DeepCutAuto
namespace Go.Proofs.YtnddkmccagiclabGreatDoor
open Go.RowKit
set_option maxRecDepth 20000 in
set_option maxHeartbeats 4000000 in
theorem type_step (Q : Nat → Prop) (x : TT) (E : Tr) (w : World) (hx : x.In w) (hE : E.In w) (hok : okTm x.tm E.l.length) (hEg : ∀ u, u ∈ E.l → goodT 4 u = true) (hsz : x.sz + E.l.length ≤ 900) (xb : x.Bl Q) (eb : E.Bl Q) (nw : ∀ b, w.heap.size ≤ b → Q b)
    (ih : Hid (∀ y, y ∈ x.l → ∀ (Q' : Nat → Prop) (E' : Tr) (W : World), y.In W → E'.In W → okTm y.tm E'.l.length → (∀ u, u ∈ E'.l → goodT 4 u = true) → y.sz + E'.l.length ≤ 900 → y.Bl Q' → E'.Bl Q' → (∀ b, W.heap.size ≤ b → Q' b) →
      Calls Tryz.prog 57 #[.agg #[.int .i64 y.k, .int .i64 y.n, .int .i64 y.t.k, .slice y.t.a y.t.l.length y.t.c, .int .i64 y.f.k, .slice y.f.a y.f.l.length y.f.c, .slice y.a y.l.length y.c], .slice E'.a E'.l.length E'.c] W (TyPost Q' (typeS y.tm (E'.l.map Tr.ty)) W))) :
    Calls Tryz.prog 57 #[.agg #[.int .i64 x.k, .int .i64 x.n, .int .i64 x.t.k, .slice x.t.a x.t.l.length x.t.c, .int .i64 x.f.k, .slice x.f.a x.f.l.length x.f.c, .slice x.a x.l.length x.c], .slice E.a E.l.length E.c] w (TyPost Q (typeS x.tm (E.l.map Tr.ty)) w) := by
  obtain ⟨i0, hi0, hz0, hz1, hz2⟩ := info_parts Tryz.info24s
  obtain ⟨hk1, hk9, hlp, hfa, htg, htn, hrn, hpt⟩ : 1 ≤ x.k ∧ x.k ≤ 9 ∧ x.l.length = partsOf x.k ∧ isAnyY x.f.ty = true ∧ goodT 4 x.t = true ∧ (tells x.k = false → isAnyY x.t.ty = true) ∧ (x.k = 1 → 0 ≤ x.n ∧ x.n < (E.l.length : Int)) ∧ ∀ y, y ∈ x.l → okTm y.tm (if x.k = 7 then E.l.length + 1 else E.l.length) := by
    obtain ⟨k, n, t, f, a, c, l⟩ := x
    rw [TT.tm_mk] at hok
    obtain ⟨h0, h1⟩ := okTm_mk.1 hok
    obtain ⟨a1, a2, a3, a4, a5, a6, a7⟩ := okTop_all h0
    exact ⟨a1, a2, by simpa using a3, a4, by rw [goodT_eq]; exact a5, a6, a7, fun y hy => h1 _ (List.mem_map.2 ⟨y, hy, rfl⟩)⟩
  have hll : x.l.length ≤ 3 := by rw [hlp]; unfold partsOf; split <;> (try split) <;> (try split) <;> omega
  obtain ⟨W1, hW1⟩ : ∃ W, W = ((((w.alloc (.cells #[.int .i64 x.k, .int .i64 x.n, .int .i64 x.t.k, .slice x.t.a x.t.l.length x.t.c, .int .i64 x.f.k, .slice x.f.a x.f.l.length x.f.c, .slice x.a x.l.length x.c] 27)).alloc (.cells #[.int .i64 0, .slice none 0 0] 24)).alloc (.cells #[.int .i64 1, .slice none 0 0] 24)).alloc (.cells #[.int .i64 2, .slice none 0 0] 24)) := ⟨_, rfl⟩
  have hB1 : TB x w W1 := by
    refine ⟨?_, ⟨?_, ?_, ?_, ?_, ?_, ?_, ?_⟩, ?_, ?_, ?_, ?_, ?_, ?_, ?_, ?_⟩
    · rw [hW1]
      exact ((((Below.refl _ _).alloc (Nat.le_refl _) _).alloc (by simp) _).alloc (by simp; omega) _).alloc (by simp; omega) _
    all_goals (rw [hW1]; simp [go_sem])
  have HB1 : Hid (TB x w W1) := hB1
  have HX : Hid (x.In w ∧ E.In w ∧ x.Bl Q ∧ E.Bl Q ∧ (∀ b, w.heap.size ≤ b → Q b)) := ⟨hx, hE, xb, eb, nw⟩
  have HF : Hid (goodT 4 x.t = true ∧ (∀ u, u ∈ E.l → goodT 4 u = true) ∧ x.sz + E.l.length ≤ 900 ∧ (∀ y, y ∈ x.l → okTm y.tm (if x.k = 7 then E.l.length + 1 else E.l.length)) ∧ x.l.length = partsOf x.k ∧ (x.k = 1 → 0 ≤ x.n ∧ x.n < (E.l.length : Int))) := ⟨htg, hEg, hsz, hpt, hlp, hrn⟩
  obtain ⟨Q1, hQ1⟩ : ∃ Q1 : Nat → Prop, Q1 = fun b => Q b ∧ b ≠ w.heap.size + 1 := ⟨_, rfl⟩
  have HQ1 : Hid (x.Bl Q1 ∧ E.Bl Q1 ∧ (∀ b, w.heap.size + 1 + 1 ≤ b → Q1 b) ∧ ∀ b, Q1 b → Q b ∧ b ≠ w.heap.size + 1) := by
    subst hQ1
    exact ⟨(xb.and hx.bl).mono fun b h => ⟨h.1, by omega⟩, (eb.and hE.bl).mono fun b h => ⟨h.1, by omega⟩, fun b h => ⟨nw b (by omega), by omega⟩, fun b h => h⟩
  obtain ⟨q0, q1, q2, q3, q4, q5, q6⟩ := hB1.at7
  simp only [Nat.zero_add] at q0 q1 q2 q3 q4 q5 q6
  have ls : w.heap.size < W1.heap.size := World.block_lt_of_cell? _ _ q0
  have hE1 := hE.below hB1.low
  have hel : E.l.length ≤ 900 := by omega
  clear hok hEg hsz hpt hfa htg htn hrn xb eb nw hx hE hB1 hQ1 hlp
  go_enter Tryz.func57, Tryz.ntmps57
  go_upto_region 4 with fail
  rw [← hW1]
  clear hW1
  go_upto_if 19 with fail
  go_cut [9] (fun s9 wx => ∃ N : Tr, s9 = .slice N.a N.l.length N.c ∧ Hid (N.l.map Tr.ty = takesIn x.k x.t.ty (E.l.map Tr.ty) ∧ N.In wx ∧ N.Bl Q1 ∧ Below W1.heap.size W1 wx ∧ (∀ u, u ∈ N.l → goodT 4 u = true)))
  case first =>
    by_cases hk0 : x.k = 7
    · have HK : Hid (x.k = 7) := hk0
      have hk' : (x.k == 7) = true := by simpa using hk0
      clear hk0
      rw [hk']
      clear hk'
      have hb0 : Below W1.heap.size W1 (W1.alloc (.cells #[.int .i64 x.t.k, .slice x.t.a x.t.l.length x.t.c] 24)) := (Below.refl _ _).alloc (Nat.le_refl _) _
      have hown : (W1.alloc (.cells #[.int .i64 x.t.k, .slice x.t.a x.t.l.length x.t.c] 24)).ownsRow W1.heap.size 24 2 (.slice (some ⟨W1.heap.size, 0, none⟩) 1 1) 1 (cellsOf [x.t]) := by
        have := World.ownsRow_lit (base := W1.heap.size) (e := 24) (size := 2) W1 #[.int .i64 x.t.k, .slice x.t.a x.t.l.length x.t.c] 1 (by simp) (by unfold maxLen; omega) (by simp)
        simpa [cellsOf] using this
      have ht1 : x.t.In W1 := (HX.out.1.below HB1.out.low).t
      by_cases h0 : E.l.length = 0
      · have hE0 : E.l = [] := List.eq_nil_of_length_eq_zero h0
        have HN : Hid ([x.t].map Tr.ty = takesIn x.k x.t.ty (E.l.map Tr.ty) ∧ (Tr.mk 0 (some ⟨W1.heap.size, 0, none⟩) 1 [x.t]).In (W1.alloc (.cells #[.int .i64 x.t.k, .slice x.t.a x.t.l.length x.t.c] 24)) ∧ (Tr.mk 0 (some ⟨W1.heap.size, 0, none⟩) 1 [x.t]).Bl Q1 ∧ Below W1.heap.size W1 (W1.alloc (.cells #[.int .i64 x.t.k, .slice x.t.a x.t.l.length x.t.c] 24)) ∧ (∀ u, u ∈ [x.t] → goodT 4 u = true)) := by
          refine ⟨by rw [takesIn, if_pos HK.out, hE0]; rfl, tr_of_row hown rfl (fun t ht => by have : t = x.t := (by simpa using ht); subst this; exact ht1.below hb0) 0, ?_, hb0, fun u hu => by have : u = x.t := (by simpa using hu); subst this; exact HF.out.1⟩
          exact bl_one (HQ1.out.2.2.1 _ (by have := HB1.out.lt; omega)) HQ1.out.1.t
        clear hown hb0 ht1 hE1 hE0
        have H0 : Hid (E.l.length = 0) := h0
        clear h0
        go_wp2_with (at_builtin; refine wpList_append_void rfl _ _ _ rfl 24 i0 Tryz.underlying22 hi0 W1.heap.size 1 1 rfl E.a E.c (by show Value.slice E.a E.l.length E.c = _; rw [H0.out]) (by omega) ?_)
        go_meet
        case rel => exact ⟨⟨0, some ⟨W1.heap.size, 0, none⟩, 1, [x.t]⟩, rfl, HN⟩
      · obtain ⟨b, o, ea, _⟩ := hE1.part 0 (by omega)
        have hE2 := hE1.below hb0
        have hnews := fun j u h => cellsOf_news hE2 ea j u h
        have HIN : Hid (∀ t, t ∈ x.t :: E.l → t.In (W1.alloc (.cells #[.int .i64 x.t.k, .slice x.t.a x.t.l.length x.t.c] 24)) ∧ t.Bl (· < W1.heap.size)) := by
          intro t ht
          rcases List.mem_cons.1 ht with rfl | ht
          · exact ⟨ht1.below hb0, ht1.bl⟩
          · obtain ⟨q, hq, rfl⟩ := List.getElem_of_mem ht
            obtain ⟨_, _, _, _, _, hi⟩ := hE1.part q hq
            exact ⟨hi.below hb0, hi.bl⟩
        have hm : 0 < E.l.length := by omega
        have HB : Hid (Below W1.heap.size W1 (W1.alloc (.cells #[.int .i64 x.t.k, .slice x.t.a x.t.l.length x.t.c] 24))) := hb0
        have HEA : Hid (E.a = some ⟨b, o, none⟩) := ea
        clear hE1 hE2 ea hb0 ht1
        go_wp2_with (at_builtin; refine wpList_append_lies _ rfl _ _ _ rfl W1.heap.size 24 i0 _ 2 32 Tryz.underlying22 hi0 hz0 hz1 hz2 rfl (by omega) (.slice (some ⟨W1.heap.size, 0, none⟩) 1 1) 1 (cellsOf [x.t]) rfl hown ⟨b, o, none⟩ E.l.length E.c (cellsOf E.l) (by show Value.slice E.a E.l.length E.c = _; rw [HEA.out]) (cellsOf_length _) hnews (cellsOf_one _) hm (by unfold maxLen; omega) (by omega) (by simp) (W1.heap.size + 1) (by simp) ?_; intro gg cap1 w3 hown1 hgrow hat hlt3)
        have hg : W1.heap.size ≤ gg := by rcases hat with h | h
                                          · simp [Value.ownBlock] at h; omega
                                          · omega
        have hsz := hgrow.size
        have hlow : Below W1.heap.size (W1.alloc (.cells #[.int .i64 x.t.k, .slice x.t.a x.t.l.length x.t.c] 24)) w3 :=
          ⟨hgrow.os, hgrow.tape, hgrow.output, hgrow.size, fun q hq => hgrow.block q (by simp; omega) (by simp [Value.ownBlock]; omega)⟩
        have HN : Hid ((x.t :: E.l).map Tr.ty = takesIn x.k x.t.ty (E.l.map Tr.ty) ∧ (Tr.mk 0 (some ⟨gg, 0, none⟩) cap1 (x.t :: E.l)).In w3 ∧ (Tr.mk 0 (some ⟨gg, 0, none⟩) cap1 (x.t :: E.l)).Bl Q1 ∧ Below W1.heap.size W1 w3 ∧ (∀ u, u ∈ x.t :: E.l → goodT 4 u = true)) := by
          refine ⟨by rw [takesIn, if_pos HK.out]; rfl, tr_of_row (n := 1 + E.l.length) (l := x.t :: E.l) (by simpa [cellsOf] using hown1) (by simp; omega) (fun t ht => ?_) 0, ?_, HB.out.trans hlow, fun u hu => ?_⟩
          · obtain ⟨h1, h2⟩ := HIN.out t ht
            exact Tr.In.congr (P := fun q => q < W1.heap.size) (fun q hq o => hlow.cell (p := ⟨q, o, none⟩) hq) h2 h1
          · refine Tr.Bl_mk.2 ⟨fun _ y hy => by cases hy; exact HQ1.out.2.2.1 _ (by have := HB1.out.lt; show _ ≤ gg; omega), fun t ht => ?_⟩
            rcases List.mem_cons.1 ht with rfl | ht
            · exact HQ1.out.1.t
            · have h := HQ1.out.2.1
              obtain ⟨k, a, cc, l⟩ := E
              exact (Tr.Bl_mk.1 h).2 t ht
          · rcases List.mem_cons.1 hu with rfl | hu
            · exact HF.out.1
            · exact HF.out.2.1 u hu
        clear hown1 hgrow hat hlt3 hlow hown hnews HIN HB
        go_wp2_with fail
        go_meet
        case rel => exact ⟨⟨0, some ⟨gg, 0, none⟩, cap1, x.t :: E.l⟩, by simp [Nat.add_comm], HN⟩
    · have HK : Hid (x.k ≠ 7) := hk0
      have hk' : (x.k == 7) = false := by simpa using hk0
      clear hk0
      rw [hk']
      clear hk'
      have HN : Hid (E.l.map Tr.ty = takesIn x.k x.t.ty (E.l.map Tr.ty) ∧ E.In W1 ∧ E.Bl Q1 ∧ Below W1.heap.size W1 W1 ∧ (∀ u, u ∈ E.l → goodT 4 u = true)) := ⟨by rw [takesIn, if_neg HK.out], hE1, HQ1.out.2.1, Below.refl _ _, HF.out.2.1⟩
      go_wp2_with fail
      go_meet
      case rel => exact ⟨E, rfl, HN⟩
  case rest =>
  obtain ⟨N, rfl, HN⟩ := hcut
  clear q0 q1 q2 q3 q4 q5 q6 ls hE1 hi0 hz0 hz1 hz2
  have HBV : Hid (TB x w wc) := HB1.out.below HN.out.2.2.2.1
  obtain ⟨tk, htk⟩ : ∃ tk, tk = takesIn x.k x.t.ty (E.l.map Tr.ty) := ⟨_, rfl⟩
  have HTK : Hid (tk = takesIn x.k x.t.ty (E.l.map Tr.ty)) := htk
  have HNL : Hid (N.l.map Tr.ty = tk ∧ N.In wc ∧ N.Bl Q1 ∧ (∀ u, u ∈ N.l → goodT 4 u = true) ∧ N.l.length = (if x.k = 7 then E.l.length + 1 else E.l.length)) := by
    refine ⟨htk ▸ HN.out.1, HN.out.2.1, HN.out.2.2.1, HN.out.2.2.2.2, ?_⟩
    have := congrArg List.length HN.out.1
    rw [List.length_map, takesIn_length, List.length_map] at this
    exact this
  clear htk HN
  apply_assumption
  refine wp_seq_k fun Kx hKx => ?_
  go_cut [8] (fun s8 wx => ∃ (a : Option Addr) (c : Nat) (ts : List Tr), s8 = .slice a ts.length c ∧ Hid (typeL (x.l.map TT.tm) tk = some (ts.map Tr.ty) ∧ (Tr.mk 0 a c ts).In wx ∧ (∀ t, t ∈ ts → t.In wx ∧ t.Bl Q1 ∧ goodT 904 t = true) ∧ TB x w wx ∧ ∀ y, a = some y → w.heap.size + 1 < y.block))
  case first =>
    obtain ⟨i0, hi0, hz0, hz1, hz2⟩ := info_parts Tryz.info24s
    have q6 := HBV.out.at7.c6
    simp only [Nat.zero_add] at q6
    have ls := HBV.out.lt
    have hxc : x.In wc := HX.out.1.below HBV.out.low
    go_wp2_with fail
    go_loopg [8, 28] x.l.length (fun g s8 i wr => ∃ (v : Value) (j : Nat) (ts : List Tr), v = s8 ∧ j ≤ x.l.length ∧ g = x.l.length - j ∧ i = .int .i64 (j : Int) ∧ Hid (TL Q1 wc v ts wr ∧ ts.length = j ∧ ∀ q (h : q < x.l.length) (h' : q < ts.length), typeS x.l[q].tm tk = some ts[q].ty ∧ goodT 904 ts[q] = true))
    case atStart => exact ⟨_, 0, [], rfl, Nat.zero_le _, rfl, rfl, TL.start _ _, rfl, fun q _ h => by simp at h⟩
    case round =>
      obtain ⟨v, j, ts, hv, hj, hg, rfl, HR⟩ := hrel
      subst hv
      have HG : Hid (gk = x.l.length - j) := hg
      clear hg
      by_cases hlt : j < x.l.length
      · obtain ⟨b, o, ea, ⟨x0, x1, x2, x3, x4, x5, x6⟩, hxj⟩ := hxc.part j hlt
        have hbwr := HR.out.1.low
        replace x0 := cell_later hbwr x0
        replace x1 := cell_later hbwr x1
        replace x2 := cell_later hbwr x2
        replace x3 := cell_later hbwr x3
        replace x4 := cell_later hbwr x4
        replace x5 := cell_later hbwr x5
        replace x6 := cell_later hbwr x6
        obtain ⟨y, hy⟩ : ∃ y, y = x.l[j] := ⟨_, rfl⟩
        rw [← hy] at x0 x1 x2 x3 x4 x5 x6 hxj
        have hym : y ∈ x.l := by rw [hy]; exact List.getElem_mem hlt
        have HY : Hid (y = x.l[j] ∧ y ∈ x.l) := ⟨hy, hym⟩
        have i1 : (j : Int) < (x.l.length : Int) := by omega
        have i2 : (0 : Int) ≤ (j : Int) := by omega
        have lb : b < wr.heap.size := World.block_lt_of_cell? _ _ x0
        have hov : ∀ k, v.ownBlock = some k → wc.heap.size ≤ k ∧ k < wr.heap.size := HR.out.1.own.lt
        have hb1 : Below wr.heap.size wr (wr.alloc (.cells #[.int .i64 y.k, .int .i64 y.n, .int .i64 y.t.k, .slice y.t.a y.t.l.length y.t.c, .int .i64 y.f.k, .slice y.f.a y.f.l.length y.f.c, .slice y.a y.l.length y.c] 27)) := (Below.refl _ _).alloc (Nat.le_refl _) _
        have hbx : Below wc.heap.size wc (wr.alloc (.cells #[.int .i64 y.k, .int .i64 y.n, .int .i64 y.t.k, .slice y.t.a y.t.l.length y.t.c, .int .i64 y.f.k, .slice y.f.a y.f.l.length y.f.c, .slice y.a y.l.length y.c] 27)) := hbwr.trans (hb1.mono hbwr.size)
        have HI : Hid (Calls Tryz.prog 57 #[.agg #[.int .i64 y.k, .int .i64 y.n, .int .i64 y.t.k, .slice y.t.a y.t.l.length y.t.c, .int .i64 y.f.k, .slice y.f.a y.f.l.length y.f.c, .slice y.a y.l.length y.c], .slice N.a N.l.length N.c] (wr.alloc (.cells #[.int .i64 y.k, .int .i64 y.n, .int .i64 y.t.k, .slice y.t.a y.t.l.length y.t.c, .int .i64 y.f.k, .slice y.f.a y.f.l.length y.f.c, .slice y.a y.l.length y.c] 27)) (TyPost (fun b => Q1 b ∧ some b ≠ v.ownBlock) (typeS y.tm tk) (wr.alloc (.cells #[.int .i64 y.k, .int .i64 y.n, .int .i64 y.t.k, .slice y.t.a y.t.l.length y.t.c, .int .i64 y.f.k, .slice y.f.a y.f.l.length y.f.c, .slice y.a y.l.length y.c] 27)))) := by
          have hnl := HNL.out
          rw [← hnl.1]
          have hys : y.sz + 1 ≤ x.sz := by
            have h1 := x.sz_eq
            have h2 : y.sz ≤ (x.l.map TT.sz).sum := by
              have e : x.l[j].tm.sz ≤ ((x.l.map TT.tm).map Tm.sz).sum := sz_mem _ _ (List.mem_map.2 ⟨_, List.getElem_mem hlt, rfl⟩)
              rw [← hy, ← TT.sz_tm] at e
              have e2 : (x.l.map TT.tm).map Tm.sz = x.l.map TT.sz := by rw [List.map_map]; exact List.map_congr_left fun z _ => z.sz_tm.symm
              rwa [e2] at e
            omega
          refine ih.out y hym _ N _ (hxj.below hbx) (hnl.2.1.below hbx) (by rw [hnl.2.2.2.2]; exact HF.out.2.2.2.1 y hym) hnl.2.2.2.1 ?_ ?_ ?_ ?_
          · have := HF.out.2.2.1
            rw [hnl.2.2.2.2]
            split <;> omega
          · have h1 : y.Bl Q1 := HQ1.out.1.mem hym
            exact (h1.and hxj.bl).mono fun b hb => ⟨hb.1, fun e => by have := (hov b e.symm).1; omega⟩
          · exact (hnl.2.2.1.and hnl.2.1.bl).mono fun b hb => ⟨hb.1, fun e => by have := (hov b e.symm).1; omega⟩
          · intro b hb
            simp at hb
            exact ⟨HQ1.out.2.2.1 b (by have := hbwr.size; omega), fun e => by have := (hov b e.symm).2; omega⟩
        have HXA : Hid (x.a = some ⟨b, o, none⟩) := ea
        rw [ea]
        clear ea hxj hy hym ih
        go_wp2_with fail
        refine HI.out.mono ?_
        rintro e w2 ⟨t, bb, rfl, hbb, hty, hin, hbl, hb2⟩
        have hb12 : Below wr.heap.size wr w2 := hb1.trans (hb2.mono hb1.size)
        have hTB : TB x w w2 := (HBV.out.below hbwr).below hb12
        have r0 := hTB.r0
        have r1 := hTB.r1
        have f0 := hTB.f0
        have f1 := hTB.f1
        have us : w.heap.size + 1 < w2.heap.size := World.block_lt_of_cell? _ _ r0
        have un : w.heap.size + 1 ≠ w2.heap.size := Nat.ne_of_lt us
        have un2 : w.heap.size + 1 ≠ w2.heap.size + 1 := by omega
        have hba : ∀ X Y, Below w2.heap.size w2 ((w2.alloc X).alloc Y) := fun X Y => ((Below.refl _ _).alloc (Nat.le_refl _) _).alloc (by simp) _
        have ra0 : ∀ X Y, ((w2.alloc X).alloc Y).cell? ⟨w.heap.size + 1, 0, none⟩ = some (.int .i64 0) := fun X Y => cell_later (hba X Y) r0
        have ra1 : ∀ X Y, ((w2.alloc X).alloc Y).cell? ⟨w.heap.size + 1, 1, none⟩ = some (.slice none 0 0) := fun X Y => cell_later (hba X Y) r1
        have rf0 : ∀ X Y, ((w2.alloc X).alloc Y).frozen? ⟨w.heap.size + 1, 0, none⟩ = false := fun X Y => ((hba X Y).frozen (p := ⟨w.heap.size + 1, 0, none⟩) us).trans f0
        have rf1 : ∀ X Y, ((w2.alloc X).alloc Y).frozen? ⟨w.heap.size + 1, 1, none⟩ = false := fun X Y => ((hba X Y).frozen (p := ⟨w.heap.size + 1, 1, none⟩) us).trans f1
        cases bb with
        | false =>
          have HT : Hid (typeS x.tm (E.l.map Tr.ty) = none) := by
            have h0 : typeS y.tm tk = none := by
              cases h : typeS y.tm tk with
              | none => rfl
              | some i => rw [h] at hbb; cases hbb
            rw [HY.out.1] at h0
            have h1 := typeL_none (x.l.map TT.tm) tk j (by simpa using hlt) (by simpa using h0)
            show _ = _
            rw [typeS_tm, ← HTK.out, h1]
            rfl
          have HEND : Hid (∀ V, Below w2.heap.size w2 V → TyPost Q (typeS x.tm (E.l.map Tr.ty)) w (.returned (.tuple #[.agg #[.int .i64 0, .slice none 0 0], .bool false])) ((V.setCell ⟨w.heap.size + 1, 0, none⟩ (.int .i64 0)).setCell ⟨w.heap.size + 1, 1, none⟩ (.slice none 0 0)) ∧
              ((V.setCell ⟨w.heap.size + 1, 0, none⟩ (.int .i64 0)).setCell ⟨w.heap.size + 1, 1, none⟩ (.slice none 0 0)).cell? ⟨w.heap.size + 1, 0, none⟩ = some (.int .i64 0) ∧
              ((V.setCell ⟨w.heap.size + 1, 0, none⟩ (.int .i64 0)).setCell ⟨w.heap.size + 1, 1, none⟩ (.slice none 0 0)).cell? ⟨w.heap.size + 1, 1, none⟩ = some (.slice none 0 0)) := fun V hV =>
            ty_end (t := leaf 0) (hTB.below hV) (by rw [HT.out]; rfl) (fun i hi => by rw [HT.out] at hi; cases hi) (leaf_in 0 V) (leaf_bl 0 _) (leaf_bl 0 _)
          clear HI hbb hty hin hbl hb12 hTB hbx hb1 hbwr hov HR x0 x1 x2 x3 x4 x5 x6 lb
          go_wp2_with (go_at_call 56; refine (any0_any _).mono ?_; rintro e w3 ⟨rfl, rfl⟩)
          obtain ⟨h1, h2, h3⟩ := HEND.out _ (hba _ _)
          refine bodyPost_ret (v := .tuple #[.agg #[.int .i64 0, .slice none 0 0], .bool false]) ?_ rfl h1
          simp [results, Tryz.results57, go_sem, h2, h3]
        | true =>
          have hsome : ∃ i, typeS y.tm tk = some i := Option.isSome_iff_exists.1 hbb.symm
          have HNEW : Hid (typeS y.tm tk = some t.ty ∧ goodT 904 t = true) := by
            obtain ⟨i, hi⟩ := hsome
            have ht := hty i hi
            subst ht
            refine ⟨hi, ?_⟩
            rw [goodT_eq]
            have hnl := HNL.out
            have hyk := HF.out.2.2.2.1 y HY.out.2
            have := type_good (by rw [← hnl.1, List.length_map, hnl.2.2.2.2]; exact hyk) (by intro u hu; rw [← hnl.1] at hu; obtain ⟨z, hz, rfl⟩ := List.mem_map.1 hu; rw [← goodT_eq]; exact hnl.2.2.2.1 z hz) hi
            refine goodY_more _ _ _ ?_ this
            have h1 := HF.out.2.2.1
            have h2 : y.sz ≤ x.sz := by
              have h1 := x.sz_eq
              have e : y.tm.sz ≤ ((x.l.map TT.tm).map Tm.sz).sum := sz_mem _ _ (List.mem_map.2 ⟨_, HY.out.2, rfl⟩)
              have e2 : (x.l.map TT.tm).map Tm.sz = x.l.map TT.sz := by rw [List.map_map]; exact List.map_congr_left fun z _ => z.sz_tm.symm
              rw [e2, ← TT.sz_tm] at e
              omega
            rw [← TT.sz_tm]
            omega
          obtain ⟨OT, hOT⟩ : ∃ O, O = Obj.cells #[.int .i64 t.k, .slice t.a t.l.length t.c] 24 := ⟨_, rfl⟩
          have hown : ((w2.alloc OT).alloc OT).ownsRow wc.heap.size 24 2 v ts.length (cellsOf ts) := ownsRow_below (ownsRow_below HR.out.1.own hb12) (hba OT OT)
          have hnew := heap_alloc_new (w2.alloc OT) OT
          have hlen : ts.length ≤ 3 := by have := HR.out.2.1; omega
          have HTL : Hid (∀ gg cap1 w3, w3.ownsRow wc.heap.size 24 2 (.slice (some ⟨gg, 0, none⟩) (ts.length + 1) cap1) (ts.length + 1) (cellsOf ts ++ [.int .i64 t.k, .slice t.a t.l.length t.c]) → ((w2.alloc OT).alloc OT).grownBy w3 v.ownBlock → (v.ownBlock = some gg ∨ w2.heap.size + 1 + 1 ≤ gg) → TL Q1 wc (.slice (some ⟨gg, 0, none⟩) (ts.length + 1) cap1) (ts ++ [t]) w3) := fun gg cap1 w3 h1 h2 h3 =>
            HR.out.1.step (hb12.trans ((hba OT OT).mono hb12.size)) (hin.below (hba OT OT)) hbl h1 h2 (h3.imp id fun h => by simpa using h)
          have hwl : wc.heap.size ≤ w2.heap.size := by have := hbwr.size; have := hb12.size; omega
          subst hOT
          clear HI hbb hty hin hbl hTB hbx hb1 hbwr x0 x1 x2 x3 x4 x5 x6 lb hsome
          go_wp2_with (at_builtin; refine wpList_append_lies _ rfl _ _ _ rfl wc.heap.size 24 i0 _ 2 32 Tryz.underlying22 hi0 hz0 hz1 hz2 rfl (by omega) v ts.length (cellsOf ts) rfl hown ⟨w2.heap.size + 1, 0, none⟩ 1 1 [.int .i64 t.k, .slice t.a t.l.length t.c] rfl rfl (World.news_of_block (cs := #[.int .i64 t.k, .slice t.a t.l.length t.c]) (t := 24) (fr := (0, 0)) (by simpa using hnew)) (by simp [Value.oneCell']) (by omega) (by unfold maxLen; omega) (by omega) (by simp; omega) (w2.heap.size + 1 + 1) (by simp) ?_; intro gg cap1 w3 hown1 hgrow hat hlt3)
          have HN2 : Hid (TL Q1 wc (.slice (some ⟨gg, 0, none⟩) (ts.length + 1) cap1) (ts ++ [t]) w3 ∧ (ts ++ [t]).length = j + 1 ∧ ∀ q (h : q < x.l.length) (h' : q < (ts ++ [t]).length), typeS x.l[q].tm tk = some (ts ++ [t])[q].ty ∧ goodT 904 (ts ++ [t])[q] = true) := by
            refine ⟨HTL.out gg cap1 w3 hown1 hgrow (hat.imp id fun h => by omega), by have := HR.out.2.1; simp; omega, fun q h h' => ?_⟩
            have hl := HR.out.2.1
            by_cases hq : q < ts.length
            · rw [List.getElem_append_left hq]
              exact HR.out.2.2 q h hq
            · have hqj : q = j := by simp at h'; omega
              subst hqj
              rw [List.getElem_append_right (by omega)]
              simp only [show q - ts.length = 0 by omega, List.getElem_cons_zero]
              have := HNEW.out
              rw [HY.out.1] at this
              exact this
          clear hown1 hgrow hat hlt3 hown hnew HTL HR HNEW hov hb12 hba ra0 ra1 rf0 rf1 r0 r1 f0 f1 us un un2
          go_wp2_with fail
          rw [← HXA.out]
          go_roundg (x.l.length - (j + 1))
          case measure => rw [HG.out]; omega
          case rel => exact ⟨_, j + 1, ts ++ [t], rfl, by omega, rfl, by go_num, HN2⟩
      · have hjl : j = x.l.length := by omega
        obtain ⟨a, c, hv, hin, hya, hall⟩ := HR.out.1.tree
        subst hv
        have HN3 : Hid (typeL (x.l.map TT.tm) tk = some (ts.map Tr.ty) ∧ (Tr.mk 0 a c ts).In wr ∧ (∀ t, t ∈ ts → t.In wr ∧ t.Bl Q1 ∧ goodT 904 t = true) ∧ TB x w wr ∧ ∀ y, a = some y → w.heap.size + 1 < y.block) := by
          refine ⟨typeL_all _ _ _ (by rw [List.length_map, List.length_map, HR.out.2.1, hjl]) (fun q h h' => ?_), hin, fun t ht => ?_, HBV.out.below HR.out.1.low, fun y hy => by have := hya y hy; have := HBV.out.lt; omega⟩
          · simp only [List.getElem_map]
            exact (HR.out.2.2 q (by simpa using h) (by simpa using h')).1
          · obtain ⟨q, hq, rfl⟩ := List.getElem_of_mem ht
            exact ⟨(hall _ ht).1, (hall _ ht).2, (HR.out.2.2 q (by have := HR.out.2.1; omega) hq).2⟩
        clear HR hin hall
        go_wp2_with fail
        go_meet
        case rel => exact ⟨a, c, ts, rfl, HN3⟩
  case rest =>
  obtain ⟨a, c, ts, rfl, HT⟩ := hcut
  clear HNL HBV ih
  have hB := HT.out.2.2.2.1
  have d0 := hB.at7.c0
  have r0 := hB.r0
  have r1 := hB.r1
  have f0 := hB.f0
  have f1 := hB.f1
  have us := hB.lt
  have us1 : w.heap.size + 1 < wc.heap.size := World.block_lt_of_cell? _ _ r0
  have hlen : ts.length = partsOf x.k := by
    have := (typeL_some HT.out.1).1
    rw [List.length_map, List.length_map, HF.out.2.2.2.2.1] at this
    exact this
  have HR : Hid (typeS x.tm (E.l.map Tr.ty) = ruleTy x.k x.n x.t.ty (ts.map Tr.ty) tk) := by
    show _ = _
    rw [typeS_tm, ← HTK.out, HT.out.1]
    rfl
  have HEND : Hid (∀ (V : World) (t : Tr) (bb : Bool), Below wc.heap.size wc V → bb = (typeS x.tm (E.l.map Tr.ty)).isSome → (∀ i, typeS x.tm (E.l.map Tr.ty) = some i → t.ty = i) → t.In V → t.Bl Q1 → TyPost Q (typeS x.tm (E.l.map Tr.ty)) w (.returned (.tuple #[.agg #[.int .i64 t.k, .slice t.a t.l.length t.c], .bool bb])) ((V.setCell ⟨w.heap.size + 1, 0, none⟩ (.int .i64 t.k)).setCell ⟨w.heap.size + 1, 1, none⟩ (.slice t.a t.l.length t.c)) ∧
      ((V.setCell ⟨w.heap.size + 1, 0, none⟩ (.int .i64 t.k)).setCell ⟨w.heap.size + 1, 1, none⟩ (.slice t.a t.l.length t.c)).cell? ⟨w.heap.size + 1, 0, none⟩ = some (.int .i64 t.k) ∧
      ((V.setCell ⟨w.heap.size + 1, 0, none⟩ (.int .i64 t.k)).setCell ⟨w.heap.size + 1, 1, none⟩ (.slice t.a t.l.length t.c)).cell? ⟨w.heap.size + 1, 1, none⟩ = some (.slice t.a t.l.length t.c)) := fun V t bb hV h1 h2 h3 h4 =>
    ty_end (t := t) (hB.below hV) h1 h2 h3 (h4.mono fun b hb => (HQ1.out.2.2.2 b hb).1) (h4.mono fun b hb => (HQ1.out.2.2.2 b hb).2)
  have HEL : Hid (∀ (V : World) (z : Int) (bb : Bool), Below wc.heap.size wc V → bb = (typeS x.tm (E.l.map Tr.ty)).isSome → (∀ i, typeS x.tm (E.l.map Tr.ty) = some i → Ty.mk z [] = i) → TyPost Q (typeS x.tm (E.l.map Tr.ty)) w (.returned (.tuple #[.agg #[.int .i64 z, .slice none 0 0], .bool bb])) ((V.setCell ⟨w.heap.size + 1, 0, none⟩ (.int .i64 z)).setCell ⟨w.heap.size + 1, 1, none⟩ (.slice none 0 0)) ∧
      ((V.setCell ⟨w.heap.size + 1, 0, none⟩ (.int .i64 z)).setCell ⟨w.heap.size + 1, 1, none⟩ (.slice none 0 0)).cell? ⟨w.heap.size + 1, 0, none⟩ = some (.int .i64 z) ∧
      ((V.setCell ⟨w.heap.size + 1, 0, none⟩ (.int .i64 z)).setCell ⟨w.heap.size + 1, 1, none⟩ (.slice none 0 0)).cell? ⟨w.heap.size + 1, 1, none⟩ = some (.slice none 0 0)) := fun V z bb hV h1 h2 =>
    HEND.out V (leaf z) bb hV h1 (fun i hi => (leaf_ty z).trans (h2 i hi)) (leaf_in z V) (leaf_bl z _)
  have hkc : x.k = 1 ∨ x.k = 2 ∨ x.k = 3 ∨ x.k = 4 ∨ x.k = 5 ∨ x.k = 6 ∨ x.k = 7 ∨ x.k = 8 ∨ x.k = 9 := by omega
  rcases hkc with hk | hk | hk | hk | hk | hk | hk | hk | hk
  · -- a reference
    obtain ⟨m, hm⟩ : ∃ m : Nat, x.n = (m : Int) := ⟨x.n.toNat, by have := HF.out.2.2.2.2.2 hk; omega⟩
    have hml : m < E.l.length := by have := HF.out.2.2.2.2.2 hk; omega
    obtain ⟨b, o, ea, e0, e1, hEm⟩ := (HX.out.2.1.below hB.low).part m hml
    have d1 := hB.at7.c1
    simp only [Nat.zero_add] at d1
    rw [hm] at d1
    obtain ⟨u, hu⟩ : ∃ u, u = E.l[m] := ⟨_, rfl⟩
    rw [← hu] at e0 e1 hEm
    have i1 : (m : Int) < (E.l.length : Int) := by omega
    have i2 : (0 : Int) ≤ (m : Int) := by omega
    have lb : b < wc.heap.size := World.block_lt_of_cell? _ _ e0
    have HV : Hid (typeS x.tm (E.l.map Tr.ty) = some u.ty) := by
      have h0 : ts = [] := List.eq_nil_of_length_eq_zero (by rw [hlen, hk]; rfl)
      show _ = _
      rw [HR.out, hk, h0, List.map_nil, ruleTy_ref, HTK.out, takesIn, if_neg (by omega), hm, hu]
      simp [List.getD_eq_getElem?_getD, hml]
    have hub : u.Bl Q1 := by
      have h := HQ1.out.2.1
      rw [hu]
      obtain ⟨k, a, cc, l⟩ := E
      exact (Tr.Bl_mk.1 h).2 _ (List.getElem_mem _)
    have HE : Hid _ := HEND.out wc u true (Below.refl _ _) (by rw [HV.out]; rfl) (fun i hi => by rw [HV.out] at hi; exact Option.some.inj hi) hEm hub
    rw [hk] at d0
    rw [ea]
    clear hk hm hu hlen hB HEND HEL HT HR hub hEm HF
    go_wp2_with fail
    obtain ⟨h1, h2, h3⟩ := HE.out
    refine bodyPost_ret (v := .tuple #[.agg #[.int .i64 u.k, .slice u.a u.l.length u.c], .bool true]) ?_ rfl h1
    simp [results, Tryz.results57, go_sem, h2, h3]
  · have HV : Hid (typeS x.tm (E.l.map Tr.ty) = some ⟨1, []⟩) := by
      have h0 : ts = [] := List.eq_nil_of_length_eq_zero (by rw [hlen, hk]; rfl)
      show _ = _
      rw [HR.out, hk, h0, List.map_nil, ruleTy_lit]
    have n0 := hB.n0
    have n1 := hB.n1
    have HE : Hid _ := HEL.out wc 1 true (Below.refl _ _) (by rw [HV.out]; rfl) (fun i hi => by rw [HV.out] at hi; exact Option.some.inj hi)
    rw [hk] at d0
    clear hk hlen hB HEND HEL HT HR HF
    go_wp2_with fail
    obtain ⟨h1, h2, h3⟩ := HE.out
    refine bodyPost_ret (v := .tuple #[.agg #[.int .i64 1, .slice none 0 0], .bool true]) ?_ rfl h1
    simp [results, Tryz.results57, go_sem, h2, h3]
  · have HV : Hid (typeS x.tm (E.l.map Tr.ty) = some ⟨2, []⟩) := by
      have h0 : ts = [] := List.eq_nil_of_length_eq_zero (by rw [hlen, hk]; rfl)
      show _ = _
      rw [HR.out, hk, h0, List.map_nil, ruleTy_says]
    have n0 := hB.t0
    have n1 := hB.t1
    have HE : Hid _ := HEL.out wc 2 true (Below.refl _ _) (by rw [HV.out]; rfl) (fun i hi => by rw [HV.out] at hi; exact Option.some.inj hi)
    rw [hk] at d0
    clear hk hlen hB HEND HEL HT HR HF
    go_wp2_with fail
    obtain ⟨h1, h2, h3⟩ := HE.out
    refine bodyPost_ret (v := .tuple #[.agg #[.int .i64 2, .slice none 0 0], .bool true]) ?_ rfl h1
    simp [results, Tryz.results57, go_sem, h2, h3]
  · -- kind 4
    obtain ⟨t0, t1, rfl⟩ : ∃ t0 t1, ts = [t0, t1] := by
      match ts, (show ts.length = 2 by rw [hlen, hk]; rfl) with
      | [t0, t1], _ => exact ⟨t0, t1, rfl⟩
    obtain ⟨g, o, ea, c0, c1, _⟩ := HT.out.2.1.part 0 (by simp)
    obtain ⟨g1, o1, ea1, c2, c3, _⟩ := HT.out.2.1.part 1 (by simp)
    simp only [List.getElem_cons_zero, List.getElem_cons_succ, Nat.zero_mul, Nat.add_zero, Nat.one_mul] at c0 c1 c2 c3 ea ea1
    rw [ea] at ea1
    obtain ⟨rfl, rfl⟩ : g = g1 ∧ o = o1 := by simpa using ea1
    have hg0 := HT.out.2.2.1 t0 (by simp)
    obtain ⟨p0, h0, s0⟩ := good_facts (by omega) hg0.2.2
    have hg1 := HT.out.2.2.1 t1 (by simp)
    obtain ⟨p1, h1, s1⟩ := good_facts (by omega) hg1.2.2
    have hgw : g ≠ w.heap.size + 1 := by have := HT.out.2.2.2.2 _ ea; simp only at this; omega
    have lb : g < wc.heap.size := World.block_lt_of_cell? _ _ c0
    have n0 := hB.n0
    have n1 := hB.n1
    have m0 := hB.t0
    have m1 := hB.t1
    obtain ⟨b0, hb0⟩ : ∃ b, b = relY escFits t0.ty ⟨1, []⟩ := ⟨_, rfl⟩
    obtain ⟨b1, hb1⟩ : ∃ b, b = relY escFits t1.ty ⟨1, []⟩ := ⟨_, rfl⟩
    have HV : Hid (typeS x.tm (E.l.map Tr.ty) = if (b0 && b1) = true then some ⟨1, []⟩ else none) := by
      show _ = _
      rw [HR.out, hk, hb0, hb1]
      simp only [List.map_cons, List.map_nil]
      rw [ruleTy_num]
    have HK : Hid (∀ W, Kept (w.heap.size + 1) none wc W → W.cell? ⟨w.heap.size + 1 + 1, 0, none⟩ = some (.int .i64 1) ∧ W.cell? ⟨w.heap.size + 1 + 1, 1, none⟩ = some (.slice none 0 0) ∧ W.cell? ⟨w.heap.size + 1 + 1 + 1, 0, none⟩ = some (.int .i64 2) ∧ W.cell? ⟨w.heap.size + 1 + 1 + 1, 1, none⟩ = some (.slice none 0 0) ∧ W.cell? ⟨g, o, none⟩ = some (.int .i64 t0.k) ∧ W.cell? ⟨g, o + 1, none⟩ = some (.slice t0.a t0.l.length t0.c) ∧ W.cell? ⟨g, o + 2, none⟩ = some (.int .i64 t1.k) ∧ W.cell? ⟨g, o + 3, none⟩ = some (.slice t1.a t1.l.length t1.c)) := fun W h =>
      ⟨h.cell n0 (by omega), h.cell n1 (by omega), h.cell m0 (by omega), h.cell m1 (by omega), h.cell c0 hgw, h.cell c1 hgw, h.cell c2 hgw, h.cell c3 hgw⟩
    have HC0 : Hid (∀ W, Below wc.heap.size wc W → Calls Tryz.prog 91 #[.agg #[.int .i64 t0.k, .slice t0.a t0.l.length t0.c], .agg #[.int .i64 1, .slice none 0 0]] W fun e w' => e = .returned (.bool b0) ∧ Below W.heap.size W w') := fun W h => by
      have := fitsOf_any 1000 t0 (leaf 1) W (hg0.1.below h) (leaf_in 1 W) h0 s0 p0 (Tr.right_good 1 _ rfl)
      rw [leaf_ty, ← hb0] at this
      exact this
    have HC1 : Hid (∀ W, Below wc.heap.size wc W → Calls Tryz.prog 91 #[.agg #[.int .i64 t1.k, .slice t1.a t1.l.length t1.c], .agg #[.int .i64 1, .slice none 0 0]] W fun e w' => e = .returned (.bool b1) ∧ Below W.heap.size W w') := fun W h => by
      have := fitsOf_any 1000 t1 (leaf 1) W (hg1.1.below h) (leaf_in 1 W) h1 s1 p1 (Tr.right_good 1 _ rfl)
      rw [leaf_ty, ← hb1] at this
      exact this
    have HE : Hid _ := fun V hV => HEL.out V 1 (b0 && b1) hV (by rw [HV.out]; cases b0 <;> cases b1 <;> rfl) (fun i hi => by rw [HV.out] at hi; revert hi; cases b0 <;> cases b1 <;> (intro hi; first | exact Option.some.inj hi | cases hi))
    have hbn : Below wc.heap.size wc wc.drew := (Below.refl _ _).drew
    have r0d : wc.drew.cell? ⟨w.heap.size + 1, 0, none⟩ = some (.int .i64 0) := r0
    have r1d : wc.drew.cell? ⟨w.heap.size + 1, 1, none⟩ = some (.slice none 0 0) := r1
    have f0d : wc.drew.frozen? ⟨w.heap.size + 1, 0, none⟩ = false := f0
    have f1d : wc.drew.frozen? ⟨w.heap.size + 1, 1, none⟩ = false := f1
    have usd : w.heap.size + 1 < wc.drew.heap.size := us1
    rw [hk] at d0
    rw [ea]
    clear hk hlen hB HEND HEL HT HR HF ea ea1 p0 h0 s0 p1 h1 s1 hg0 hg1 hb0 hb1 HV
    cases b0 with
    | true =>
      go_upto_region 22 with fail
      go_region_held3 (fun W => W.cell? ⟨w.heap.size + 1 + 1, 0, none⟩ = some (.int .i64 1) ∧ W.cell? ⟨w.heap.size + 1 + 1, 1, none⟩ = some (.slice none 0 0) ∧ W.cell? ⟨w.heap.size + 1 + 1 + 1, 0, none⟩ = some (.int .i64 2) ∧ W.cell? ⟨w.heap.size + 1 + 1 + 1, 1, none⟩ = some (.slice none 0 0) ∧ W.cell? ⟨g, o, none⟩ = some (.int .i64 t0.k) ∧ W.cell? ⟨g, o + 1, none⟩ = some (.slice t0.a t0.l.length t0.c) ∧ W.cell? ⟨g, o + 2, none⟩ = some (.int .i64 t1.k) ∧ W.cell? ⟨g, o + 3, none⟩ = some (.slice t1.a t1.l.length t1.c))
        (first | exact HK.out _ (Kept.of_below hbn) | exact HK.out _ (((Kept.of_below hbn).trans setR_kept).trans setR_kept) | fail)
        (first
          | (go_at_call 91; refine (HC0.out _ hbn).mono ?_; rintro e w2 ⟨rfl, h2⟩; replace r0d := cell_later h2 r0d; replace r1d := cell_later h2 r1d; replace f0d := (h2.frozen (p := ⟨w.heap.size + 1, 0, none⟩) usd).trans f0d; replace f1d := (h2.frozen (p := ⟨w.heap.size + 1, 1, none⟩) usd).trans f1d; replace usd : w.heap.size + 1 < w2.heap.size := World.block_lt_of_cell? _ _ r0d; replace hbn := hbn.trans (h2.mono hbn.size); clear HC0)
          | (go_at_call 91; refine (HC1.out _ hbn).mono ?_; rintro e w3 ⟨rfl, h3⟩; replace r0d := cell_later h3 r0d; replace r1d := cell_later h3 r1d; replace f0d := (h3.frozen (p := ⟨w.heap.size + 1, 0, none⟩) usd).trans f0d; replace f1d := (h3.frozen (p := ⟨w.heap.size + 1, 1, none⟩) usd).trans f1d; replace usd : w.heap.size + 1 < w3.heap.size := World.block_lt_of_cell? _ _ r0d; replace hbn := hbn.trans (h3.mono hbn.size); clear HC1)
          | fail)
      have HN : Hid _ := HE.out _ hbn
      clear HE
      go_wp2_with fail
      obtain ⟨e1, e2, e3⟩ := HN.out
      refine bodyPost_ret (v := .tuple #[.agg #[.int .i64 1, .slice none 0 0], .bool b1]) ?_ rfl e1
      simp [results, Tryz.results57, go_sem, e2, e3]
    | false =>
      go_upto_region 22 with fail
      refine wp_region_held_drew (S := fun W => W.cell? ⟨w.heap.size + 1 + 1, 0, none⟩ = some (.int .i64 1) ∧ W.cell? ⟨w.heap.size + 1 + 1, 1, none⟩ = some (.slice none 0 0) ∧ W.cell? ⟨w.heap.size + 1 + 1 + 1, 0, none⟩ = some (.int .i64 2) ∧ W.cell? ⟨w.heap.size + 1 + 1 + 1, 1, none⟩ = some (.slice none 0 0) ∧ W.cell? ⟨g, o, none⟩ = some (.int .i64 t0.k) ∧ W.cell? ⟨g, o + 1, none⟩ = some (.slice t0.a t0.l.length t0.c) ∧ W.cell? ⟨g, o + 2, none⟩ = some (.int .i64 t1.k) ∧ W.cell? ⟨g, o + 3, none⟩ = some (.slice t1.a t1.l.length t1.c)) (by kernel_rfl) (HK.out _ (Kept.of_below hbn)) (fun hHeld => ?_)
      refine takeH (i := 0) (v := ?_) rfl (by kernel_rfl) (by kernel_rfl) (by kernel_rfl) (fun _ _ _ h => h) (Or.inl ⟨by rfl, ?_⟩) hHeld ?_; rotate_left; (focus (intro w' hSw; (try dsimp only at hSw); go_split_ands; first | (go_simp; done) | (go_simp; with_reducible rfl))); simp only [Act.put, List.setIfInBounds_toArray, List.set_cons_zero, List.set_cons_succ]
      refine takeH (i := 1) (v := ?_) rfl (by kernel_rfl) (by kernel_rfl) (by kernel_rfl) (fun _ _ _ h => h) (Or.inl ⟨by rfl, ?_⟩) hHeld ?_; rotate_left; (focus (intro w' hSw; (try dsimp only at hSw); go_split_ands; first | (go_simp; done) | (go_simp; with_reducible rfl))); simp only [Act.put, List.setIfInBounds_toArray, List.set_cons_zero, List.set_cons_succ]
      refine takeH (i := 2) (v := ?_) rfl (by kernel_rfl) (by kernel_rfl) (by kernel_rfl) (fun _ _ _ h => h) (Or.inl ⟨by rfl, ?_⟩) hHeld ?_; rotate_left; (focus (intro w' hSw; (try dsimp only at hSw); go_split_ands; first | (go_simp; done) | (go_simp; with_reducible rfl))); simp only [Act.put, List.setIfInBounds_toArray, List.set_cons_zero, List.set_cons_succ]
      refine takeH (i := 3) (v := ?_) rfl (by kernel_rfl) (by kernel_rfl) (by kernel_rfl) (fun _ _ _ h => h) (Or.inl ⟨by rfl, ?_⟩) hHeld ?_; rotate_left; (focus (intro w' hSw; (try dsimp only at hSw); go_split_ands; first | (go_simp; done) | (go_simp; with_reducible rfl))); simp only [Act.put, List.setIfInBounds_toArray, List.set_cons_zero, List.set_cons_succ]
      refine takeH (i := 4) (v := ?_) rfl (by kernel_rfl) (by kernel_rfl) (by kernel_rfl) (fun _ _ _ h => h) (Or.inl ⟨by rfl, ?_⟩) hHeld ?_; rotate_left; (focus (intro w' hSw; (try dsimp only at hSw); go_split_ands; first | (go_simp; done) | (go_simp; with_reducible rfl))); simp only [Act.put, List.setIfInBounds_toArray, List.set_cons_zero, List.set_cons_succ]
      refine oneH (i := 5) rfl (by kernel_rfl) (fun K hK => ?_)
      go_simp
      go_at_call 91
      refine (HC0.out _ hbn).mono ?_
      rintro e w2 ⟨rfl, h2⟩
      replace r0d := cell_later h2 r0d
      replace r1d := cell_later h2 r1d
      replace f0d := (h2.frozen (p := ⟨w.heap.size + 1, 0, none⟩) usd).trans f0d
      replace f1d := (h2.frozen (p := ⟨w.heap.size + 1, 1, none⟩) usd).trans f1d
      replace usd : w.heap.size + 1 < w2.heap.size := World.block_lt_of_cell? _ _ r0d
      replace hbn := hbn.trans (h2.mono hbn.size)
      clear HC0 h2
      refine hK.out _ _ (HK.out _ (Kept.of_below hbn)) (fun hHeld => ?_)
      clear hK K
      refine takeH (i := 6) (v := ?_) rfl (by kernel_rfl) (by kernel_rfl) (by kernel_rfl) (fun _ _ _ h => h) (Or.inl ⟨by rfl, ?_⟩) hHeld ?_; rotate_left; (focus (intro w' hSw; (try dsimp only at hSw); go_split_ands; first | (go_simp; done) | (go_simp; with_reducible rfl))); simp only [Act.put, List.setIfInBounds_toArray, List.set_cons_zero, List.set_cons_succ]
      refine takeH (i := 7) (v := undef) rfl (by kernel_rfl) (by kernel_rfl) (by kernel_rfl) (fun _ _ _ h => h) (Or.inr ⟨by kernel_rfl, rfl⟩) hHeld ?_; simp only [Act.put, List.setIfInBounds_toArray, List.set_cons_zero, List.set_cons_succ]
      refine takeH (i := 8) (v := undef) rfl (by kernel_rfl) (by kernel_rfl) (by kernel_rfl) (fun _ _ _ h => h) (Or.inr ⟨by kernel_rfl, rfl⟩) hHeld ?_; simp only [Act.put, List.setIfInBounds_toArray, List.set_cons_zero, List.set_cons_succ]
      refine takeH (i := 9) (v := undef) rfl (by kernel_rfl) (by kernel_rfl) (by kernel_rfl) (fun _ _ _ h => h) (Or.inr ⟨by kernel_rfl, rfl⟩) hHeld ?_; simp only [Act.put, List.setIfInBounds_toArray, List.set_cons_zero, List.set_cons_succ]
      refine takeH (i := 10) (v := undef) rfl (by kernel_rfl) (by kernel_rfl) (by kernel_rfl) (fun _ _ _ h => h) (Or.inr ⟨by kernel_rfl, rfl⟩) hHeld ?_; simp only [Act.put, List.setIfInBounds_toArray, List.set_cons_zero, List.set_cons_succ]
      refine takeH (i := 11) (v := undef) rfl (by kernel_rfl) (by kernel_rfl) (by kernel_rfl) (fun _ _ _ h => h) (Or.inr ⟨by kernel_rfl, rfl⟩) hHeld ?_; simp only [Act.put, List.setIfInBounds_toArray, List.set_cons_zero, List.set_cons_succ]
      refine takeH (i := 12) (v := ?_) rfl (by kernel_rfl) (by kernel_rfl) (by kernel_rfl) (fun _ _ _ h => h) (Or.inl ⟨by rfl, ?_⟩) hHeld ?_; rotate_left; (focus (intro w' hSw; (try dsimp only at hSw); go_split_ands; first | (go_simp; done) | (go_simp; with_reducible rfl))); simp only [Act.put, List.setIfInBounds_toArray, List.set_cons_zero, List.set_cons_succ]
      refine oneH (i := 13) rfl (by kernel_rfl) (fun K hK => ?_)
      go_simp
      refine hK.out _ _ (HK.out _ (((Kept.of_below hbn).trans setR_kept).trans setR_kept)) (fun hHeld => ?_)
      clear hK K
      refine takeH (i := 14) (v := ?_) rfl (by kernel_rfl) (by kernel_rfl) (by kernel_rfl) (fun _ _ _ h => h) (Or.inl ⟨by rfl, ?_⟩) hHeld ?_; rotate_left; (focus (intro w' hSw; (try dsimp only at hSw); go_split_ands; first | (go_simp; done) | (go_simp; with_reducible rfl))); simp only [Act.put, List.setIfInBounds_toArray, List.set_cons_zero, List.set_cons_succ]
      refine wpAnyH_done (by kernel_rfl) ?_ _
      have HN : Hid _ := HE.out _ hbn
      clear HE
      go_wp2_with fail
      obtain ⟨e1, e2, e3⟩ := HN.out
      refine bodyPost_ret (v := .tuple #[.agg #[.int .i64 1, .slice none 0 0], .bool false]) ?_ rfl e1
      simp [results, Tryz.results57, go_sem, e2, e3]
  · -- kind 5
    obtain ⟨t0, t1, rfl⟩ : ∃ t0 t1, ts = [t0, t1] := by
      match ts, (show ts.length = 2 by rw [hlen, hk]; rfl) with
      | [t0, t1], _ => exact ⟨t0, t1, rfl⟩
    obtain ⟨g, o, ea, c0, c1, _⟩ := HT.out.2.1.part 0 (by simp)
    obtain ⟨g1, o1, ea1, c2, c3, _⟩ := HT.out.2.1.part 1 (by simp)
    simp only [List.getElem_cons_zero, List.getElem_cons_succ, Nat.zero_mul, Nat.add_zero, Nat.one_mul] at c0 c1 c2 c3 ea ea1
    rw [ea] at ea1
    obtain ⟨rfl, rfl⟩ : g = g1 ∧ o = o1 := by simpa using ea1
    have hg0 := HT.out.2.2.1 t0 (by simp)
    obtain ⟨p0, h0, s0⟩ := good_facts (by omega) hg0.2.2
    have hg1 := HT.out.2.2.1 t1 (by simp)
    obtain ⟨p1, h1, s1⟩ := good_facts (by omega) hg1.2.2
    have hgw : g ≠ w.heap.size + 1 := by have := HT.out.2.2.2.2 _ ea; simp only at this; omega
    have lb : g < wc.heap.size := World.block_lt_of_cell? _ _ c0
    have n0 := hB.n0
    have n1 := hB.n1
    have m0 := hB.t0
    have m1 := hB.t1
    obtain ⟨b0, hb0⟩ : ∃ b, b = relY escFits t0.ty ⟨1, []⟩ := ⟨_, rfl⟩
    obtain ⟨b1, hb1⟩ : ∃ b, b = relY escFits t1.ty ⟨1, []⟩ := ⟨_, rfl⟩
    have HV : Hid (typeS x.tm (E.l.map Tr.ty) = if (b0 && b1) = true then some ⟨2, []⟩ else none) := by
      show _ = _
      rw [HR.out, hk, hb0, hb1]
      simp only [List.map_cons, List.map_nil]
      rw [ruleTy_less]
    have HK : Hid (∀ W, Kept (w.heap.size + 1) none wc W → W.cell? ⟨w.heap.size + 1 + 1, 0, none⟩ = some (.int .i64 1) ∧ W.cell? ⟨w.heap.size + 1 + 1, 1, none⟩ = some (.slice none 0 0) ∧ W.cell? ⟨w.heap.size + 1 + 1 + 1, 0, none⟩ = some (.int .i64 2) ∧ W.cell? ⟨w.heap.size + 1 + 1 + 1, 1, none⟩ = some (.slice none 0 0) ∧ W.cell? ⟨g, o, none⟩ = some (.int .i64 t0.k) ∧ W.cell? ⟨g, o + 1, none⟩ = some (.slice t0.a t0.l.length t0.c) ∧ W.cell? ⟨g, o + 2, none⟩ = some (.int .i64 t1.k) ∧ W.cell? ⟨g, o + 3, none⟩ = some (.slice t1.a t1.l.length t1.c)) := fun W h =>
      ⟨h.cell n0 (by omega), h.cell n1 (by omega), h.cell m0 (by omega), h.cell m1 (by omega), h.cell c0 hgw, h.cell c1 hgw, h.cell c2 hgw, h.cell c3 hgw⟩
    have HC0 : Hid (∀ W, Below wc.heap.size wc W → Calls Tryz.prog 91 #[.agg #[.int .i64 t0.k, .slice t0.a t0.l.length t0.c], .agg #[.int .i64 1, .slice none 0 0]] W fun e w' => e = .returned (.bool b0) ∧ Below W.heap.size W w') := fun W h => by
      have := fitsOf_any 1000 t0 (leaf 1) W (hg0.1.below h) (leaf_in 1 W) h0 s0 p0 (Tr.right_good 1 _ rfl)
      rw [leaf_ty, ← hb0] at this
      exact this
    have HC1 : Hid (∀ W, Below wc.heap.size wc W → Calls Tryz.prog 91 #[.agg #[.int .i64 t1.k, .slice t1.a t1.l.length t1.c], .agg #[.int .i64 1, .slice none 0 0]] W fun e w' => e = .returned (.bool b1) ∧ Below W.heap.size W w') := fun W h => by
      have := fitsOf_any 1000 t1 (leaf 1) W (hg1.1.below h) (leaf_in 1 W) h1 s1 p1 (Tr.right_good 1 _ rfl)
      rw [leaf_ty, ← hb1] at this
      exact this
    have HE : Hid _ := fun V hV => HEL.out V 2 (b0 && b1) hV (by rw [HV.out]; cases b0 <;> cases b1 <;> rfl) (fun i hi => by rw [HV.out] at hi; revert hi; cases b0 <;> cases b1 <;> (intro hi; first | exact Option.some.inj hi | cases hi))
    have hbn : Below wc.heap.size wc wc.drew := (Below.refl _ _).drew
    have r0d : wc.drew.cell? ⟨w.heap.size + 1, 0, none⟩ = some (.int .i64 0) := r0
    have r1d : wc.drew.cell? ⟨w.heap.size + 1, 1, none⟩ = some (.slice none 0 0) := r1
    have f0d : wc.drew.frozen? ⟨w.heap.size + 1, 0, none⟩ = false := f0
    have f1d : wc.drew.frozen? ⟨w.heap.size + 1, 1, none⟩ = false := f1
    have usd : w.heap.size + 1 < wc.drew.heap.size := us1
    rw [hk] at d0
    rw [ea]
    clear hk hlen hB HEND HEL HT HR HF ea ea1 p0 h0 s0 p1 h1 s1 hg0 hg1 hb0 hb1 HV
    cases b0 with
    | true =>
      go_upto_region 24 with fail
      go_region_held3 (fun W => W.cell? ⟨w.heap.size + 1 + 1, 0, none⟩ = some (.int .i64 1) ∧ W.cell? ⟨w.heap.size + 1 + 1, 1, none⟩ = some (.slice none 0 0) ∧ W.cell? ⟨w.heap.size + 1 + 1 + 1, 0, none⟩ = some (.int .i64 2) ∧ W.cell? ⟨w.heap.size + 1 + 1 + 1, 1, none⟩ = some (.slice none 0 0) ∧ W.cell? ⟨g, o, none⟩ = some (.int .i64 t0.k) ∧ W.cell? ⟨g, o + 1, none⟩ = some (.slice t0.a t0.l.length t0.c) ∧ W.cell? ⟨g, o + 2, none⟩ = some (.int .i64 t1.k) ∧ W.cell? ⟨g, o + 3, none⟩ = some (.slice t1.a t1.l.length t1.c))
        (first | exact HK.out _ (Kept.of_below hbn) | exact HK.out _ (((Kept.of_below hbn).trans setR_kept).trans setR_kept) | fail)
        (first
          | (go_at_call 91; refine (HC0.out _ hbn).mono ?_; rintro e w2 ⟨rfl, h2⟩; replace r0d := cell_later h2 r0d; replace r1d := cell_later h2 r1d; replace f0d := (h2.frozen (p := ⟨w.heap.size + 1, 0, none⟩) usd).trans f0d; replace f1d := (h2.frozen (p := ⟨w.heap.size + 1, 1, none⟩) usd).trans f1d; replace usd : w.heap.size + 1 < w2.heap.size := World.block_lt_of_cell? _ _ r0d; replace hbn := hbn.trans (h2.mono hbn.size); clear HC0)
          | (go_at_call 91; refine (HC1.out _ hbn).mono ?_; rintro e w3 ⟨rfl, h3⟩; replace r0d := cell_later h3 r0d; replace r1d := cell_later h3 r1d; replace f0d := (h3.frozen (p := ⟨w.heap.size + 1, 0, none⟩) usd).trans f0d; replace f1d := (h3.frozen (p := ⟨w.heap.size + 1, 1, none⟩) usd).trans f1d; replace usd : w.heap.size + 1 < w3.heap.size := World.block_lt_of_cell? _ _ r0d; replace hbn := hbn.trans (h3.mono hbn.size); clear HC1)
          | fail)
      have HN : Hid _ := HE.out _ hbn
      clear HE
      go_wp2_with fail
      obtain ⟨e1, e2, e3⟩ := HN.out
      refine bodyPost_ret (v := .tuple #[.agg #[.int .i64 2, .slice none 0 0], .bool b1]) ?_ rfl e1
      simp [results, Tryz.results57, go_sem, e2, e3]
    | false =>
      go_upto_region 24 with fail
      refine wp_region_held_drew (S := fun W => W.cell? ⟨w.heap.size + 1 + 1, 0, none⟩ = some (.int .i64 1) ∧ W.cell? ⟨w.heap.size + 1 + 1, 1, none⟩ = some (.slice none 0 0) ∧ W.cell? ⟨w.heap.size + 1 + 1 + 1, 0, none⟩ = some (.int .i64 2) ∧ W.cell? ⟨w.heap.size + 1 + 1 + 1, 1, none⟩ = some (.slice none 0 0) ∧ W.cell? ⟨g, o, none⟩ = some (.int .i64 t0.k) ∧ W.cell? ⟨g, o + 1, none⟩ = some (.slice t0.a t0.l.length t0.c) ∧ W.cell? ⟨g, o + 2, none⟩ = some (.int .i64 t1.k) ∧ W.cell? ⟨g, o + 3, none⟩ = some (.slice t1.a t1.l.length t1.c)) (by kernel_rfl) (HK.out _ (Kept.of_below hbn)) (fun hHeld => ?_)
      refine takeH (i := 0) (v := ?_) rfl (by kernel_rfl) (by kernel_rfl) (by kernel_rfl) (fun _ _ _ h => h) (Or.inl ⟨by rfl, ?_⟩) hHeld ?_; rotate_left; (focus (intro w' hSw; (try dsimp only at hSw); go_split_ands; first | (go_simp; done) | (go_simp; with_reducible rfl))); simp only [Act.put, List.setIfInBounds_toArray, List.set_cons_zero, List.set_cons_succ]
      refine takeH (i := 1) (v := ?_) rfl (by kernel_rfl) (by kernel_rfl) (by kernel_rfl) (fun _ _ _ h => h) (Or.inl ⟨by rfl, ?_⟩) hHeld ?_; rotate_left; (focus (intro w' hSw; (try dsimp only at hSw); go_split_ands; first | (go_simp; done) | (go_simp; with_reducible rfl))); simp only [Act.put, List.setIfInBounds_toArray, List.set_cons_zero, List.set_cons_succ]
      refine takeH (i := 2) (v := ?_) rfl (by kernel_rfl) (by kernel_rfl) (by kernel_rfl) (fun _ _ _ h => h) (Or.inl ⟨by rfl, ?_⟩) hHeld ?_; rotate_left; (focus (intro w' hSw; (try dsimp only at hSw); go_split_ands; first | (go_simp; done) | (go_simp; with_reducible rfl))); simp only [Act.put, List.setIfInBounds_toArray, List.set_cons_zero, List.set_cons_succ]
      refine takeH (i := 3) (v := ?_) rfl (by kernel_rfl) (by kernel_rfl) (by kernel_rfl) (fun _ _ _ h => h) (Or.inl ⟨by rfl, ?_⟩) hHeld ?_; rotate_left; (focus (intro w' hSw; (try dsimp only at hSw); go_split_ands; first | (go_simp; done) | (go_simp; with_reducible rfl))); simp only [Act.put, List.setIfInBounds_toArray, List.set_cons_zero, List.set_cons_succ]
      refine takeH (i := 4) (v := ?_) rfl (by kernel_rfl) (by kernel_rfl) (by kernel_rfl) (fun _ _ _ h => h) (Or.inl ⟨by rfl, ?_⟩) hHeld ?_; rotate_left; (focus (intro w' hSw; (try dsimp only at hSw); go_split_ands; first | (go_simp; done) | (go_simp; with_reducible rfl))); simp only [Act.put, List.setIfInBounds_toArray, List.set_cons_zero, List.set_cons_succ]
      refine oneH (i := 5) rfl (by kernel_rfl) (fun K hK => ?_)
      go_simp
      go_at_call 91
      refine (HC0.out _ hbn).mono ?_
      rintro e w2 ⟨rfl, h2⟩
      replace r0d := cell_later h2 r0d
      replace r1d := cell_later h2 r1d
      replace f0d := (h2.frozen (p := ⟨w.heap.size + 1, 0, none⟩) usd).trans f0d
      replace f1d := (h2.frozen (p := ⟨w.heap.size + 1, 1, none⟩) usd).trans f1d
      replace usd : w.heap.size + 1 < w2.heap.size := World.block_lt_of_cell? _ _ r0d
      replace hbn := hbn.trans (h2.mono hbn.size)
      clear HC0 h2
      refine hK.out _ _ (HK.out _ (Kept.of_below hbn)) (fun hHeld => ?_)
      clear hK K
      refine takeH (i := 6) (v := ?_) rfl (by kernel_rfl) (by kernel_rfl) (by kernel_rfl) (fun _ _ _ h => h) (Or.inl ⟨by rfl, ?_⟩) hHeld ?_; rotate_left; (focus (intro w' hSw; (try dsimp only at hSw); go_split_ands; first | (go_simp; done) | (go_simp; with_reducible rfl))); simp only [Act.put, List.setIfInBounds_toArray, List.set_cons_zero, List.set_cons_succ]
      refine takeH (i := 7) (v := undef) rfl (by kernel_rfl) (by kernel_rfl) (by kernel_rfl) (fun _ _ _ h => h) (Or.inr ⟨by kernel_rfl, rfl⟩) hHeld ?_; simp only [Act.put, List.setIfInBounds_toArray, List.set_cons_zero, List.set_cons_succ]
      refine takeH (i := 8) (v := undef) rfl (by kernel_rfl) (by kernel_rfl) (by kernel_rfl) (fun _ _ _ h => h) (Or.inr ⟨by kernel_rfl, rfl⟩) hHeld ?_; simp only [Act.put, List.setIfInBounds_toArray, List.set_cons_zero, List.set_cons_succ]
      refine takeH (i := 9) (v := undef) rfl (by kernel_rfl) (by kernel_rfl) (by kernel_rfl) (fun _ _ _ h => h) (Or.inr ⟨by kernel_rfl, rfl⟩) hHeld ?_; simp only [Act.put, List.setIfInBounds_toArray, List.set_cons_zero, List.set_cons_succ]
      refine takeH (i := 10) (v := undef) rfl (by kernel_rfl) (by kernel_rfl) (by kernel_rfl) (fun _ _ _ h => h) (Or.inr ⟨by kernel_rfl, rfl⟩) hHeld ?_; simp only [Act.put, List.setIfInBounds_toArray, List.set_cons_zero, List.set_cons_succ]
      refine takeH (i := 11) (v := undef) rfl (by kernel_rfl) (by kernel_rfl) (by kernel_rfl) (fun _ _ _ h => h) (Or.inr ⟨by kernel_rfl, rfl⟩) hHeld ?_; simp only [Act.put, List.setIfInBounds_toArray, List.set_cons_zero, List.set_cons_succ]
      refine takeH (i := 12) (v := ?_) rfl (by kernel_rfl) (by kernel_rfl) (by kernel_rfl) (fun _ _ _ h => h) (Or.inl ⟨by rfl, ?_⟩) hHeld ?_; rotate_left; (focus (intro w' hSw; (try dsimp only at hSw); go_split_ands; first | (go_simp; done) | (go_simp; with_reducible rfl))); simp only [Act.put, List.setIfInBounds_toArray, List.set_cons_zero, List.set_cons_succ]
      refine oneH (i := 13) rfl (by kernel_rfl) (fun K hK => ?_)
      go_simp
      refine hK.out _ _ (HK.out _ (((Kept.of_below hbn).trans setR_kept).trans setR_kept)) (fun hHeld => ?_)
      clear hK K
      refine takeH (i := 14) (v := ?_) rfl (by kernel_rfl) (by kernel_rfl) (by kernel_rfl) (fun _ _ _ h => h) (Or.inl ⟨by rfl, ?_⟩) hHeld ?_; rotate_left; (focus (intro w' hSw; (try dsimp only at hSw); go_split_ands; first | (go_simp; done) | (go_simp; with_reducible rfl))); simp only [Act.put, List.setIfInBounds_toArray, List.set_cons_zero, List.set_cons_succ]
      refine wpAnyH_done (by kernel_rfl) ?_ _
      have HN : Hid _ := HE.out _ hbn
      clear HE
      go_wp2_with fail
      obtain ⟨e1, e2, e3⟩ := HN.out
      refine bodyPost_ret (v := .tuple #[.agg #[.int .i64 2, .slice none 0 0], .bool false]) ?_ rfl e1
      simp [results, Tryz.results57, go_sem, e2, e3]
  · -- if
    obtain ⟨t0, t1, t2, rfl⟩ : ∃ t0 t1 t2, ts = [t0, t1, t2] := by
      match ts, (show ts.length = 3 by rw [hlen, hk]; rfl) with
      | [t0, t1, t2], _ => exact ⟨t0, t1, t2, rfl⟩
    obtain ⟨g, o, ea, c0, c1, _⟩ := HT.out.2.1.part 0 (by simp)
    obtain ⟨g1, o1, ea1, c2, c3, _⟩ := HT.out.2.1.part 1 (by simp)
    obtain ⟨g2, o2, ea2, c4, c5, _⟩ := HT.out.2.1.part 2 (by simp)
    simp only [List.getElem_cons_zero, List.getElem_cons_succ, Nat.zero_mul, Nat.add_zero, Nat.one_mul] at c0 c1 c2 c3 c4 c5 ea ea1 ea2
    rw [ea] at ea1
    obtain ⟨rfl, rfl⟩ : g = g1 ∧ o = o1 := by simpa using ea1
    rw [ea] at ea2
    obtain ⟨rfl, rfl⟩ : g = g2 ∧ o = o2 := by simpa using ea2
    simp only [show 2 * 2 = 4 from rfl] at c4 c5
    have hg0 := HT.out.2.2.1 t0 (by simp)
    obtain ⟨p0, h0, s0⟩ := good_facts (by omega) hg0.2.2
    have hg1 := HT.out.2.2.1 t1 (by simp)
    obtain ⟨p1, h1, s1⟩ := good_facts (by omega) hg1.2.2
    have hg2 := HT.out.2.2.1 t2 (by simp)
    obtain ⟨p2, h2, s2⟩ := good_facts (by omega) hg2.2.2
    have hgw : g ≠ w.heap.size + 1 := by have := HT.out.2.2.2.2 _ ea; simp only at this; omega
    have lb : g < wc.heap.size := World.block_lt_of_cell? _ _ c0
    have n0 := hB.n0
    have n1 := hB.n1
    have m0 := hB.t0
    have m1 := hB.t1
    obtain ⟨b0, hb0⟩ : ∃ b, b = relY escFits t0.ty ⟨2, []⟩ := ⟨_, rfl⟩
    obtain ⟨b1, hb1⟩ : ∃ b, b = relY escFits t1.ty t2.ty := ⟨_, rfl⟩
    have HV : Hid (typeS x.tm (E.l.map Tr.ty) = if (b0 && b1) = true then some (joinY t1.ty t2.ty) else none) := by
      show _ = _
      rw [HR.out, hk, hb0, hb1]
      simp only [List.map_cons, List.map_nil]
      have y1 : goodY 904 t1.ty = true := by rw [← goodT_eq]; exact hg1.2.2
      have y2 : goodY 904 t2.ty = true := by rw [← goodT_eq]; exact hg2.2.2
      obtain ⟨j0, j1, j2, _⟩ := join_facts 904 _ _ y1 y2
      rw [ruleTy_if _ _ _ _ _ _ (fun _ => ⟨finer_fits 904 _ _ y1 j0 j1, finer_fits 904 _ _ y2 j0 j2⟩)]
    have HK : Hid (∀ W, Kept (w.heap.size + 1) none wc W → W.cell? ⟨w.heap.size + 1 + 1, 0, none⟩ = some (.int .i64 1) ∧ W.cell? ⟨w.heap.size + 1 + 1, 1, none⟩ = some (.slice none 0 0) ∧ W.cell? ⟨w.heap.size + 1 + 1 + 1, 0, none⟩ = some (.int .i64 2) ∧ W.cell? ⟨w.heap.size + 1 + 1 + 1, 1, none⟩ = some (.slice none 0 0) ∧ W.cell? ⟨g, o, none⟩ = some (.int .i64 t0.k) ∧ W.cell? ⟨g, o + 1, none⟩ = some (.slice t0.a t0.l.length t0.c) ∧ W.cell? ⟨g, o + 2, none⟩ = some (.int .i64 t1.k) ∧ W.cell? ⟨g, o + 3, none⟩ = some (.slice t1.a t1.l.length t1.c) ∧ W.cell? ⟨g, o + 4, none⟩ = some (.int .i64 t2.k) ∧ W.cell? ⟨g, o + 5, none⟩ = some (.slice t2.a t2.l.length t2.c)) := fun W h =>
      ⟨h.cell n0 (by omega), h.cell n1 (by omega), h.cell m0 (by omega), h.cell m1 (by omega), h.cell c0 hgw, h.cell c1 hgw, h.cell c2 hgw, h.cell c3 hgw, h.cell c4 hgw, h.cell c5 hgw⟩
    have HC0 : Hid (∀ W, Below wc.heap.size wc W → Calls Tryz.prog 91 #[.agg #[.int .i64 t0.k, .slice t0.a t0.l.length t0.c], .agg #[.int .i64 2, .slice none 0 0]] W fun e w' => e = .returned (.bool b0) ∧ Below W.heap.size W w') := fun W h => by
      have := fitsOf_any 1000 t0 (leaf 2) W (hg0.1.below h) (leaf_in 2 W) h0 s0 p0 (Tr.right_good 1 _ rfl)
      rw [leaf_ty, ← hb0] at this
      exact this
    have HC1 : Hid (∀ W, Below wc.heap.size wc W → Calls Tryz.prog 91 #[.agg #[.int .i64 t1.k, .slice t1.a t1.l.length t1.c], .agg #[.int .i64 t2.k, .slice t2.a t2.l.length t2.c]] W fun e w' => e = .returned (.bool b1) ∧ Below W.heap.size W w') := fun W h => by
      have := fitsOf_any 1000 t1 t2 W (hg1.1.below h) (hg2.1.below h) h1 s1 p1 p2
      rw [← hb1] at this
      exact this
    have HJ : Hid (∀ W, Below wc.heap.size wc W → Calls Tryz.prog 92 #[.agg #[.int .i64 t1.k, .slice t1.a t1.l.length t1.c], .agg #[.int .i64 t2.k, .slice t2.a t2.l.length t2.c]] W fun e w' => ∃ u : Tr, e = .returned (.agg #[.int .i64 u.k, .slice u.a u.l.length u.c]) ∧ Hid (u.ty = joinY t1.ty t2.ty ∧ u.Bl Q1) ∧ u.In w' ∧ Below W.heap.size W w') := fun W h => by
      refine (joinOf_any 1000 t1 t2 W (hg1.1.below h) (hg2.1.below h) p1 p2 h1).mono ?_
      rintro e w' ⟨u, rfl, ht, hi, hbl, hb⟩
      exact ⟨u, rfl, ⟨ht, hbl.mono fun b hb => HQ1.out.2.2.1 b (by have := h.size; omega)⟩, hi, hb⟩
    have HE : Hid (∀ V (u : Tr), Below wc.heap.size wc V → Hid (u.ty = joinY t1.ty t2.ty ∧ u.Bl Q1) → u.In V → _) := fun V u hV hu hi => HEND.out V u (b0 && b1) hV (by rw [HV.out]; cases b0 <;> cases b1 <;> rfl) (fun i h => by rw [HV.out] at h; revert h; cases b0 <;> cases b1 <;> (intro h; first | exact hu.out.1.trans (Option.some.inj h) | cases h)) hi hu.out.2
    have hbn : Below wc.heap.size wc wc.drew := (Below.refl _ _).drew
    have r0d : wc.drew.cell? ⟨w.heap.size + 1, 0, none⟩ = some (.int .i64 0) := r0
    have r1d : wc.drew.cell? ⟨w.heap.size + 1, 1, none⟩ = some (.slice none 0 0) := r1
    have f0d : wc.drew.frozen? ⟨w.heap.size + 1, 0, none⟩ = false := f0
    have f1d : wc.drew.frozen? ⟨w.heap.size + 1, 1, none⟩ = false := f1
    have usd : w.heap.size + 1 < wc.drew.heap.size := us1
    rw [hk] at d0
    rw [ea]
    clear hk hlen hB HEND HEL HT HR HF ea ea1 ea2 p0 h0 s0 p1 h1 s1 p2 h2 s2 hg0 hg1 hg2 hb0 hb1 HV
    cases b0 with
    | true =>
      go_upto_region 26 with fail
      go_region_held3 (fun W => W.cell? ⟨w.heap.size + 1 + 1, 0, none⟩ = some (.int .i64 1) ∧ W.cell? ⟨w.heap.size + 1 + 1, 1, none⟩ = some (.slice none 0 0) ∧ W.cell? ⟨w.heap.size + 1 + 1 + 1, 0, none⟩ = some (.int .i64 2) ∧ W.cell? ⟨w.heap.size + 1 + 1 + 1, 1, none⟩ = some (.slice none 0 0) ∧ W.cell? ⟨g, o, none⟩ = some (.int .i64 t0.k) ∧ W.cell? ⟨g, o + 1, none⟩ = some (.slice t0.a t0.l.length t0.c) ∧ W.cell? ⟨g, o + 2, none⟩ = some (.int .i64 t1.k) ∧ W.cell? ⟨g, o + 3, none⟩ = some (.slice t1.a t1.l.length t1.c) ∧ W.cell? ⟨g, o + 4, none⟩ = some (.int .i64 t2.k) ∧ W.cell? ⟨g, o + 5, none⟩ = some (.slice t2.a t2.l.length t2.c))
        (first | exact HK.out _ (Kept.of_below hbn) | exact HK.out _ (((Kept.of_below hbn).trans setR_kept).trans setR_kept) | fail)
        (first
          | (go_at_call 92; refine (HJ.out _ hbn).mono ?_; rintro e w4 ⟨u, rfl, hu, hui, h4⟩; replace r0d := cell_later h4 r0d; replace r1d := cell_later h4 r1d; replace f0d := (h4.frozen (p := ⟨w.heap.size + 1, 0, none⟩) usd).trans f0d; replace f1d := (h4.frozen (p := ⟨w.heap.size + 1, 1, none⟩) usd).trans f1d; replace usd : w.heap.size + 1 < w4.heap.size := World.block_lt_of_cell? _ _ r0d; replace hbn := hbn.trans (h4.mono hbn.size); clear HJ)
          | (go_at_call 91; refine (HC0.out _ hbn).mono ?_; rintro e w2 ⟨rfl, h2⟩; (try (replace hui := Tr.In.below h2 hui)); replace r0d := cell_later h2 r0d; replace r1d := cell_later h2 r1d; replace f0d := (h2.frozen (p := ⟨w.heap.size + 1, 0, none⟩) usd).trans f0d; replace f1d := (h2.frozen (p := ⟨w.heap.size + 1, 1, none⟩) usd).trans f1d; replace usd : w.heap.size + 1 < w2.heap.size := World.block_lt_of_cell? _ _ r0d; replace hbn := hbn.trans (h2.mono hbn.size); clear HC0)
          | (go_at_call 91; refine (HC1.out _ hbn).mono ?_; rintro e w3 ⟨rfl, h3⟩; (try (replace hui := Tr.In.below h3 hui)); replace r0d := cell_later h3 r0d; replace r1d := cell_later h3 r1d; replace f0d := (h3.frozen (p := ⟨w.heap.size + 1, 0, none⟩) usd).trans f0d; replace f1d := (h3.frozen (p := ⟨w.heap.size + 1, 1, none⟩) usd).trans f1d; replace usd : w.heap.size + 1 < w3.heap.size := World.block_lt_of_cell? _ _ r0d; replace hbn := hbn.trans (h3.mono hbn.size); clear HC1)
          | fail)
      all_goals
        have HN : Hid _ := HE.out _ u hbn hu hui
        clear HE hui
        go_wp2_with fail
        obtain ⟨e1, e2, e3⟩ := HN.out
        refine bodyPost_ret (v := .tuple #[.agg #[.int .i64 u.k, .slice u.a u.l.length u.c], .bool b1]) ?_ rfl e1
        simp [results, Tryz.results57, go_sem, e2, e3]
    | false =>
      go_upto_region 26 with fail
      refine wp_region_held_drew (S := fun W => W.cell? ⟨w.heap.size + 1 + 1, 0, none⟩ = some (.int .i64 1) ∧ W.cell? ⟨w.heap.size + 1 + 1, 1, none⟩ = some (.slice none 0 0) ∧ W.cell? ⟨w.heap.size + 1 + 1 + 1, 0, none⟩ = some (.int .i64 2) ∧ W.cell? ⟨w.heap.size + 1 + 1 + 1, 1, none⟩ = some (.slice none 0 0) ∧ W.cell? ⟨g, o, none⟩ = some (.int .i64 t0.k) ∧ W.cell? ⟨g, o + 1, none⟩ = some (.slice t0.a t0.l.length t0.c) ∧ W.cell? ⟨g, o + 2, none⟩ = some (.int .i64 t1.k) ∧ W.cell? ⟨g, o + 3, none⟩ = some (.slice t1.a t1.l.length t1.c) ∧ W.cell? ⟨g, o + 4, none⟩ = some (.int .i64 t2.k) ∧ W.cell? ⟨g, o + 5, none⟩ = some (.slice t2.a t2.l.length t2.c)) (by kernel_rfl) (HK.out _ (Kept.of_below hbn)) (fun hHeld => ?_)
      refine takeH (i := 0) (v := ?_) rfl (by kernel_rfl) (by kernel_rfl) (by kernel_rfl) (fun _ _ _ h => h) (Or.inl ⟨by rfl, ?_⟩) hHeld ?_; rotate_left; (focus (intro w' hSw; (try dsimp only at hSw); go_split_ands; first | (go_simp; done) | (go_simp; with_reducible rfl))); simp only [Act.put, List.setIfInBounds_toArray, List.set_cons_zero, List.set_cons_succ]
      refine takeH (i := 1) (v := ?_) rfl (by kernel_rfl) (by kernel_rfl) (by kernel_rfl) (fun _ _ _ h => h) (Or.inl ⟨by rfl, ?_⟩) hHeld ?_; rotate_left; (focus (intro w' hSw; (try dsimp only at hSw); go_split_ands; first | (go_simp; done) | (go_simp; with_reducible rfl))); simp only [Act.put, List.setIfInBounds_toArray, List.set_cons_zero, List.set_cons_succ]
      refine takeH (i := 2) (v := ?_) rfl (by kernel_rfl) (by kernel_rfl) (by kernel_rfl) (fun _ _ _ h => h) (Or.inl ⟨by rfl, ?_⟩) hHeld ?_; rotate_left; (focus (intro w' hSw; (try dsimp only at hSw); go_split_ands; first | (go_simp; done) | (go_simp; with_reducible rfl))); simp only [Act.put, List.setIfInBounds_toArray, List.set_cons_zero, List.set_cons_succ]
      refine takeH (i := 3) (v := ?_) rfl (by kernel_rfl) (by kernel_rfl) (by kernel_rfl) (fun _ _ _ h => h) (Or.inl ⟨by rfl, ?_⟩) hHeld ?_; rotate_left; (focus (intro w' hSw; (try dsimp only at hSw); go_split_ands; first | (go_simp; done) | (go_simp; with_reducible rfl))); simp only [Act.put, List.setIfInBounds_toArray, List.set_cons_zero, List.set_cons_succ]
      refine takeH (i := 4) (v := ?_) rfl (by kernel_rfl) (by kernel_rfl) (by kernel_rfl) (fun _ _ _ h => h) (Or.inl ⟨by rfl, ?_⟩) hHeld ?_; rotate_left; (focus (intro w' hSw; (try dsimp only at hSw); go_split_ands; first | (go_simp; done) | (go_simp; with_reducible rfl))); simp only [Act.put, List.setIfInBounds_toArray, List.set_cons_zero, List.set_cons_succ]
      refine takeH (i := 5) (v := ?_) rfl (by kernel_rfl) (by kernel_rfl) (by kernel_rfl) (fun _ _ _ h => h) (Or.inl ⟨by rfl, ?_⟩) hHeld ?_; rotate_left; (focus (intro w' hSw; (try dsimp only at hSw); go_split_ands; first | (go_simp; done) | (go_simp; with_reducible rfl))); simp only [Act.put, List.setIfInBounds_toArray, List.set_cons_zero, List.set_cons_succ]
      refine takeH (i := 7) (v := ?_) rfl (by kernel_rfl) (by kernel_rfl) (by kernel_rfl) (fun _ _ _ h => h) (Or.inl ⟨by rfl, ?_⟩) hHeld ?_; rotate_left; (focus (intro w' hSw; (try dsimp only at hSw); go_split_ands; first | (go_simp; done) | (go_simp; with_reducible rfl))); simp only [Act.put, List.setIfInBounds_toArray, List.set_cons_zero, List.set_cons_succ]
      refine takeH (i := 8) (v := ?_) rfl (by kernel_rfl) (by kernel_rfl) (by kernel_rfl) (fun _ _ _ h => h) (Or.inl ⟨by rfl, ?_⟩) hHeld ?_; rotate_left; (focus (intro w' hSw; (try dsimp only at hSw); go_split_ands; first | (go_simp; done) | (go_simp; with_reducible rfl))); simp only [Act.put, List.setIfInBounds_toArray, List.set_cons_zero, List.set_cons_succ]
      refine takeH (i := 9) (v := ?_) rfl (by kernel_rfl) (by kernel_rfl) (by kernel_rfl) (fun _ _ _ h => h) (Or.inl ⟨by rfl, ?_⟩) hHeld ?_; rotate_left; (focus (intro w' hSw; (try dsimp only at hSw); go_split_ands; first | (go_simp; done) | (go_simp; with_reducible rfl))); simp only [Act.put, List.setIfInBounds_toArray, List.set_cons_zero, List.set_cons_succ]
      refine takeH (i := 10) (v := ?_) rfl (by kernel_rfl) (by kernel_rfl) (by kernel_rfl) (fun _ _ _ h => h) (Or.inl ⟨by rfl, ?_⟩) hHeld ?_; rotate_left; (focus (intro w' hSw; (try dsimp only at hSw); go_split_ands; first | (go_simp; done) | (go_simp; with_reducible rfl))); simp only [Act.put, List.setIfInBounds_toArray, List.set_cons_zero, List.set_cons_succ]
      refine oneH (i := 6) rfl (by kernel_rfl) (fun K hK => ?_)
      go_simp
      go_at_call 92
      refine (HJ.out _ hbn).mono ?_
      rintro e w4 ⟨u, rfl, hu, hui, h4⟩
      replace r0d := cell_later h4 r0d
      replace r1d := cell_later h4 r1d
      replace f0d := (h4.frozen (p := ⟨w.heap.size + 1, 0, none⟩) usd).trans f0d
      replace f1d := (h4.frozen (p := ⟨w.heap.size + 1, 1, none⟩) usd).trans f1d
      replace usd : w.heap.size + 1 < w4.heap.size := World.block_lt_of_cell? _ _ r0d
      replace hbn := hbn.trans (h4.mono hbn.size)
      clear HJ h4
      refine hK.out _ _ (HK.out _ (Kept.of_below hbn)) (fun hHeld => ?_)
      clear hK K
      refine oneH (i := 11) rfl (by kernel_rfl) (fun K hK => ?_)
      go_simp
      go_at_call 91
      refine (HC0.out _ hbn).mono ?_
      rintro e w2 ⟨rfl, h2⟩
      (try (replace hui := Tr.In.below h2 hui))
      replace r0d := cell_later h2 r0d
      replace r1d := cell_later h2 r1d
      replace f0d := (h2.frozen (p := ⟨w.heap.size + 1, 0, none⟩) usd).trans f0d
      replace f1d := (h2.frozen (p := ⟨w.heap.size + 1, 1, none⟩) usd).trans f1d
      replace usd : w.heap.size + 1 < w2.heap.size := World.block_lt_of_cell? _ _ r0d
      replace hbn := hbn.trans (h2.mono hbn.size)
      clear HC0 h2
      refine hK.out _ _ (HK.out _ (Kept.of_below hbn)) (fun hHeld => ?_)
      clear hK K
      refine takeH (i := 12) (v := ?_) rfl (by kernel_rfl) (by kernel_rfl) (by kernel_rfl) (fun _ _ _ h => h) (Or.inl ⟨by rfl, ?_⟩) hHeld ?_; rotate_left; (focus (intro w' hSw; (try dsimp only at hSw); go_split_ands; first | (go_simp; done) | (go_simp; with_reducible rfl))); simp only [Act.put, List.setIfInBounds_toArray, List.set_cons_zero, List.set_cons_succ]
      refine takeH (i := 13) (v := undef) rfl (by kernel_rfl) (by kernel_rfl) (by kernel_rfl) (fun _ _ _ h => h) (Or.inr ⟨by kernel_rfl, rfl⟩) hHeld ?_; simp only [Act.put, List.setIfInBounds_toArray, List.set_cons_zero, List.set_cons_succ]
      refine takeH (i := 14) (v := undef) rfl (by kernel_rfl) (by kernel_rfl) (by kernel_rfl) (fun _ _ _ h => h) (Or.inr ⟨by kernel_rfl, rfl⟩) hHeld ?_; simp only [Act.put, List.setIfInBounds_toArray, List.set_cons_zero, List.set_cons_succ]
      refine takeH (i := 15) (v := undef) rfl (by kernel_rfl) (by kernel_rfl) (by kernel_rfl) (fun _ _ _ h => h) (Or.inr ⟨by kernel_rfl, rfl⟩) hHeld ?_; simp only [Act.put, List.setIfInBounds_toArray, List.set_cons_zero, List.set_cons_succ]
      refine takeH (i := 16) (v := undef) rfl (by kernel_rfl) (by kernel_rfl) (by kernel_rfl) (fun _ _ _ h => h) (Or.inr ⟨by kernel_rfl, rfl⟩) hHeld ?_; simp only [Act.put, List.setIfInBounds_toArray, List.set_cons_zero, List.set_cons_succ]
      refine takeH (i := 17) (v := undef) rfl (by kernel_rfl) (by kernel_rfl) (by kernel_rfl) (fun _ _ _ h => h) (Or.inr ⟨by kernel_rfl, rfl⟩) hHeld ?_; simp only [Act.put, List.setIfInBounds_toArray, List.set_cons_zero, List.set_cons_succ]
      refine takeH (i := 18) (v := undef) rfl (by kernel_rfl) (by kernel_rfl) (by kernel_rfl) (fun _ _ _ h => h) (Or.inr ⟨by kernel_rfl, rfl⟩) hHeld ?_; simp only [Act.put, List.setIfInBounds_toArray, List.set_cons_zero, List.set_cons_succ]
      refine takeH (i := 19) (v := undef) rfl (by kernel_rfl) (by kernel_rfl) (by kernel_rfl) (fun _ _ _ h => h) (Or.inr ⟨by kernel_rfl, rfl⟩) hHeld ?_; simp only [Act.put, List.setIfInBounds_toArray, List.set_cons_zero, List.set_cons_succ]
      refine takeH (i := 20) (v := ?_) rfl (by kernel_rfl) (by kernel_rfl) (by kernel_rfl) (fun _ _ _ h => h) (Or.inl ⟨by rfl, ?_⟩) hHeld ?_; rotate_left; (focus (intro w' hSw; (try dsimp only at hSw); go_split_ands; first | (go_simp; done) | (go_simp; with_reducible rfl))); simp only [Act.put, List.setIfInBounds_toArray, List.set_cons_zero, List.set_cons_succ]
      refine oneH (i := 21) rfl (by kernel_rfl) (fun K hK => ?_)
      go_simp
      refine hK.out _ _ (HK.out _ (((Kept.of_below hbn).trans setR_kept).trans setR_kept)) (fun hHeld => ?_)
      clear hK K
      refine takeH (i := 22) (v := ?_) rfl (by kernel_rfl) (by kernel_rfl) (by kernel_rfl) (fun _ _ _ h => h) (Or.inl ⟨by rfl, ?_⟩) hHeld ?_; rotate_left; (focus (intro w' hSw; (try dsimp only at hSw); go_split_ands; first | (go_simp; done) | (go_simp; with_reducible rfl))); simp only [Act.put, List.setIfInBounds_toArray, List.set_cons_zero, List.set_cons_succ]
      refine wpAnyH_done (by kernel_rfl) ?_ _
      have HN : Hid _ := HE.out _ u hbn hu hui
      clear HE hui
      go_wp2_with fail
      obtain ⟨e1, e2, e3⟩ := HN.out
      refine bodyPost_ret (v := .tuple #[.agg #[.int .i64 u.k, .slice u.a u.l.length u.c], .bool false]) ?_ rfl e1
      simp [results, Tryz.results57, go_sem, e2, e3]
  · -- a function
    obtain ⟨t0, rfl⟩ : ∃ t0, ts = [t0] := by
      match ts, (show ts.length = 1 by rw [hlen, hk]; rfl) with
      | [t0], _ => exact ⟨t0, rfl⟩
    obtain ⟨g, o, ea, c0, c1, _⟩ := HT.out.2.1.part 0 (by simp)
    simp only [List.getElem_cons_zero, Nat.zero_mul, Nat.add_zero] at c0 c1 ea
    have hg0 := HT.out.2.2.1 t0 (by simp)
    obtain ⟨p0, h0, s0⟩ := good_facts (by omega) hg0.2.2
    have hgw : g ≠ w.heap.size + 1 := by have := HT.out.2.2.2.2 _ ea; simp only at this; omega
    have lb : g < wc.heap.size := World.block_lt_of_cell? _ _ c0
    have n0 := hB.n0
    have n1 := hB.n1
    have m0 := hB.t0
    have m1 := hB.t1
    have d2 := hB.at7.c2
    have d3 := hB.at7.c3
    simp only [Nat.zero_add] at d2 d3
    have hxt : x.t.In wc := (HX.out.1.below hB.low).t
    have HV : Hid (typeS x.tm (E.l.map Tr.ty) = some ⟨3, [x.t.ty, t0.ty]⟩) := by
      show _ = _
      rw [HR.out, hk]
      simp only [List.map_cons, List.map_nil]
      rw [ruleTy_fn _ _ _ _ (fits_refl 904 _ (by rw [← goodT_eq]; exact hg0.2.2))]
    have HJ : Hid (∀ W, Below wc.heap.size wc W → Calls Tryz.prog 93 #[.agg #[.int .i64 x.t.k, .slice x.t.a x.t.l.length x.t.c], .agg #[.int .i64 t0.k, .slice t0.a t0.l.length t0.c]] W fun e w' => ∃ gg, e = .returned (.agg #[.int .i64 3, .slice (some ⟨gg, 0, none⟩) 2 2]) ∧ Hid ((Tr.mk 3 (some ⟨gg, 0, none⟩) 2 [x.t, t0]).In w' ∧ (Tr.mk 3 (some ⟨gg, 0, none⟩) 2 [x.t, t0]).Bl Q1) ∧ Below W.heap.size W w') := fun W h => by
      refine (fun_any x.t t0 W (hxt.below h) (hg0.1.below h)).mono ?_
      rintro e w' ⟨gg, hgg, rfl, hi, hb⟩
      exact ⟨gg, rfl, ⟨hi, Tr.Bl_two (HQ1.out.2.2.1 gg (by have := h.size; omega)) HQ1.out.1.t hg0.2.1⟩, hb⟩
    have HE : Hid (∀ V (gg : Nat), Below wc.heap.size wc V → Hid ((Tr.mk 3 (some ⟨gg, 0, none⟩) 2 [x.t, t0]).In V ∧ (Tr.mk 3 (some ⟨gg, 0, none⟩) 2 [x.t, t0]).Bl Q1) → TyPost Q (typeS x.tm (E.l.map Tr.ty)) w (.returned (.tuple #[.agg #[.int .i64 3, .slice (some ⟨gg, 0, none⟩) 2 2], .bool true])) ((V.setCell ⟨w.heap.size + 1, 0, none⟩ (.int .i64 3)).setCell ⟨w.heap.size + 1, 1, none⟩ (.slice (some ⟨gg, 0, none⟩) 2 2)) ∧
      ((V.setCell ⟨w.heap.size + 1, 0, none⟩ (.int .i64 3)).setCell ⟨w.heap.size + 1, 1, none⟩ (.slice (some ⟨gg, 0, none⟩) 2 2)).cell? ⟨w.heap.size + 1, 0, none⟩ = some (.int .i64 3) ∧
      ((V.setCell ⟨w.heap.size + 1, 0, none⟩ (.int .i64 3)).setCell ⟨w.heap.size + 1, 1, none⟩ (.slice (some ⟨gg, 0, none⟩) 2 2)).cell? ⟨w.heap.size + 1, 1, none⟩ = some (.slice (some ⟨gg, 0, none⟩) 2 2)) := fun V gg hV hu => HEND.out V (Tr.mk 3 (some ⟨gg, 0, none⟩) 2 [x.t, t0]) true hV (by rw [HV.out]; rfl) (fun i h => by rw [HV.out] at h; rw [← Option.some.inj h, Tr.ty_mk]; rfl) hu.out.1 hu.out.2
    have HK : Hid (∀ W, Kept (w.heap.size + 1) none wc W → W.cell? ⟨w.heap.size + 1 + 1, 0, none⟩ = some (.int .i64 1) ∧ W.cell? ⟨w.heap.size + 1 + 1, 1, none⟩ = some (.slice none 0 0) ∧ W.cell? ⟨w.heap.size + 1 + 1 + 1, 0, none⟩ = some (.int .i64 2) ∧ W.cell? ⟨w.heap.size + 1 + 1 + 1, 1, none⟩ = some (.slice none 0 0) ∧ W.cell? ⟨g, o, none⟩ = some (.int .i64 t0.k) ∧ W.cell? ⟨g, o + 1, none⟩ = some (.slice t0.a t0.l.length t0.c) ∧ W.cell? ⟨w.heap.size, 2, none⟩ = some (.int .i64 x.t.k) ∧ W.cell? ⟨w.heap.size, 3, none⟩ = some (.slice x.t.a x.t.l.length x.t.c)) := fun W h =>
      ⟨h.cell n0 (by omega), h.cell n1 (by omega), h.cell m0 (by omega), h.cell m1 (by omega), h.cell c0 hgw, h.cell c1 hgw, h.cell d2 (by omega), h.cell d3 (by omega)⟩
    have hbn : Below wc.heap.size wc wc.drew := (Below.refl _ _).drew
    have r0d : wc.drew.cell? ⟨w.heap.size + 1, 0, none⟩ = some (.int .i64 0) := r0
    have r1d : wc.drew.cell? ⟨w.heap.size + 1, 1, none⟩ = some (.slice none 0 0) := r1
    have f0d : wc.drew.frozen? ⟨w.heap.size + 1, 0, none⟩ = false := f0
    have f1d : wc.drew.frozen? ⟨w.heap.size + 1, 1, none⟩ = false := f1
    have usd : w.heap.size + 1 < wc.drew.heap.size := us1
    rw [hk] at d0
    rw [ea]
    clear hk hlen hB HEND HEL HT HR HF ea p0 h0 s0 hg0 HV hxt
    go_upto_region 28 with fail
    go_region_held3 (fun W => W.cell? ⟨w.heap.size + 1 + 1, 0, none⟩ = some (.int .i64 1) ∧ W.cell? ⟨w.heap.size + 1 + 1, 1, none⟩ = some (.slice none 0 0) ∧ W.cell? ⟨w.heap.size + 1 + 1 + 1, 0, none⟩ = some (.int .i64 2) ∧ W.cell? ⟨w.heap.size + 1 + 1 + 1, 1, none⟩ = some (.slice none 0 0) ∧ W.cell? ⟨g, o, none⟩ = some (.int .i64 t0.k) ∧ W.cell? ⟨g, o + 1, none⟩ = some (.slice t0.a t0.l.length t0.c) ∧ W.cell? ⟨w.heap.size, 2, none⟩ = some (.int .i64 x.t.k) ∧ W.cell? ⟨w.heap.size, 3, none⟩ = some (.slice x.t.a x.t.l.length x.t.c))
      (first | exact HK.out _ (Kept.of_below hbn) | exact HK.out _ (((Kept.of_below hbn).trans setR_kept).trans setR_kept) | fail)
      (first
        | (go_at_call 93; refine (HJ.out _ hbn).mono ?_; rintro e w4 ⟨gg, rfl, hu, h4⟩; replace r0d := cell_later h4 r0d; replace r1d := cell_later h4 r1d; replace f0d := (h4.frozen (p := ⟨w.heap.size + 1, 0, none⟩) usd).trans f0d; replace f1d := (h4.frozen (p := ⟨w.heap.size + 1, 1, none⟩) usd).trans f1d; replace usd : w.heap.size + 1 < w4.heap.size := World.block_lt_of_cell? _ _ r0d; replace hbn := hbn.trans (h4.mono hbn.size); clear HJ)
        | fail)
    have HN : Hid _ := HE.out _ gg hbn hu
    clear HE
    go_wp2_with fail
    obtain ⟨e1, e2, e3⟩ := HN.out
    refine bodyPost_ret (v := .tuple #[.agg #[.int .i64 3, .slice (some ⟨gg, 0, none⟩) 2 2], .bool true]) ?_ rfl e1
    simp [results, Tryz.results57, go_sem, e2, e3]
  · -- a call
    obtain ⟨t0, t1, rfl⟩ : ∃ t0 t1, ts = [t0, t1] := by
      match ts, (show ts.length = 2 by rw [hlen, hk]; rfl) with
      | [t0, t1], _ => exact ⟨t0, t1, rfl⟩
    obtain ⟨g, o, ea, c0, c1, _⟩ := HT.out.2.1.part 0 (by simp)
    obtain ⟨g1, o1, ea1, c2, c3, _⟩ := HT.out.2.1.part 1 (by simp)
    simp only [List.getElem_cons_zero, List.getElem_cons_succ, Nat.zero_mul, Nat.add_zero, Nat.one_mul] at c0 c1 c2 c3 ea ea1
    rw [ea] at ea1
    obtain ⟨rfl, rfl⟩ : g = g1 ∧ o = o1 := by simpa using ea1
    have hg0 := HT.out.2.2.1 t0 (by simp)
    obtain ⟨p0, h0, s0⟩ := good_facts (by omega) hg0.2.2
    have hg1 := HT.out.2.2.1 t1 (by simp)
    obtain ⟨p1, h1, s1⟩ := good_facts (by omega) hg1.2.2
    have hgw : g ≠ w.heap.size + 1 := by have := HT.out.2.2.2.2 _ ea; simp only at this; omega
    have lb : g < wc.heap.size := World.block_lt_of_cell? _ _ c0
    have n0 := hB.n0
    have n1 := hB.n1
    have m0 := hB.t0
    have m1 := hB.t1
    by_cases hz : t0.k = 0
    · have HV : Hid (typeS x.tm (E.l.map Tr.ty) = some ⟨0, []⟩) := by
        show _ = _
        rw [HR.out, hk]
        simp only [List.map_cons, List.map_nil]
        have e : t0.ty = ⟨0, t0.ty.l⟩ := by have := Ty.eta t0.ty; rw [Tr.ty_k, hz] at this; exact this
        rw [e, ruleTy_any]
      have HE : Hid _ := fun V hV => HEL.out V 0 true hV (by rw [HV.out]; rfl) (fun i hi => by rw [HV.out] at hi; exact Option.some.inj hi)
      rw [hz] at c0
      rw [hk] at d0
      rw [ea]
      clear hk hlen hB HEND HEL HT HR HF ea ea1 p0 h0 s0 p1 h1 s1 hg0 hg1 HV hz
      go_wp2_with (go_at_call 56; refine (any0_any _).mono ?_; rintro e w3 ⟨rfl, hw3⟩; have hb3 : Below wc.heap.size wc w3 := (by rw [hw3]; exact (Below.refl _ _).alloc (Nat.le_refl _) _); clear hw3; have ra0 := cell_later hb3 r0; have ra1 := cell_later hb3 r1; have rf0 := (hb3.frozen (p := ⟨w.heap.size + 1, 0, none⟩) us1).trans f0; have rf1 := (hb3.frozen (p := ⟨w.heap.size + 1, 1, none⟩) us1).trans f1; have us3 : w.heap.size + 1 < w3.heap.size := World.block_lt_of_cell? _ _ ra0)
      have HN : Hid _ := HE.out _ hb3
      clear HE
      obtain ⟨e1, e2, e3⟩ := HN.out
      refine bodyPost_ret (v := .tuple #[.agg #[.int .i64 0, .slice none 0 0], .bool true]) ?_ rfl e1
      simp [results, Tryz.results57, go_sem, e2, e3]
    · have hz' : (t0.k == 0) = false := by simpa using hz
      by_cases h3 : t0.k = 3
      · obtain ⟨u, v, hl⟩ : ∃ u v, t0.l = [u, v] := by
          rcases p0.cases with ⟨_, hk⟩ | ⟨u, v, hl, _⟩
          · omega
          · exact ⟨u, v, hl⟩
        obtain ⟨g2, o2, eb, y0, y1, hiu⟩ := hg0.1.part 0 (by simp [hl])
        obtain ⟨g3, o3, eb', y2, y3, hiv⟩ := hg0.1.part 1 (by simp [hl])
        rw [eb] at eb'
        obtain ⟨rfl, rfl⟩ : g2 = g3 ∧ o2 = o3 := by simpa using eb'
        simp only [hl, List.getElem_cons_zero, List.getElem_cons_succ, Nat.zero_mul, Nat.add_zero, Nat.one_mul] at y0 y1 y2 y3 hiu hiv
        have hru : u.right := by have := p0.part 0 (by simp [hl]); simpa [hl] using this
        have hrv : v.right := by have := p0.part 1 (by simp [hl]); simpa [hl] using this
        have hbu : ∀ z, z ∈ t0.l → z.Bl Q1 := by
          have h := hg0.2.1
          obtain ⟨k, a, c, l⟩ := t0
          exact (Tr.Bl_mk.1 h).2
        have hg2b : g2 ≠ w.heap.size + 1 := by
          have h := hg0.2.1
          obtain ⟨k, a, c, l⟩ := t0
          simp only at eb hl
          have := (Tr.Bl_mk.1 h).1 (by rw [hl]; simp) _ eb
          exact (HQ1.out.2.2.2 _ this).2
        have hty : t0.ty = ⟨3, [u.ty, v.ty]⟩ := by
          obtain ⟨k, a, c, l⟩ := t0
          simp only at h3 hl
          subst h3 hl
          rw [Tr.ty_mk]
          rfl
        have hlen2 : t0.l.length = 2 := by rw [hl]; rfl
        obtain ⟨b0, hb0⟩ : ∃ b, b = relY escFits t1.ty u.ty := ⟨_, rfl⟩
        have HV : Hid (typeS x.tm (E.l.map Tr.ty) = if b0 = true then some v.ty else none) := by
          show _ = _
          rw [HR.out, hk, hb0]
          simp only [List.map_cons, List.map_nil]
          rw [hty, ruleTy_call _ _ _ _ _ _ (by rw [← hty]; exact fits_refl 904 _ (by rw [← goodT_eq]; exact hg0.2.2))]
        have HC0 : Hid (∀ W, Below wc.heap.size wc W → Calls Tryz.prog 91 #[.agg #[.int .i64 t1.k, .slice t1.a t1.l.length t1.c], .agg #[.int .i64 u.k, .slice u.a u.l.length u.c]] W fun e w' => e = .returned (.bool b0) ∧ Below W.heap.size W w') := fun W h => by
          have := fitsOf_any 1000 t1 u W (hg1.1.below h) (hiu.below h) h1 s1 p1 hru
          rw [← hb0] at this
          exact this
        have HE : Hid (∀ V, Below wc.heap.size wc V → _) := fun V hV => HEND.out V v b0 hV (by rw [HV.out]; cases b0 <;> rfl) (fun i h => by rw [HV.out] at h; revert h; cases b0 <;> (intro h; first | exact Option.some.inj h | cases h)) (hiv.below hV) (hbu v (by rw [hl]; simp))
        have lb2 : g2 < wc.heap.size := World.block_lt_of_cell? _ _ y0
        rw [h3] at c0
        rw [eb, hlen2] at c1
        have HK : Hid (∀ W, Kept (w.heap.size + 1) none wc W → W.cell? ⟨w.heap.size + 1 + 1, 0, none⟩ = some (.int .i64 1) ∧ W.cell? ⟨w.heap.size + 1 + 1, 1, none⟩ = some (.slice none 0 0) ∧ W.cell? ⟨w.heap.size + 1 + 1 + 1, 0, none⟩ = some (.int .i64 2) ∧ W.cell? ⟨w.heap.size + 1 + 1 + 1, 1, none⟩ = some (.slice none 0 0) ∧ W.cell? ⟨g, o, none⟩ = some (.int .i64 3) ∧ W.cell? ⟨g, o + 1, none⟩ = some (.slice (some ⟨g2, o2, none⟩) 2 t0.c) ∧ W.cell? ⟨g, o + 2, none⟩ = some (.int .i64 t1.k) ∧ W.cell? ⟨g, o + 3, none⟩ = some (.slice t1.a t1.l.length t1.c) ∧ W.cell? ⟨g2, o2, none⟩ = some (.int .i64 u.k) ∧ W.cell? ⟨g2, o2 + 1, none⟩ = some (.slice u.a u.l.length u.c) ∧ W.cell? ⟨g2, o2 + 2, none⟩ = some (.int .i64 v.k) ∧ W.cell? ⟨g2, o2 + 3, none⟩ = some (.slice v.a v.l.length v.c)) := fun W h =>
          ⟨h.cell n0 (by omega), h.cell n1 (by omega), h.cell m0 (by omega), h.cell m1 (by omega), h.cell c0 hgw, h.cell c1 hgw, h.cell c2 hgw, h.cell c3 hgw, h.cell y0 hg2b, h.cell y1 hg2b, h.cell y2 hg2b, h.cell y3 hg2b⟩
        have hbn : Below wc.heap.size wc wc.drew := (Below.refl _ _).drew
        have r0d : wc.drew.cell? ⟨w.heap.size + 1, 0, none⟩ = some (.int .i64 0) := r0
        have r1d : wc.drew.cell? ⟨w.heap.size + 1, 1, none⟩ = some (.slice none 0 0) := r1
        have f0d : wc.drew.frozen? ⟨w.heap.size + 1, 0, none⟩ = false := f0
        have f1d : wc.drew.frozen? ⟨w.heap.size + 1, 1, none⟩ = false := f1
        have usd : w.heap.size + 1 < wc.drew.heap.size := us1
        rw [hk] at d0
        rw [ea]
        clear hk hlen hB HEND HEL HT HR HF ea ea1 p0 h0 s0 p1 h1 s1 hg0 hg1 HV hz hz' h3 hl hiu hiv hru hrv hbu hty hb0 eb eb' hlen2
        go_upto_region 34 with fail
        go_region_held3 (fun W => W.cell? ⟨w.heap.size + 1 + 1, 0, none⟩ = some (.int .i64 1) ∧ W.cell? ⟨w.heap.size + 1 + 1, 1, none⟩ = some (.slice none 0 0) ∧ W.cell? ⟨w.heap.size + 1 + 1 + 1, 0, none⟩ = some (.int .i64 2) ∧ W.cell? ⟨w.heap.size + 1 + 1 + 1, 1, none⟩ = some (.slice none 0 0) ∧ W.cell? ⟨g, o, none⟩ = some (.int .i64 3) ∧ W.cell? ⟨g, o + 1, none⟩ = some (.slice (some ⟨g2, o2, none⟩) 2 t0.c) ∧ W.cell? ⟨g, o + 2, none⟩ = some (.int .i64 t1.k) ∧ W.cell? ⟨g, o + 3, none⟩ = some (.slice t1.a t1.l.length t1.c) ∧ W.cell? ⟨g2, o2, none⟩ = some (.int .i64 u.k) ∧ W.cell? ⟨g2, o2 + 1, none⟩ = some (.slice u.a u.l.length u.c) ∧ W.cell? ⟨g2, o2 + 2, none⟩ = some (.int .i64 v.k) ∧ W.cell? ⟨g2, o2 + 3, none⟩ = some (.slice v.a v.l.length v.c))
          (first | exact HK.out _ (Kept.of_below hbn) | exact HK.out _ (((Kept.of_below hbn).trans setR_kept).trans setR_kept) | fail)
          (first
            | (go_at_call 91; refine (HC0.out _ hbn).mono ?_; rintro e w2 ⟨rfl, h2⟩; replace r0d := cell_later h2 r0d; replace r1d := cell_later h2 r1d; replace f0d := (h2.frozen (p := ⟨w.heap.size + 1, 0, none⟩) usd).trans f0d; replace f1d := (h2.frozen (p := ⟨w.heap.size + 1, 1, none⟩) usd).trans f1d; replace usd : w.heap.size + 1 < w2.heap.size := World.block_lt_of_cell? _ _ r0d; replace hbn := hbn.trans (h2.mono hbn.size); clear HC0)
            | fail)
        have HN : Hid _ := HE.out _ hbn
        clear HE
        go_wp2_with fail
        obtain ⟨e1, e2, e3⟩ := HN.out
        refine bodyPost_ret (v := .tuple #[.agg #[.int .i64 v.k, .slice v.a v.l.length v.c], .bool b0]) ?_ rfl e1
        simp [results, Tryz.results57, go_sem, e2, e3]
      · have h3' : (t0.k != 3) = true := by simpa using h3
        have HV : Hid (typeS x.tm (E.l.map Tr.ty) = none) := by
          show _ = _
          rw [HR.out, hk]
          simp only [List.map_cons, List.map_nil]
          have e : t0.ty = ⟨t0.k, t0.ty.l⟩ := by have := Ty.eta t0.ty; rw [Tr.ty_k] at this; exact this
          rw [e, ruleTy_other _ _ _ _ _ _ hz h3]
        have HE : Hid _ := fun V hV => HEL.out V 0 false hV (by rw [HV.out]; rfl) (fun i hi => by rw [HV.out] at hi; cases hi)
        rw [hk] at d0
        rw [ea]
        clear hk hlen hB HEND HEL HT HR HF ea ea1 p0 h0 s0 p1 h1 s1 hg0 hg1 HV hz h3
        go_wp2_with (go_at_call 56; refine (any0_any _).mono ?_; rintro e w3 ⟨rfl, hw3⟩; have hb3 : Below wc.heap.size wc w3 := (by rw [hw3]; exact (Below.refl _ _).alloc (Nat.le_refl _) _); clear hw3; have ra0 := cell_later hb3 r0; have ra1 := cell_later hb3 r1; have rf0 := (hb3.frozen (p := ⟨w.heap.size + 1, 0, none⟩) us1).trans f0; have rf1 := (hb3.frozen (p := ⟨w.heap.size + 1, 1, none⟩) us1).trans f1; have us3 : w.heap.size + 1 < w3.heap.size := World.block_lt_of_cell? _ _ ra0)
        have HN : Hid _ := HE.out _ hb3
        clear HE
        obtain ⟨e1, e2, e3⟩ := HN.out
        refine bodyPost_ret (v := .tuple #[.agg #[.int .i64 0, .slice none 0 0], .bool false]) ?_ rfl e1
        simp [results, Tryz.results57, go_sem, e2, e3]
  · -- as
    obtain ⟨t0, rfl⟩ : ∃ t0, ts = [t0] := by
      match ts, (show ts.length = 1 by rw [hlen, hk]; rfl) with
      | [t0], _ => exact ⟨t0, rfl⟩
    obtain ⟨g, o, ea, c0, c1, _⟩ := HT.out.2.1.part 0 (by simp)
    simp only [List.getElem_cons_zero, Nat.zero_mul, Nat.add_zero] at c0 c1 ea
    have hg0 := HT.out.2.2.1 t0 (by simp)
    obtain ⟨p0, h0, s0⟩ := good_facts (by omega) hg0.2.2
    have hgw : g ≠ w.heap.size + 1 := by have := HT.out.2.2.2.2 _ ea; simp only at this; omega
    have lb : g < wc.heap.size := World.block_lt_of_cell? _ _ c0
    have n0 := hB.n0
    have n1 := hB.n1
    have m0 := hB.t0
    have m1 := hB.t1
    have d2 := hB.at7.c2
    have d3 := hB.at7.c3
    simp only [Nat.zero_add] at d2 d3
    have hxt : x.t.In wc := (HX.out.1.below hB.low).t
    obtain ⟨b0, hb0⟩ : ∃ b, b = relY escFits t0.ty x.t.ty := ⟨_, rfl⟩
    have HV : Hid (typeS x.tm (E.l.map Tr.ty) = if b0 = true then some x.t.ty else none) := by
      show _ = _
      rw [HR.out, hk, hb0]
      simp only [List.map_cons, List.map_nil]
      rw [ruleTy_as]
    have HC0 : Hid (∀ W, Below wc.heap.size wc W → Calls Tryz.prog 91 #[.agg #[.int .i64 t0.k, .slice t0.a t0.l.length t0.c], .agg #[.int .i64 x.t.k, .slice x.t.a x.t.l.length x.t.c]] W fun e w' => e = .returned (.bool b0) ∧ Below W.heap.size W w') := fun W h => by
      have := fitsOf_any 1000 t0 x.t W (hg0.1.below h) (hxt.below h) h0 s0 p0 (Tr.right_good 4 _ HF.out.1)
      rw [← hb0] at this
      exact this
    have HE : Hid (∀ V, Below wc.heap.size wc V → _) := fun V hV => HEND.out V x.t b0 hV (by rw [HV.out]; cases b0 <;> rfl) (fun i h => by rw [HV.out] at h; revert h; cases b0 <;> (intro h; first | exact Option.some.inj h | cases h)) (hxt.below hV) HQ1.out.1.t
    have HK : Hid (∀ W, Kept (w.heap.size + 1) none wc W → W.cell? ⟨w.heap.size + 1 + 1, 0, none⟩ = some (.int .i64 1) ∧ W.cell? ⟨w.heap.size + 1 + 1, 1, none⟩ = some (.slice none 0 0) ∧ W.cell? ⟨w.heap.size + 1 + 1 + 1, 0, none⟩ = some (.int .i64 2) ∧ W.cell? ⟨w.heap.size + 1 + 1 + 1, 1, none⟩ = some (.slice none 0 0) ∧ W.cell? ⟨g, o, none⟩ = some (.int .i64 t0.k) ∧ W.cell? ⟨g, o + 1, none⟩ = some (.slice t0.a t0.l.length t0.c) ∧ W.cell? ⟨w.heap.size, 2, none⟩ = some (.int .i64 x.t.k) ∧ W.cell? ⟨w.heap.size, 3, none⟩ = some (.slice x.t.a x.t.l.length x.t.c)) := fun W h =>
      ⟨h.cell n0 (by omega), h.cell n1 (by omega), h.cell m0 (by omega), h.cell m1 (by omega), h.cell c0 hgw, h.cell c1 hgw, h.cell d2 (by omega), h.cell d3 (by omega)⟩
    have hbn : Below wc.heap.size wc wc.drew := (Below.refl _ _).drew
    have r0d : wc.drew.cell? ⟨w.heap.size + 1, 0, none⟩ = some (.int .i64 0) := r0
    have r1d : wc.drew.cell? ⟨w.heap.size + 1, 1, none⟩ = some (.slice none 0 0) := r1
    have f0d : wc.drew.frozen? ⟨w.heap.size + 1, 0, none⟩ = false := f0
    have f1d : wc.drew.frozen? ⟨w.heap.size + 1, 1, none⟩ = false := f1
    have usd : w.heap.size + 1 < wc.drew.heap.size := us1
    rw [hk] at d0
    rw [ea]
    clear hk hlen hB HEND HEL HT HR HF ea p0 h0 s0 hg0 HV hxt hb0
    go_upto_region 35 with fail
    go_region_held3 (fun W => W.cell? ⟨w.heap.size + 1 + 1, 0, none⟩ = some (.int .i64 1) ∧ W.cell? ⟨w.heap.size + 1 + 1, 1, none⟩ = some (.slice none 0 0) ∧ W.cell? ⟨w.heap.size + 1 + 1 + 1, 0, none⟩ = some (.int .i64 2) ∧ W.cell? ⟨w.heap.size + 1 + 1 + 1, 1, none⟩ = some (.slice none 0 0) ∧ W.cell? ⟨g, o, none⟩ = some (.int .i64 t0.k) ∧ W.cell? ⟨g, o + 1, none⟩ = some (.slice t0.a t0.l.length t0.c) ∧ W.cell? ⟨w.heap.size, 2, none⟩ = some (.int .i64 x.t.k) ∧ W.cell? ⟨w.heap.size, 3, none⟩ = some (.slice x.t.a x.t.l.length x.t.c))
      (first | exact HK.out _ (Kept.of_below hbn) | exact HK.out _ (((Kept.of_below hbn).trans setR_kept).trans setR_kept) | fail)
      (first
        | (go_at_call 91; refine (HC0.out _ hbn).mono ?_; rintro e w2 ⟨rfl, h2⟩; replace r0d := cell_later h2 r0d; replace r1d := cell_later h2 r1d; replace f0d := (h2.frozen (p := ⟨w.heap.size + 1, 0, none⟩) usd).trans f0d; replace f1d := (h2.frozen (p := ⟨w.heap.size + 1, 1, none⟩) usd).trans f1d; replace usd : w.heap.size + 1 < w2.heap.size := World.block_lt_of_cell? _ _ r0d; replace hbn := hbn.trans (h2.mono hbn.size); clear HC0)
        | fail)
    have HN : Hid _ := HE.out _ hbn
    clear HE
    go_wp2_with fail
    obtain ⟨e1, e2, e3⟩ := HN.out
    refine bodyPost_ret (v := .tuple #[.agg #[.int .i64 x.t.k, .slice x.t.a x.t.l.length x.t.c], .bool b0]) ?_ rfl e1
    simp [results, Tryz.results57, go_sem, e2, e3]
end Go.Proofs.YtnddkmccagiclabGreatDoor
