/-
  What the call of ref's withCasts answers at a good term that has a type.
-/
import Derived.Test.YtnddkmccagiclabGreatDoorLotdf4e4ec170
import Derived.Test.YtnddkmccagiclabGreatDoorLot3973bc6846
namespace Go.Proofs.YtnddkmccagiclabGreatDoor
open Go.RowKit
theorem readL_at {takes : List Ty} : ∀ (l : List Tm) (c : Nat) (ps : List (Nat × Tm × Ty)), readL l takes c = some ps → ∀ j (h : j < l.length) (h' : j < ps.length), ps[j].1 = c + ((l.take j).map Tm.sz).sum ∧ readS l[j] takes ps[j].1 = some (ps[j].2.1, ps[j].2.2)
  | [], c, ps, _, j, h, _ => by simp at h
  | x :: r, c, ps, hr, j, h, h' => by
    obtain ⟨y, i, q, h1, h2, rfl⟩ := readL_cons hr
    match j with
    | 0 => exact ⟨by simp, h1⟩
    | j + 1 =>
      have := readL_at r _ q h2 j (by simpa using h) (by simpa using h')
      refine ⟨?_, by simpa using this.2⟩
      simp only [List.getElem_cons_succ, List.take_succ_cons, List.map_cons, List.sum_cons]
      rw [this.1]
      omega
theorem castL_at : ∀ (ps : List (Nat × Tm × Ty)) (us : List Ty) (j : Nat) (h : j < ps.length) (h' : j < us.length) (h2 : j < (castL ps us).length), (castL ps us)[j] = castY (ps[j].1 : Int) ps[j].2.1 ps[j].2.2 us[j]
  | [], _, j, h, _, _ => by simp at h
  | p :: r, [], j, _, h', _ => by simp at h'
  | p :: r, u :: s, 0, _, _, _ => rfl
  | p :: r, u :: s, j + 1, h, h', h2 => by
    simp only [castL, List.getElem_cons_succ]
    exact castL_at r s j (by simpa using h) (by simpa using h') (by simpa [castL] using h2)
set_option maxRecDepth 20000 in
set_option maxHeartbeats 8000000 in
theorem cast_step (Q : Nat → Prop) (x : TT) (E : Tr) (c : Nat) (w : World) (hx : x.In w) (hE : E.In w) (hok : okTm x.tm E.l.length) (hEg : ∀ u, u ∈ E.l → goodT 4 u = true) (hsz : x.sz + E.l.length ≤ 900) (hcs : c + x.sz ≤ 900) (xb : x.Bl Q) (eb : E.Bl Q) (nw : ∀ b, w.heap.size ≤ b → Q b)
    (y0 : Tm) (ty0 : Ty) (hrd : readS x.tm (E.l.map Tr.ty) c = some (y0, ty0))
    (ih : Hid (∀ y, y ∈ x.l → ∀ (Q' : Nat → Prop) (E' : Tr) (c' : Nat) (W : World), y.In W → E'.In W → okTm y.tm E'.l.length → (∀ u, u ∈ E'.l → goodT 4 u = true) → y.sz + E'.l.length ≤ 900 → c' + y.sz ≤ 900 → y.Bl Q' → E'.Bl Q' → (∀ b, W.heap.size ≤ b → Q' b) → ∀ (y1 : Tm) (ty1 : Ty), readS y.tm (E'.l.map Tr.ty) c' = some (y1, ty1) →
      Calls Tryz.prog 58 #[.agg #[.int .i64 y.k, .int .i64 y.n, .int .i64 y.t.k, .slice y.t.a y.t.l.length y.t.c, .int .i64 y.f.k, .slice y.f.a y.f.l.length y.f.c, .slice y.a y.l.length y.c], .slice E'.a E'.l.length E'.c, .int .i64 (c' : Int)] W (WcPost Q' y1 W))) :
    Calls Tryz.prog 58 #[.agg #[.int .i64 x.k, .int .i64 x.n, .int .i64 x.t.k, .slice x.t.a x.t.l.length x.t.c, .int .i64 x.f.k, .slice x.f.a x.f.l.length x.f.c, .slice x.a x.l.length x.c], .slice E.a E.l.length E.c, .int .i64 (c : Int)] w (WcPost Q y0 w) := by
  obtain ⟨i0, hi0, hz0, hz1, hz2⟩ := info_parts Tryz.info24s
  obtain ⟨hk1, hk9, hlp, hfa, htg, htn, hrn, hpt⟩ : 1 ≤ x.k ∧ x.k ≤ 9 ∧ x.l.length = partsOf x.k ∧ isAnyY x.f.ty = true ∧ goodT 4 x.t = true ∧ (tells x.k = false → isAnyY x.t.ty = true) ∧ (x.k = 1 → 0 ≤ x.n ∧ x.n < (E.l.length : Int)) ∧ ∀ y, y ∈ x.l → okTm y.tm (if x.k = 7 then E.l.length + 1 else E.l.length) := by
    obtain ⟨k, n, t, f, a, c, l⟩ := x
    rw [TT.tm_mk] at hok
    obtain ⟨h0, h1⟩ := okTm_mk.1 hok
    obtain ⟨a1, a2, a3, a4, a5, a6, a7⟩ := okTop_all h0
    exact ⟨a1, a2, by simpa using a3, a4, by rw [goodT_eq]; exact a5, a6, a7, fun y hy => h1 _ (List.mem_map.2 ⟨y, hy, rfl⟩)⟩
  have hll : x.l.length ≤ 3 := by rw [hlp]; unfold partsOf; split <;> (try split) <;> (try split) <;> omega
  obtain ⟨ps, us, HRD⟩ : ∃ (ps : List (Nat × Tm × Ty)) (us : List Ty), Hid (readL (x.l.map TT.tm) (takesIn x.k x.t.ty (E.l.map Tr.ty)) (c + 1) = some ps ∧ ruleY x.k x.n x.t.ty (ps.map fun p => p.2.2) (takesIn x.k x.t.ty (E.l.map Tr.ty)) = some (ty0, us) ∧ y0 = ⟨x.k, x.n, x.t.ty, anyY, castL ps us⟩) := by
    obtain ⟨k, n, t, f, a, cc, l⟩ := x
    rw [TT.tm_mk] at hrd
    obtain ⟨ps, us, h1, h2, _, h4⟩ := readS_some hrd
    exact ⟨ps, us, h1, h2, h4⟩
  obtain ⟨W1, hW1⟩ : ∃ W, W = ((w.alloc (.cells #[.int .i64 x.k, .int .i64 x.n, .int .i64 x.t.k, .slice x.t.a x.t.l.length x.t.c, .int .i64 x.f.k, .slice x.f.a x.f.l.length x.f.c, .slice x.a x.l.length x.c] 27)).alloc (.cells #[.int .i64 0, .int .i64 0, .int .i64 0, .slice none 0 0, .int .i64 0, .slice none 0 0, .slice none 0 0] 27)).alloc (.cells #[.int .i64 1, .slice none 0 0] 24) := ⟨_, rfl⟩
  have hB1 : WB x w W1 := by
    refine ⟨?_, ⟨⟨?_, ?_, ?_, ?_, ?_, ?_, ?_⟩, fun i hi => ?_⟩, ⟨⟨?_, ?_, ?_, ?_, ?_, ?_, ?_⟩, ?_, ?_, ?_, ?_, ?_, ?_, ?_⟩, ?_, ?_⟩
    · rw [hW1]
      exact (((Below.refl _ _).alloc (Nat.le_refl _) _).alloc (by simp) _).alloc (by simp; omega) _
    all_goals (rw [hW1]; simp [go_sem])
  have HB1 : Hid (WB x w W1) := hB1
  have HX : Hid (x.In w ∧ E.In w ∧ x.Bl Q ∧ E.Bl Q ∧ (∀ b, w.heap.size ≤ b → Q b)) := ⟨hx, hE, xb, eb, nw⟩
  have HF : Hid (goodT 4 x.t = true ∧ (∀ u, u ∈ E.l → goodT 4 u = true) ∧ x.sz + E.l.length ≤ 900 ∧ (∀ y, y ∈ x.l → okTm y.tm (if x.k = 7 then E.l.length + 1 else E.l.length)) ∧ x.l.length = partsOf x.k ∧ c + x.sz ≤ 900 ∧ isAnyY x.f.ty = true) := ⟨htg, hEg, hsz, hpt, hlp, hcs, hfa⟩
  obtain ⟨Q1, hQ1⟩ : ∃ Q1 : Nat → Prop, Q1 = fun b => Q b ∧ b ≠ w.heap.size + 1 ∧ b ≠ w.heap.size := ⟨_, rfl⟩
  have HQ1 : Hid (x.Bl Q1 ∧ E.Bl Q1 ∧ (∀ b, w.heap.size + 1 + 1 ≤ b → Q1 b) ∧ ∀ b, Q1 b → Q b ∧ b ≠ w.heap.size + 1 ∧ b ≠ w.heap.size) := by
    subst hQ1
    exact ⟨(xb.and hx.bl).mono fun b h => ⟨h.1, by omega, by omega⟩, (eb.and hE.bl).mono fun b h => ⟨h.1, by omega, by omega⟩, fun b h => ⟨nw b (by omega), by omega, by omega⟩, fun b h => h⟩
  obtain ⟨q0, q1, q2, q3, q4, q5, q6⟩ := hB1.box.at7
  simp only [Nat.zero_add] at q0 q1 q2 q3 q4 q5 q6
  have ls : w.heap.size < W1.heap.size := World.block_lt_of_cell? _ _ q0
  have hE1 := hE.below hB1.low
  have hel : E.l.length ≤ 900 := by omega
  clear hok hEg hsz hpt hfa htg htn hrn xb eb nw hx hE hB1 hQ1 hlp hcs hrd
  go_enter Tryz.func58, Tryz.ntmps58
  go_upto_region 3 with fail
  rw [← hW1]
  clear hW1
  go_upto_if 25 with fail
  go_cut [8] (fun s8 wx => ∃ N : Tr, s8 = .slice N.a N.l.length N.c ∧ Hid (N.l.map Tr.ty = takesIn x.k x.t.ty (E.l.map Tr.ty) ∧ N.In wx ∧ N.Bl Q1 ∧ Below W1.heap.size W1 wx ∧ (∀ u, u ∈ N.l → goodT 4 u = true)))
  case first =>
    by_cases hk0 : x.k = 7
    · have HK : Hid (x.k = 7) := hk0
      have hk' : (x.k == 7) = true := by simpa using hk0
      clear hk0
      rw [hk']
      clear hk'
      have hb0 : Below W1.heap.size W1 (W1.alloc (.cells #[.int .i64 x.t.k, .slice x.t.a x.t.l.length x.t.c] 24)) := (Below.refl _ _).alloc (Nat.le_refl _) _
      have hown : (W1.alloc (.cells #[.int .i64 x.t.k, .slice x.t.a x.t.l.length x.t.c] 24)).ownsRow W1.heap.size 24 2 (.slice (some ⟨W1.heap.size, 0, none⟩) 1 1) 1 (cellsOf [x.t]) := by
        have := World.ownsRow_lit (base := W1.heap.size) (e := 24) (size := 2) W1 #[.int .i64 x.t.k, .slice x.t.a x.t.l.length x.t.c] 1 (by simp) (by unfold maxLen; omega) (by simp)
        simpa [cellsOf] using this
      have ht1 : x.t.In W1 := (HX.out.1.below HB1.out.low).t
      by_cases h0 : E.l.length = 0
      · have hE0 : E.l = [] := List.eq_nil_of_length_eq_zero h0
        have HN : Hid ([x.t].map Tr.ty = takesIn x.k x.t.ty (E.l.map Tr.ty) ∧ (Tr.mk 0 (some ⟨W1.heap.size, 0, none⟩) 1 [x.t]).In (W1.alloc (.cells #[.int .i64 x.t.k, .slice x.t.a x.t.l.length x.t.c] 24)) ∧ (Tr.mk 0 (some ⟨W1.heap.size, 0, none⟩) 1 [x.t]).Bl Q1 ∧ Below W1.heap.size W1 (W1.alloc (.cells #[.int .i64 x.t.k, .slice x.t.a x.t.l.length x.t.c] 24)) ∧ (∀ u, u ∈ [x.t] → goodT 4 u = true)) := by
          refine ⟨by rw [takesIn, if_pos HK.out, hE0]; rfl, tr_of_row hown rfl (fun t ht => by have : t = x.t := (by simpa using ht); subst this; exact ht1.below hb0) 0, ?_, hb0, fun u hu => by have : u = x.t := (by simpa using hu); subst this; exact HF.out.1⟩
          exact bl_one (HQ1.out.2.2.1 _ (by have := HB1.out.lt; omega)) HQ1.out.1.t
        clear hown hb0 ht1 hE1 hE0
        have H0 : Hid (E.l.length = 0) := h0
        clear h0
        go_wp2_with (at_builtin; refine wpList_append_void rfl _ _ _ rfl 24 i0 Tryz.underlying22 hi0 W1.heap.size 1 1 rfl E.a E.c (by show Value.slice E.a E.l.length E.c = _; rw [H0.out]) (by omega) ?_)
        go_meet
        case rel => exact ⟨⟨0, some ⟨W1.heap.size, 0, none⟩, 1, [x.t]⟩, rfl, HN⟩
      · obtain ⟨b, o, ea, _⟩ := hE1.part 0 (by omega)
        have hE2 := hE1.below hb0
        have hnews := fun j u h => cellsOf_news hE2 ea j u h
        have HIN : Hid (∀ t, t ∈ x.t :: E.l → t.In (W1.alloc (.cells #[.int .i64 x.t.k, .slice x.t.a x.t.l.length x.t.c] 24)) ∧ t.Bl (· < W1.heap.size)) := by
          intro t ht
          rcases List.mem_cons.1 ht with rfl | ht
          · exact ⟨ht1.below hb0, ht1.bl⟩
          · obtain ⟨q, hq, rfl⟩ := List.getElem_of_mem ht
            obtain ⟨_, _, _, _, _, hi⟩ := hE1.part q hq
            exact ⟨hi.below hb0, hi.bl⟩
        have hm : 0 < E.l.length := by omega
        have HB : Hid (Below W1.heap.size W1 (W1.alloc (.cells #[.int .i64 x.t.k, .slice x.t.a x.t.l.length x.t.c] 24))) := hb0
        have HEA : Hid (E.a = some ⟨b, o, none⟩) := ea
        clear hE1 hE2 ea hb0 ht1
        go_wp2_with (at_builtin; refine wpList_append_lies _ rfl _ _ _ rfl W1.heap.size 24 i0 _ 2 32 Tryz.underlying22 hi0 hz0 hz1 hz2 rfl (by omega) (.slice (some ⟨W1.heap.size, 0, none⟩) 1 1) 1 (cellsOf [x.t]) rfl hown ⟨b, o, none⟩ E.l.length E.c (cellsOf E.l) (by show Value.slice E.a E.l.length E.c = _; rw [HEA.out]) (cellsOf_length _) hnews (cellsOf_one _) hm (by unfold maxLen; omega) (by omega) (by simp) (W1.heap.size + 1) (by simp) ?_; intro gg cap1 w3 hown1 hgrow hat hlt3)
        have hg : W1.heap.size ≤ gg := by rcases hat with h | h
                                          · simp [Value.ownBlock] at h; omega
                                          · omega
        have hsz := hgrow.size
        have hlow : Below W1.heap.size (W1.alloc (.cells #[.int .i64 x.t.k, .slice x.t.a x.t.l.length x.t.c] 24)) w3 :=
          ⟨hgrow.os, hgrow.tape, hgrow.output, hgrow.size, fun q hq => hgrow.block q (by simp; omega) (by simp [Value.ownBlock]; omega)⟩
        have HN : Hid ((x.t :: E.l).map Tr.ty = takesIn x.k x.t.ty (E.l.map Tr.ty) ∧ (Tr.mk 0 (some ⟨gg, 0, none⟩) cap1 (x.t :: E.l)).In w3 ∧ (Tr.mk 0 (some ⟨gg, 0, none⟩) cap1 (x.t :: E.l)).Bl Q1 ∧ Below W1.heap.size W1 w3 ∧ (∀ u, u ∈ x.t :: E.l → goodT 4 u = true)) := by
          refine ⟨by rw [takesIn, if_pos HK.out]; rfl, tr_of_row (n := 1 + E.l.length) (l := x.t :: E.l) (by simpa [cellsOf] using hown1) (by simp; omega) (fun t ht => ?_) 0, ?_, HB.out.trans hlow, fun u hu => ?_⟩
          · obtain ⟨h1, h2⟩ := HIN.out t ht
            exact Tr.In.congr (P := fun q => q < W1.heap.size) (fun q hq o => hlow.cell (p := ⟨q, o, none⟩) hq) h2 h1
          · refine Tr.Bl_mk.2 ⟨fun _ y hy => by cases hy; exact HQ1.out.2.2.1 _ (by have := HB1.out.lt; show _ ≤ gg; omega), fun t ht => ?_⟩
            rcases List.mem_cons.1 ht with rfl | ht
            · exact HQ1.out.1.t
            · have h := HQ1.out.2.1
              obtain ⟨k, a, cc, l⟩ := E
              exact (Tr.Bl_mk.1 h).2 t ht
          · rcases List.mem_cons.1 hu with rfl | hu
            · exact HF.out.1
            · exact HF.out.2.1 u hu
        clear hown1 hgrow hat hlt3 hlow hown hnews HIN HB
        go_wp2_with fail
        go_meet
        case rel => exact ⟨⟨0, some ⟨gg, 0, none⟩, cap1, x.t :: E.l⟩, by simp [Nat.add_comm], HN⟩
    · have HK : Hid (x.k ≠ 7) := hk0
      have hk' : (x.k == 7) = false := by simpa using hk0
      clear hk0
      rw [hk']
      clear hk'
      have HN : Hid (E.l.map Tr.ty = takesIn x.k x.t.ty (E.l.map Tr.ty) ∧ E.In W1 ∧ E.Bl Q1 ∧ Below W1.heap.size W1 W1 ∧ (∀ u, u ∈ E.l → goodT 4 u = true)) := ⟨by rw [takesIn, if_neg HK.out], hE1, HQ1.out.2.1, Below.refl _ _, HF.out.2.1⟩
      go_wp2_with fail
      go_meet
      case rel => exact ⟨E, rfl, HN⟩
  case rest =>
  obtain ⟨N, rfl, HN⟩ := hcut
  clear q0 q1 q2 q3 q4 q5 q6 ls hE1 hi0 hz0 hz1 hz2
  have HBV : Hid (WB x w wc) := HB1.out.below HN.out.2.2.2.1
  obtain ⟨tk, htk⟩ : ∃ tk, tk = takesIn x.k x.t.ty (E.l.map Tr.ty) := ⟨_, rfl⟩
  have HTK : Hid (tk = takesIn x.k x.t.ty (E.l.map Tr.ty)) := htk
  have HNL : Hid (N.l.map Tr.ty = tk ∧ N.In wc ∧ N.Bl Q1 ∧ (∀ u, u ∈ N.l → goodT 4 u = true) ∧ N.l.length = (if x.k = 7 then E.l.length + 1 else E.l.length)) := by
    refine ⟨htk ▸ HN.out.1, HN.out.2.1, HN.out.2.2.1, HN.out.2.2.2.2, ?_⟩
    have := congrArg List.length HN.out.1
    rw [List.length_map, takesIn_length, List.length_map] at this
    exact this
  rw [← htk] at HRD
  have HPS : Hid (ps.length = x.l.length ∧ ∀ j (h : j < x.l.length) (h' : j < ps.length), ps[j].1 = c + 1 + ((x.l.take j).map TT.sz).sum ∧ readS x.l[j].tm tk ps[j].1 = some (ps[j].2.1, ps[j].2.2) ∧ typeS x.l[j].tm tk = some ps[j].2.2) := by
    refine ⟨by have := readL_length _ _ _ _ HRD.out.1; simpa using this, fun j h h' => ?_⟩
    obtain ⟨h1, h2⟩ := readL_at _ _ _ HRD.out.1 j (by simpa using h) h'
    simp only [List.getElem_map] at h2
    refine ⟨?_, h2, ?_⟩
    · rw [h1, ← List.map_take, List.map_map]
      congr 2
      exact List.map_congr_left fun z _ => z.sz_tm.symm
    · rw [← read_type _ _ ps[j].1, h2]
      rfl
  have HSZ : Hid (∀ y, y ∈ x.l → y.sz + 1 ≤ x.sz) := by
    intro y hy
    have h1 := x.sz_eq
    have e : y.tm.sz ≤ ((x.l.map TT.tm).map Tm.sz).sum := sz_mem _ _ (List.mem_map.2 ⟨_, hy, rfl⟩)
    have e2 : (x.l.map TT.tm).map Tm.sz = x.l.map TT.sz := by rw [List.map_map]; exact List.map_congr_left fun z _ => z.sz_tm.symm
    rw [e2, ← TT.sz_tm] at e
    omega
  clear htk HN
  obtain ⟨V0, hV0⟩ : ∃ V, V = wc := ⟨_, rfl⟩
  subst hV0
  apply_assumption
  refine wp_seq_k fun Kx hKx => ?_
  go_cut [9, 10] (fun s9 s10 wx => s9 = .slice none 0 0 ∧ s10 = .slice none 0 0 ∧ wx = V0)
  case first =>
    go_wp2_with fail
    go_meet
    case rel => exact ⟨rfl, rfl, rfl⟩
  obtain ⟨h9, h10, hwc⟩ := hcut
  subst h9 h10
  rw [hwc]
  clear hwc
  apply_assumption
  refine wp_seq_k fun Ky hKy => ?_
  go_cut [9, 10] (fun s9 s10 wx => ∃ (vh vw : Value) (ts : List Tr), vh = s9 ∧ vw = s10 ∧ Hid (T2 Q1 V0 vh vw ts ts wx ∧ ts.length = x.l.length ∧ (∀ q (h : q < ts.length) (h' : q < ps.length), ts[q].ty = ps[q].2.2 ∧ goodT 904 ts[q] = true)))
  case first =>
    obtain ⟨i0, hi0, hz0, hz1, hz2⟩ := info_parts Tryz.info24s
    have q6 := HBV.out.box.at7.c6
    simp only [Nat.zero_add] at q6
    have ls := HBV.out.lt
    have hxc : x.In V0 := HX.out.1.below HBV.out.low
    go_wp2_with fail
    go_loopg [9, 10, 34] x.l.length (fun g s9 s10 i wr => ∃ (vh vw : Value) (j : Nat) (ts : List Tr), vh = s9 ∧ vw = s10 ∧ j ≤ x.l.length ∧ g = x.l.length - j ∧ i = .int .i64 (j : Int) ∧ Hid (T2 Q1 V0 vh vw ts ts wr ∧ ts.length = j ∧ ∀ q (h : q < ts.length) (h' : q < ps.length), ts[q].ty = ps[q].2.2 ∧ goodT 904 ts[q] = true))
    case atStart => exact ⟨_, _, 0, [], rfl, rfl, Nat.zero_le _, rfl, rfl, T2.start _ _, rfl, fun q h => by simp at h⟩
    case round =>
      obtain ⟨vh, vw, j, ts, hvh, hvw, hj, hg, rfl, HR⟩ := hrel
      subst hvh hvw
      have HG : Hid (gk = x.l.length - j) := hg
      clear hg
      by_cases hlt : j < x.l.length
      · obtain ⟨b, o, ea, ⟨x0, x1, x2, x3, x4, x5, x6⟩, hxj⟩ := hxc.part j hlt
        have hbwr := HR.out.1.low
        replace x0 := cell_later hbwr x0
        replace x1 := cell_later hbwr x1
        replace x2 := cell_later hbwr x2
        replace x3 := cell_later hbwr x3
        replace x4 := cell_later hbwr x4
        replace x5 := cell_later hbwr x5
        replace x6 := cell_later hbwr x6
        obtain ⟨y, hy⟩ : ∃ y, y = x.l[j] := ⟨_, rfl⟩
        rw [← hy] at x0 x1 x2 x3 x4 x5 x6 hxj
        have hym : y ∈ x.l := by rw [hy]; exact List.getElem_mem hlt
        have HY : Hid (y = x.l[j] ∧ y ∈ x.l) := ⟨hy, hym⟩
        have i1 : (j : Int) < (x.l.length : Int) := by omega
        have i2 : (0 : Int) ≤ (j : Int) := by omega
        have lb : b < wr.heap.size := World.block_lt_of_cell? _ _ x0
        have hovh : ∀ k, vh.ownBlock = some k → V0.heap.size ≤ k ∧ k < wr.heap.size := HR.out.1.oh.lt
        have hovw : ∀ k, vw.ownBlock = some k → V0.heap.size ≤ k ∧ k < wr.heap.size := HR.out.1.ow.lt
        have hb1 : Below wr.heap.size wr (wr.alloc (.cells #[.int .i64 y.k, .int .i64 y.n, .int .i64 y.t.k, .slice y.t.a y.t.l.length y.t.c, .int .i64 y.f.k, .slice y.f.a y.f.l.length y.f.c, .slice y.a y.l.length y.c] 27)) := (Below.refl _ _).alloc (Nat.le_refl _) _
        have hbx : Below V0.heap.size V0 (wr.alloc (.cells #[.int .i64 y.k, .int .i64 y.n, .int .i64 y.t.k, .slice y.t.a y.t.l.length y.t.c, .int .i64 y.f.k, .slice y.f.a y.f.l.length y.f.c, .slice y.a y.l.length y.c] 27)) := hbwr.trans (hb1.mono hbwr.size)
        have HI : Hid (Calls Tryz.prog 57 #[.agg #[.int .i64 y.k, .int .i64 y.n, .int .i64 y.t.k, .slice y.t.a y.t.l.length y.t.c, .int .i64 y.f.k, .slice y.f.a y.f.l.length y.f.c, .slice y.a y.l.length y.c], .slice N.a N.l.length N.c] (wr.alloc (.cells #[.int .i64 y.k, .int .i64 y.n, .int .i64 y.t.k, .slice y.t.a y.t.l.length y.t.c, .int .i64 y.f.k, .slice y.f.a y.f.l.length y.f.c, .slice y.a y.l.length y.c] 27)) (TyPost (fun b => Q1 b ∧ some b ≠ vh.ownBlock ∧ some b ≠ vw.ownBlock) (typeS y.tm tk) (wr.alloc (.cells #[.int .i64 y.k, .int .i64 y.n, .int .i64 y.t.k, .slice y.t.a y.t.l.length y.t.c, .int .i64 y.f.k, .slice y.f.a y.f.l.length y.f.c, .slice y.a y.l.length y.c] 27)))) := by
          have hnl := HNL.out
          rw [← hnl.1]
          have hys := HSZ.out y hym
          refine type_any y.sz y (Nat.le_refl _) _ N _ (hxj.below hbx) (hnl.2.1.below hbx) (by rw [hnl.2.2.2.2]; exact HF.out.2.2.2.1 y hym) hnl.2.2.2.1 ?_ ?_ ?_ ?_
          · have := HF.out.2.2.1
            rw [hnl.2.2.2.2]
            split <;> omega
          · have h1 : y.Bl Q1 := HQ1.out.1.mem hym
            exact (h1.and hxj.bl).mono fun b hb => ⟨hb.1, fun e => by have := (hovh b e.symm).1; omega, fun e => by have := (hovw b e.symm).1; omega⟩
          · exact (hnl.2.2.1.and hnl.2.1.bl).mono fun b hb => ⟨hb.1, fun e => by have := (hovh b e.symm).1; omega, fun e => by have := (hovw b e.symm).1; omega⟩
          · intro b hb
            simp at hb
            exact ⟨HQ1.out.2.2.1 b (by have := hbwr.size; omega), fun e => by have := (hovh b e.symm).2; omega, fun e => by have := (hovw b e.symm).2; omega⟩
        have HXA : Hid (x.a = some ⟨b, o, none⟩) := ea
        rw [ea]
        clear ea hxj hy hym
        go_wp2_with fail
        refine HI.out.mono ?_
        rintro e w2 ⟨t, bb, rfl, hbb, hty, hin, hbl, hb2⟩
        have hb12 : Below wr.heap.size wr w2 := hb1.trans (hb2.mono hb1.size)
        have hpj : j < ps.length := by have := HPS.out.1; omega
        have HNEW : Hid (t.ty = ps[j].2.2 ∧ goodT 904 t = true) := by
          have h0 := (HPS.out.2 j hlt hpj).2.2
          rw [← HY.out.1] at h0
          have ht := hty _ h0
          refine ⟨ht, ?_⟩
          rw [goodT_eq, ht]
          have hnl := HNL.out
          have hyk := HF.out.2.2.2.1 y HY.out.2
          have := type_good (by rw [← hnl.1, List.length_map, hnl.2.2.2.2]; exact hyk) (by intro u hu; rw [← hnl.1] at hu; obtain ⟨z, hz, rfl⟩ := List.mem_map.1 hu; rw [← goodT_eq]; exact hnl.2.2.2.1 z hz) h0
          refine goodY_more _ _ _ ?_ this
          have h1 := HF.out.2.2.1
          have h2 := HSZ.out y HY.out.2
          rw [← TT.sz_tm]
          omega
        have HT2 : Hid (T2 Q1 V0 vh vw ts ts (w2.alloc (.cells #[.int .i64 t.k, .slice t.a t.l.length t.c] 24))) := HR.out.1.below (hb12.trans (((Below.refl _ _).alloc (Nat.le_refl _) _).mono hb12.size))
        have hs2 := hb12.size
        have hs0 := hbwr.size
        have nkh : some w2.heap.size ≠ vh.ownBlock := fun e => by have := (hovh _ e.symm).2; omega
        have nkw : some w2.heap.size ≠ vw.ownBlock := fun e => by have := (hovw _ e.symm).2; omega
        have nkh1 : some (w2.heap.size + 1) ≠ vh.ownBlock := fun e => by have := (hovh _ e.symm).2; omega
        have nkh2 : some (w2.heap.size + 1 + 1) ≠ vh.ownBlock := fun e => by have := (hovh _ e.symm).2; omega
        have hlen : ts.length ≤ 3 := by have := HR.out.2.1; omega
        have HS : Hid (∀ W : World, W.heap[w2.heap.size]? = (w2.alloc (.cells #[.int .i64 t.k, .slice t.a t.l.length t.c] 24)).heap[w2.heap.size]? → (fun W => W.cell? ⟨w2.heap.size, 0, none⟩ = some (.int .i64 t.k) ∧ W.cell? ⟨w2.heap.size, 1, none⟩ = some (.slice t.a t.l.length t.c)) W) := fun W h => by
          have h0 : (w2.alloc (.cells #[.int .i64 t.k, .slice t.a t.l.length t.c] 24)).cell? ⟨w2.heap.size, 0, none⟩ = some (.int .i64 t.k) := by simp [go_sem]
          have h1 : (w2.alloc (.cells #[.int .i64 t.k, .slice t.a t.l.length t.c] 24)).cell? ⟨w2.heap.size, 1, none⟩ = some (.slice t.a t.l.length t.c) := by simp [go_sem]
          exact ⟨(World.cell?_of_block (a := ⟨w2.heap.size, 0, none⟩) h).trans h0, (World.cell?_of_block (a := ⟨w2.heap.size, 1, none⟩) h).trans h1⟩
        have HSTEP : Hid (∀ (V1 w3 V2 w4 : World) (g1 cp1 g2 cp2 : Nat), Below (w2.alloc (.cells #[.int .i64 t.k, .slice t.a t.l.length t.c] 24)).heap.size (w2.alloc (.cells #[.int .i64 t.k, .slice t.a t.l.length t.c] 24)) V1 → w3.ownsRow V0.heap.size 24 2 (.slice (some ⟨g1, 0, none⟩) (ts.length + 1) cp1) (ts.length + 1) (cellsOf ts ++ [.int .i64 t.k, .slice t.a t.l.length t.c]) → V1.grownBy w3 vh.ownBlock → (vh.ownBlock = some g1 ∨ V1.heap.size ≤ g1) → g1 < w3.heap.size → Below w3.heap.size w3 V2 → w4.ownsRow V0.heap.size 24 2 (.slice (some ⟨g2, 0, none⟩) (ts.length + 1) cp2) (ts.length + 1) (cellsOf ts ++ [.int .i64 t.k, .slice t.a t.l.length t.c]) → V2.grownBy w4 vw.ownBlock → (vw.ownBlock = some g2 ∨ V2.heap.size ≤ g2) →
            (T2 Q1 V0 (.slice (some ⟨g1, 0, none⟩) (ts.length + 1) cp1) (.slice (some ⟨g2, 0, none⟩) (ts.length + 1) cp2) (ts ++ [t]) (ts ++ [t]) w4 ∧ (ts ++ [t]).length = j + 1 ∧ ∀ q (h : q < (ts ++ [t]).length) (h' : q < ps.length), (ts ++ [t])[q].ty = ps[q].2.2 ∧ goodT 904 (ts ++ [t])[q] = true)) := by
          intro V1 w3 V2 w4 g1 cp1 g2 cp2 a1 a2 a3 a4 a5 a6 a7 a8 a9
          have hba : Below w2.heap.size w2 (w2.alloc (.cells #[.int .i64 t.k, .slice t.a t.l.length t.c] 24)) := (Below.refl _ _).alloc (Nat.le_refl _) _
          refine ⟨(HT2.out.step a1 ((hin.below hba).below a1) hbl a2 a3 a4 a5 a6 a7 a8 a9).1, by have := HR.out.2.1; simp; omega, fun q h h' => ?_⟩
          have hl := HR.out.2.1
          by_cases hq : q < ts.length
          · rw [List.getElem_append_left hq]
            exact HR.out.2.2 q hq h'
          · have hqj : q = j := by simp at h; omega
            subst hqj
            rw [List.getElem_append_right (by omega)]
            simp only [show q - ts.length = 0 by omega, List.getElem_cons_zero]
            exact HNEW.out
        clear HI hbb hty hin hbl hb1 hbx hbwr x0 x1 x2 x3 x4 x5 x6 lb hovh hovw hb2 hb12 HR HNEW hpj
        have hb1 : Below (w2.alloc (.cells #[.int .i64 t.k, .slice t.a t.l.length t.c] 24)).heap.size (w2.alloc (.cells #[.int .i64 t.k, .slice t.a t.l.length t.c] 24)) ((w2.alloc (.cells #[.int .i64 t.k, .slice t.a t.l.length t.c] 24)).drew.alloc (.cells #[.int .i64 t.k, .slice t.a t.l.length t.c] 24)) := ((Below.refl (w2.alloc (.cells #[.int .i64 t.k, .slice t.a t.l.length t.c] 24)).heap.size (w2.alloc (.cells #[.int .i64 t.k, .slice t.a t.l.length t.c] 24))).drew).alloc (Nat.le_refl _) _
        have hb2 : Below (w2.alloc (.cells #[.int .i64 t.k, .slice t.a t.l.length t.c] 24)).heap.size (w2.alloc (.cells #[.int .i64 t.k, .slice t.a t.l.length t.c] 24)) (((w2.alloc (.cells #[.int .i64 t.k, .slice t.a t.l.length t.c] 24)).drew.alloc (.cells #[.int .i64 t.k, .slice t.a t.l.length t.c] 24)).alloc (.cells #[.int .i64 t.k, .slice t.a t.l.length t.c] 24)) := (((Below.refl (w2.alloc (.cells #[.int .i64 t.k, .slice t.a t.l.length t.c] 24)).heap.size (w2.alloc (.cells #[.int .i64 t.k, .slice t.a t.l.length t.c] 24))).drew).alloc (Nat.le_refl _) _).alloc (by simp) _
        have oh1 : ((w2.alloc (.cells #[.int .i64 t.k, .slice t.a t.l.length t.c] 24)).drew.alloc (.cells #[.int .i64 t.k, .slice t.a t.l.length t.c] 24)).ownsRow V0.heap.size 24 2 vh ts.length (cellsOf ts) := ownsRow_below HT2.out.oh hb1
        have oh2 : (((w2.alloc (.cells #[.int .i64 t.k, .slice t.a t.l.length t.c] 24)).drew.alloc (.cells #[.int .i64 t.k, .slice t.a t.l.length t.c] 24)).alloc (.cells #[.int .i64 t.k, .slice t.a t.l.length t.c] 24)).ownsRow V0.heap.size 24 2 vh ts.length (cellsOf ts) := ownsRow_below HT2.out.oh hb2
        have e1 : ((w2.alloc (.cells #[.int .i64 t.k, .slice t.a t.l.length t.c] 24)).drew.alloc (.cells #[.int .i64 t.k, .slice t.a t.l.length t.c] 24)).heap[w2.heap.size]? = (w2.alloc (.cells #[.int .i64 t.k, .slice t.a t.l.length t.c] 24)).heap[w2.heap.size]? := hb1.block _ (by simp)
        have e2 : (((w2.alloc (.cells #[.int .i64 t.k, .slice t.a t.l.length t.c] 24)).drew.alloc (.cells #[.int .i64 t.k, .slice t.a t.l.length t.c] 24)).alloc (.cells #[.int .i64 t.k, .slice t.a t.l.length t.c] 24)).heap[w2.heap.size]? = (w2.alloc (.cells #[.int .i64 t.k, .slice t.a t.l.length t.c] 24)).heap[w2.heap.size]? := hb2.block _ (by simp)
        have n1 : ((w2.alloc (.cells #[.int .i64 t.k, .slice t.a t.l.length t.c] 24)).drew.alloc (.cells #[.int .i64 t.k, .slice t.a t.l.length t.c] 24)).heap[w2.heap.size + 1]? = some (.cells #[.int .i64 t.k, .slice t.a t.l.length t.c] 24) := by have := heap_alloc_new (w2.alloc (.cells #[.int .i64 t.k, .slice t.a t.l.length t.c] 24)).drew (.cells #[.int .i64 t.k, .slice t.a t.l.length t.c] 24); simpa using this
        have n2a : (((w2.alloc (.cells #[.int .i64 t.k, .slice t.a t.l.length t.c] 24)).drew.alloc (.cells #[.int .i64 t.k, .slice t.a t.l.length t.c] 24)).alloc (.cells #[.int .i64 t.k, .slice t.a t.l.length t.c] 24)).heap[w2.heap.size + 1]? = some (.cells #[.int .i64 t.k, .slice t.a t.l.length t.c] 24) := by
          have := ((Below.refl ((w2.alloc (.cells #[.int .i64 t.k, .slice t.a t.l.length t.c] 24)).drew.alloc (.cells #[.int .i64 t.k, .slice t.a t.l.length t.c] 24)).heap.size ((w2.alloc (.cells #[.int .i64 t.k, .slice t.a t.l.length t.c] 24)).drew.alloc (.cells #[.int .i64 t.k, .slice t.a t.l.length t.c] 24))).alloc (Nat.le_refl _) (.cells #[.int .i64 t.k, .slice t.a t.l.length t.c] 24)).block (w2.heap.size + 1) (by simp)
          exact this.trans n1
        have n2b : (((w2.alloc (.cells #[.int .i64 t.k, .slice t.a t.l.length t.c] 24)).drew.alloc (.cells #[.int .i64 t.k, .slice t.a t.l.length t.c] 24)).alloc (.cells #[.int .i64 t.k, .slice t.a t.l.length t.c] 24)).heap[w2.heap.size + 1 + 1]? = some (.cells #[.int .i64 t.k, .slice t.a t.l.length t.c] 24) := by have := heap_alloc_new ((w2.alloc (.cells #[.int .i64 t.k, .slice t.a t.l.length t.c] 24)).drew.alloc (.cells #[.int .i64 t.k, .slice t.a t.l.length t.c] 24)) (.cells #[.int .i64 t.k, .slice t.a t.l.length t.c] 24); simpa using this
        go_upto_region 10 with fail
        refine wp_region_held_drew (S := fun W => W.cell? ⟨w2.heap.size, 0, none⟩ = some (.int .i64 t.k) ∧ W.cell? ⟨w2.heap.size, 1, none⟩ = some (.slice t.a t.l.length t.c)) (by kernel_rfl) (HS.out _ rfl) (fun hHeld => ?_)
        refine takeH (i := 0) (v := ?_) rfl (by kernel_rfl) (by kernel_rfl) (by kernel_rfl) (fun _ _ _ h => h) (Or.inl ⟨by rfl, ?_⟩) hHeld ?_; rotate_left; (focus (intro w' hSw; (try dsimp only at hSw); go_split_ands; first | (go_simp; done) | (go_simp; with_reducible rfl))); simp only [Act.put, List.setIfInBounds_toArray, List.set_cons_zero, List.set_cons_succ]
        refine takeH (i := 1) (v := ?_) rfl (by kernel_rfl) (by kernel_rfl) (by kernel_rfl) (fun _ _ _ h => h) (Or.inl ⟨by rfl, ?_⟩) hHeld ?_; rotate_left; (focus (intro w' hSw; (try dsimp only at hSw); go_split_ands; first | (go_simp; done) | (go_simp; with_reducible rfl))); simp only [Act.put, List.setIfInBounds_toArray, List.set_cons_zero, List.set_cons_succ]
        refine takeH (i := 4) (v := ?_) rfl (by kernel_rfl) (by kernel_rfl) (by kernel_rfl) (fun _ _ _ h => h) (Or.inl ⟨by rfl, ?_⟩) hHeld ?_; rotate_left; (focus (intro w' hSw; (try dsimp only at hSw); go_split_ands; first | (go_simp; done) | (go_simp; with_reducible rfl))); simp only [Act.put, List.setIfInBounds_toArray, List.set_cons_zero, List.set_cons_succ]
        refine takeH (i := 5) (v := ?_) rfl (by kernel_rfl) (by kernel_rfl) (by kernel_rfl) (fun _ _ _ h => h) (Or.inl ⟨by rfl, ?_⟩) hHeld ?_; rotate_left; (focus (intro w' hSw; (try dsimp only at hSw); go_split_ands; first | (go_simp; done) | (go_simp; with_reducible rfl))); simp only [Act.put, List.setIfInBounds_toArray, List.set_cons_zero, List.set_cons_succ]
        refine twoH (i := 2) (j := 6) rfl rfl (by kernel_rfl) (fun K hK => ?_) (fun K hK => ?_)
        · go_simp
          refine hK.out _ _ (HS.out _ e1) (fun hHeld => ?_)
          clear hK K
          refine twoH (i := 3) (j := 6) rfl rfl (by kernel_rfl) (fun K hK => ?_) (fun K hK => ?_)
          · clear e2 n2a n2b oh2 hb2 nkh1 nkh2
            refine step_append_lies _ (by rfl) _ _ _ (by rfl) V0.heap.size 24 i0 _ 2 32 Tryz.underlying22 hi0 hz0 hz1 hz2 rfl (by omega) vh ts.length (cellsOf ts) (by rfl) oh1 ⟨w2.heap.size + 1, 0, none⟩ 1 1 [.int .i64 t.k, .slice t.a t.l.length t.c] (by rfl) (by rfl) (World.news_of_block (cs := #[.int .i64 t.k, .slice t.a t.l.length t.c]) (t := 24) (fr := (0, 0)) n1) (by simp [Value.oneCell']) (by omega) (by unfold maxLen; omega) (by omega) (by first | omega | (simp; omega)) (w2.heap.size + 1 + 1) (by simp) ?_
            intro g1 cp1 w3 hown1 hgrow1 hat1 hlt1
            have hsw3 := hgrow1.size
            (try simp at hsw3)
            refine hK.out _ _ (HS.out _ ((hgrow1.block _ (by first | omega | (simp; done) | (simp; omega)) nkh).trans e1)) (fun hHeld => ?_)
            clear hK K
            refine oneH (i := 6) rfl (by kernel_rfl) (fun K hK => ?_)
            go_simp
            refine hK.out _ _ (HS.out _ (((Below.refl w3.heap.size w3).alloc (Nat.le_refl _) _).block _ (by first | omega | (simp; done) | (simp; omega)) |>.trans ((hgrow1.block _ (by first | omega | (simp; done) | (simp; omega)) nkh).trans e1))) (fun hHeld => ?_)
            clear hK K
            refine oneH (i := 7) rfl (by kernel_rfl) (fun K hK => ?_)
            refine step_append_lies _ (by rfl) _ _ _ (by rfl) V0.heap.size 24 i0 _ 2 32 Tryz.underlying22 hi0 hz0 hz1 hz2 rfl (by omega) vw ts.length (cellsOf ts) (by rfl) (ownsRow_below (HT2.out.other hb1 hgrow1) ((Below.refl _ _).alloc (Nat.le_refl _) (.cells #[.int .i64 t.k, .slice t.a t.l.length t.c] 24))) ⟨w3.heap.size, 0, none⟩ 1 1 [.int .i64 t.k, .slice t.a t.l.length t.c] (by rfl) (by rfl) (World.news_of_block (cs := #[.int .i64 t.k, .slice t.a t.l.length t.c]) (t := 24) (fr := (0, 0)) (heap_alloc_new w3 (.cells #[.int .i64 t.k, .slice t.a t.l.length t.c] 24))) (by simp [Value.oneCell']) (by omega) (by unfold maxLen; omega) (by omega) (by first | omega | (simp; omega)) (w3.heap.size + 1) (by simp) ?_
            intro g2 cp2 w4 hown2 hgrow2 hat2 hlt2
            have hsw4 := hgrow2.size
            (try simp at hsw4)
            refine hK.out _ _ (HS.out _ ((hgrow2.block _ (by first | omega | (simp; done) | (simp; omega)) nkw).trans (((Below.refl w3.heap.size w3).alloc (Nat.le_refl _) _).block _ (by first | omega | (simp; done) | (simp; omega)) |>.trans ((hgrow1.block _ (by first | omega | (simp; done) | (simp; omega)) nkh).trans e1)))) (fun hHeld => ?_)
            clear hK K
            refine takeH (i := 8) (v := ?_) rfl (by kernel_rfl) (by kernel_rfl) (by kernel_rfl) (fun _ _ _ h => h) (Or.inl ⟨by rfl, ?_⟩) hHeld ?_; rotate_left; (focus (intro w' hSw; (try dsimp only at hSw); go_split_ands; first | (go_simp; done) | (go_simp; with_reducible rfl))); simp only [Act.put, List.setIfInBounds_toArray, List.set_cons_zero, List.set_cons_succ]
            refine takeH (i := 9) (v := ?_) rfl (by kernel_rfl) (by kernel_rfl) (by kernel_rfl) (fun _ _ _ h => h) (Or.inl ⟨by rfl, ?_⟩) hHeld ?_; rotate_left; (focus (intro w' hSw; (try dsimp only at hSw); go_split_ands; first | (go_simp; done) | (go_simp; with_reducible rfl))); simp only [Act.put, List.setIfInBounds_toArray, List.set_cons_zero, List.set_cons_succ]
            refine wpAnyH_done (by kernel_rfl) ?_ _
            have HN3 : Hid _ := HSTEP.out ((w2.alloc (.cells #[.int .i64 t.k, .slice t.a t.l.length t.c] 24)).drew.alloc (.cells #[.int .i64 t.k, .slice t.a t.l.length t.c] 24)) w3 (w3.alloc (.cells #[.int .i64 t.k, .slice t.a t.l.length t.c] 24)) w4 g1 cp1 g2 cp2 hb1 hown1 hgrow1 (hat1.imp id fun h => by first | omega | (simp; done) | (simp; omega)) hlt1 ((Below.refl _ _).alloc (Nat.le_refl _) _) hown2 hgrow2 (hat2.imp id fun h => by first | omega | (simp; done) | (simp; omega))
            clear hown1 hgrow1 hat1 hlt1 hown2 hgrow2 hat2 hlt2 HSTEP hsw3 hsw4
            go_wp2_with fail
            rw [← HXA.out]
            go_roundg (x.l.length - (j + 1))
            case measure => rw [HG.out]; omega
            case rel => exact ⟨_, _, j + 1, ts ++ [t], rfl, rfl, by omega, rfl, by go_num, HN3⟩
          · clear e1 n1 oh1 hb1 nkh1
            go_simp
            refine hK.out _ _ (HS.out _ e2) (fun hHeld => ?_)
            clear hK K
            refine oneH (i := 3) rfl (by kernel_rfl) (fun K hK => ?_)
            refine step_append_lies _ (by rfl) _ _ _ (by rfl) V0.heap.size 24 i0 _ 2 32 Tryz.underlying22 hi0 hz0 hz1 hz2 rfl (by omega) vh ts.length (cellsOf ts) (by rfl) oh2 ⟨w2.heap.size + 1, 0, none⟩ 1 1 [.int .i64 t.k, .slice t.a t.l.length t.c] (by rfl) (by rfl) (World.news_of_block (cs := #[.int .i64 t.k, .slice t.a t.l.length t.c]) (t := 24) (fr := (0, 0)) n2a) (by simp [Value.oneCell']) (by omega) (by unfold maxLen; omega) (by omega) (by first | omega | (simp; omega)) (w2.heap.size + 1 + 1 + 1) (by simp) ?_
            intro g1 cp1 w3 hown1 hgrow1 hat1 hlt1
            have hsw3 := hgrow1.size
            (try simp at hsw3)
            refine hK.out _ _ (HS.out _ ((hgrow1.block _ (by first | omega | (simp; done) | (simp; omega)) nkh).trans e2)) (fun hHeld => ?_)
            clear hK K
            refine oneH (i := 7) rfl (by kernel_rfl) (fun K hK => ?_)
            refine step_append_lies _ (by rfl) _ _ _ (by rfl) V0.heap.size 24 i0 _ 2 32 Tryz.underlying22 hi0 hz0 hz1 hz2 rfl (by omega) vw ts.length (cellsOf ts) (by rfl) (HT2.out.other hb2 hgrow1) ⟨w2.heap.size + 1 + 1, 0, none⟩ 1 1 [.int .i64 t.k, .slice t.a t.l.length t.c] (by rfl) (by rfl) (World.news_of_block (cs := #[.int .i64 t.k, .slice t.a t.l.length t.c]) (t := 24) (fr := (0, 0)) ((hgrow1.block _ (by first | omega | (simp; done) | (simp; omega)) nkh2).trans n2b)) (by simp [Value.oneCell']) (by omega) (by unfold maxLen; omega) (by omega) (by first | omega | (simp; omega)) (w3.heap.size) (by simp) ?_
            intro g2 cp2 w4 hown2 hgrow2 hat2 hlt2
            have hsw4 := hgrow2.size
            (try simp at hsw4)
            refine hK.out _ _ (HS.out _ ((hgrow2.block _ (by first | omega | (simp; done) | (simp; omega)) nkw).trans ((hgrow1.block _ (by first | omega | (simp; done) | (simp; omega)) nkh).trans e2))) (fun hHeld => ?_)
            clear hK K
            refine takeH (i := 8) (v := ?_) rfl (by kernel_rfl) (by kernel_rfl) (by kernel_rfl) (fun _ _ _ h => h) (Or.inl ⟨by rfl, ?_⟩) hHeld ?_; rotate_left; (focus (intro w' hSw; (try dsimp only at hSw); go_split_ands; first | (go_simp; done) | (go_simp; with_reducible rfl))); simp only [Act.put, List.setIfInBounds_toArray, List.set_cons_zero, List.set_cons_succ]
            refine takeH (i := 9) (v := ?_) rfl (by kernel_rfl) (by kernel_rfl) (by kernel_rfl) (fun _ _ _ h => h) (Or.inl ⟨by rfl, ?_⟩) hHeld ?_; rotate_left; (focus (intro w' hSw; (try dsimp only at hSw); go_split_ands; first | (go_simp; done) | (go_simp; with_reducible rfl))); simp only [Act.put, List.setIfInBounds_toArray, List.set_cons_zero, List.set_cons_succ]
            refine wpAnyH_done (by kernel_rfl) ?_ _
            have HN3 : Hid _ := HSTEP.out (((w2.alloc (.cells #[.int .i64 t.k, .slice t.a t.l.length t.c] 24)).drew.alloc (.cells #[.int .i64 t.k, .slice t.a t.l.length t.c] 24)).alloc (.cells #[.int .i64 t.k, .slice t.a t.l.length t.c] 24)) w3 w3 w4 g1 cp1 g2 cp2 hb2 hown1 hgrow1 (hat1.imp id fun h => by first | omega | (simp; done) | (simp; omega)) hlt1 (Below.refl _ _) hown2 hgrow2 (hat2.imp id fun h => by first | omega | (simp; done) | (simp; omega))
            clear hown1 hgrow1 hat1 hlt1 hown2 hgrow2 hat2 hlt2 HSTEP hsw3 hsw4
            go_wp2_with fail
            rw [← HXA.out]
            go_roundg (x.l.length - (j + 1))
            case measure => rw [HG.out]; omega
            case rel => exact ⟨_, _, j + 1, ts ++ [t], rfl, rfl, by omega, rfl, by go_num, HN3⟩
        · go_simp
          refine hK.out _ _ (HS.out _ e1) (fun hHeld => ?_)
          clear hK K
          refine oneH (i := 2) rfl (by kernel_rfl) (fun K hK => ?_)
          clear e1 n1 oh1 hb1 nkh2
          go_simp
          refine hK.out _ _ (HS.out _ e2) (fun hHeld => ?_)
          clear hK K
          refine oneH (i := 3) rfl (by kernel_rfl) (fun K hK => ?_)
          refine step_append_lies _ (by rfl) _ _ _ (by rfl) V0.heap.size 24 i0 _ 2 32 Tryz.underlying22 hi0 hz0 hz1 hz2 rfl (by omega) vh ts.length (cellsOf ts) (by rfl) oh2 ⟨w2.heap.size + 1 + 1, 0, none⟩ 1 1 [.int .i64 t.k, .slice t.a t.l.length t.c] (by rfl) (by rfl) (World.news_of_block (cs := #[.int .i64 t.k, .slice t.a t.l.length t.c]) (t := 24) (fr := (0, 0)) n2b) (by simp [Value.oneCell']) (by omega) (by unfold maxLen; omega) (by omega) (by first | omega | (simp; omega)) (w2.heap.size + 1 + 1 + 1) (by simp) ?_
          intro g1 cp1 w3 hown1 hgrow1 hat1 hlt1
          have hsw3 := hgrow1.size
          (try simp at hsw3)
          refine hK.out _ _ (HS.out _ ((hgrow1.block _ (by first | omega | (simp; done) | (simp; omega)) nkh).trans e2)) (fun hHeld => ?_)
          clear hK K
          refine oneH (i := 7) rfl (by kernel_rfl) (fun K hK => ?_)
          refine step_append_lies _ (by rfl) _ _ _ (by rfl) V0.heap.size 24 i0 _ 2 32 Tryz.underlying22 hi0 hz0 hz1 hz2 rfl (by omega) vw ts.length (cellsOf ts) (by rfl) (HT2.out.other hb2 hgrow1) ⟨w2.heap.size + 1, 0, none⟩ 1 1 [.int .i64 t.k, .slice t.a t.l.length t.c] (by rfl) (by rfl) (World.news_of_block (cs := #[.int .i64 t.k, .slice t.a t.l.length t.c]) (t := 24) (fr := (0, 0)) ((hgrow1.block _ (by first | omega | (simp; done) | (simp; omega)) nkh1).trans n2a)) (by simp [Value.oneCell']) (by omega) (by unfold maxLen; omega) (by omega) (by first | omega | (simp; omega)) (w3.heap.size) (by simp) ?_
          intro g2 cp2 w4 hown2 hgrow2 hat2 hlt2
          have hsw4 := hgrow2.size
          (try simp at hsw4)
          refine hK.out _ _ (HS.out _ ((hgrow2.block _ (by first | omega | (simp; done) | (simp; omega)) nkw).trans ((hgrow1.block _ (by first | omega | (simp; done) | (simp; omega)) nkh).trans e2))) (fun hHeld => ?_)
          clear hK K
          refine takeH (i := 8) (v := ?_) rfl (by kernel_rfl) (by kernel_rfl) (by kernel_rfl) (fun _ _ _ h => h) (Or.inl ⟨by rfl, ?_⟩) hHeld ?_; rotate_left; (focus (intro w' hSw; (try dsimp only at hSw); go_split_ands; first | (go_simp; done) | (go_simp; with_reducible rfl))); simp only [Act.put, List.setIfInBounds_toArray, List.set_cons_zero, List.set_cons_succ]
          refine takeH (i := 9) (v := ?_) rfl (by kernel_rfl) (by kernel_rfl) (by kernel_rfl) (fun _ _ _ h => h) (Or.inl ⟨by rfl, ?_⟩) hHeld ?_; rotate_left; (focus (intro w' hSw; (try dsimp only at hSw); go_split_ands; first | (go_simp; done) | (go_simp; with_reducible rfl))); simp only [Act.put, List.setIfInBounds_toArray, List.set_cons_zero, List.set_cons_succ]
          refine wpAnyH_done (by kernel_rfl) ?_ _
          have HN3 : Hid _ := HSTEP.out (((w2.alloc (.cells #[.int .i64 t.k, .slice t.a t.l.length t.c] 24)).drew.alloc (.cells #[.int .i64 t.k, .slice t.a t.l.length t.c] 24)).alloc (.cells #[.int .i64 t.k, .slice t.a t.l.length t.c] 24)) w3 w3 w4 g1 cp1 g2 cp2 hb2 hown1 hgrow1 (hat1.imp id fun h => by first | omega | (simp; done) | (simp; omega)) hlt1 (Below.refl _ _) hown2 hgrow2 (hat2.imp id fun h => by first | omega | (simp; done) | (simp; omega))
          clear hown1 hgrow1 hat1 hlt1 hown2 hgrow2 hat2 hlt2 HSTEP hsw3 hsw4
          go_wp2_with fail
          rw [← HXA.out]
          go_roundg (x.l.length - (j + 1))
          case measure => rw [HG.out]; omega
          case rel => exact ⟨_, _, j + 1, ts ++ [t], rfl, rfl, by omega, rfl, by go_num, HN3⟩
      · have hjl : j = x.l.length := by omega
        have HN3 : Hid (T2 Q1 V0 vh vw ts ts wr ∧ ts.length = x.l.length ∧ (∀ q (h : q < ts.length) (h' : q < ps.length), ts[q].ty = ps[q].2.2 ∧ goodT 904 ts[q] = true)) := ⟨HR.out.1, by rw [HR.out.2.1, hjl], HR.out.2.2⟩
        clear HR
        go_wp2_with fail
        go_meet
        case rel => exact ⟨vh, vw, ts, rfl, rfl, HN3⟩
  case rest =>
  obtain ⟨vh, vw, ts, hvh, hvw, HT⟩ := hcut
  subst hvh hvw
  have HTS : Hid (ts.map Tr.ty = ps.map fun p => p.2.2) := by
    refine List.ext_getElem ?_ fun q h h' => ?_
    · rw [List.length_map, List.length_map, HT.out.2.1, HPS.out.1]
    · simp only [List.getElem_map]
      exact (HT.out.2.2 q (by simpa using h) (by simpa using h')).1
  have HTG : Hid (ts.length = x.l.length ∧ ∀ t, t ∈ ts → goodT 904 t = true) := by
    refine ⟨HT.out.2.1, fun t ht => ?_⟩
    obtain ⟨q, hq, rfl⟩ := List.getElem_of_mem ht
    exact (HT.out.2.2 q hq (by rw [HPS.out.1, ← HT.out.2.1]; exact hq)).2
  have HTSY : Hid (ts.map Tr.ty = ps.map fun p => p.2.2) := HTS.out
  apply_assumption
  refine wp_seq_k fun Kz hKz => ?_
  go_cut [10] (fun s10 wx => ∃ (ah : Option Addr) (ch : Nat) (a : Option Addr) (cc : Nat) (uu : List Tr), vh = .slice ah ts.length ch ∧ s10 = .slice a uu.length cc ∧ Hid (uu.map Tr.ty = us ∧ P3 x w V0 Q1 ah ch ts a cc uu wx))
  case first =>
    have hB := HBV.out.below HT.out.1.low
    have d0 := hB.box.at7.c0
    have us1 : w.heap.size + 1 + 1 < wc.heap.size := hB.lt
    clear hB
    have hkc : x.k = 1 ∨ x.k = 2 ∨ x.k = 3 ∨ x.k = 4 ∨ x.k = 5 ∨ x.k = 6 ∨ x.k = 7 ∨ x.k = 8 ∨ x.k = 9 := by omega
    rcases hkc with hk | hk | hk | hk | hk | hk | hk | hk | hk
    · -- kind 1
      obtain ⟨ah, ch, aw, cw, hvh, hvw, hP⟩ := P3.of HT.out.1 HBV.out HQ1.out.2.2.1
      subst hvh hvw
      have HN : Hid (ts.map Tr.ty = us ∧ P3 x w V0 Q1 ah ch ts aw cw ts wc) := by
        refine ⟨?_, hP⟩
        have hu := HRD.out.2.1
        rw [hk, ← HTS.out] at hu
        have h0 : ts = [] := List.eq_nil_of_length_eq_zero (by rw [HT.out.2.1, HF.out.2.2.2.2.1, hk]; rfl)
        subst h0
        simp [ruleY] at hu
        exact hu.2.symm
      rw [hk] at d0
      clear hk hP HT HTS
      go_wp2_with fail
      go_meet
      case rel => exact ⟨ah, ch, aw, cw, ts, rfl, rfl, HN⟩
    · -- kind 2
      obtain ⟨ah, ch, aw, cw, hvh, hvw, hP⟩ := P3.of HT.out.1 HBV.out HQ1.out.2.2.1
      subst hvh hvw
      have HN : Hid (ts.map Tr.ty = us ∧ P3 x w V0 Q1 ah ch ts aw cw ts wc) := by
        refine ⟨?_, hP⟩
        have hu := HRD.out.2.1
        rw [hk, ← HTS.out] at hu
        have h0 : ts = [] := List.eq_nil_of_length_eq_zero (by rw [HT.out.2.1, HF.out.2.2.2.2.1, hk]; rfl)
        subst h0
        simp [ruleY] at hu
        exact hu.2.symm
      rw [hk] at d0
      clear hk hP HT HTS
      go_wp2_with fail
      go_meet
      case rel => exact ⟨ah, ch, aw, cw, ts, rfl, rfl, HN⟩
    · -- kind 3
      obtain ⟨ah, ch, aw, cw, hvh, hvw, hP⟩ := P3.of HT.out.1 HBV.out HQ1.out.2.2.1
      subst hvh hvw
      have HN : Hid (ts.map Tr.ty = us ∧ P3 x w V0 Q1 ah ch ts aw cw ts wc) := by
        refine ⟨?_, hP⟩
        have hu := HRD.out.2.1
        rw [hk, ← HTS.out] at hu
        have h0 : ts = [] := List.eq_nil_of_length_eq_zero (by rw [HT.out.2.1, HF.out.2.2.2.2.1, hk]; rfl)
        subst h0
        simp [ruleY] at hu
        exact hu.2.symm
      rw [hk] at d0
      clear hk hP HT HTS
      go_wp2_with fail
      go_meet
      case rel => exact ⟨ah, ch, aw, cw, ts, rfl, rfl, HN⟩
    · -- kind 4
      obtain ⟨t0, t1, rfl⟩ : ∃ t0 t1, ts = [t0, t1] := by
        match ts, (show ts.length = 2 by rw [HT.out.2.1, HF.out.2.2.2.2.1, hk]; rfl) with
        | [t0, t1], _ => exact ⟨t0, t1, rfl⟩
      obtain ⟨ah, ch, g, cw, hvh, hvw, hP⟩ := P2.of HT.out.1 HBV.out HQ1.out.2.2.1 (by simp)
      subst hvh hvw
      obtain ⟨b0, o0, ew0, c0, c1, _⟩ := hP.wv.part 0 (by simp)
      obtain ⟨rfl, rfl⟩ : g = b0 ∧ 0 = o0 := by simpa using ew0
      obtain ⟨b1, o1, ew1, c2, c3, _⟩ := hP.wv.part 1 (by simp)
      obtain ⟨rfl, rfl⟩ : g = b1 ∧ 0 = o1 := by simpa using ew1
      simp only [List.getElem_cons_zero, List.getElem_cons_succ, Nat.zero_mul, Nat.add_zero, Nat.zero_add, Nat.one_mul] at c0 c1 c2 c3
      have n0 := hP.bx.n0
      have n1 := hP.bx.n1
      have hwf := hP.wf
      have hgl := hP.gl
      have lg : g < wc.heap.size := hgl.2.2
      have HS : Hid (∀ W, Kept g none wc W → (fun W => W.cell? ⟨w.heap.size + 1 + 1, 0, none⟩ = some (.int .i64 1) ∧ W.cell? ⟨w.heap.size + 1 + 1, 1, none⟩ = some (.slice none 0 0)) W) := fun W h => ⟨h.cell n0 (by omega), h.cell n1 (by omega)⟩
      have HN : Hid ([leaf 1, leaf 1].map Tr.ty = us ∧ P3 x w V0 Q1 ah ch [t0, t1] (some ⟨g, 0, none⟩) cw [leaf 1, leaf 1] ((((wc.drew.setCell ⟨g, 0, none⟩ (.int .i64 1)).setCell ⟨g, 1, none⟩ (.slice none 0 0)).setCell ⟨g, 2, none⟩ (.int .i64 1)).setCell ⟨g, 3, none⟩ (.slice none 0 0))) := by
        refine ⟨?_, ?_⟩
        · have hu := HRD.out.2.1
          rw [hk] at hu
          simp [ruleY] at hu
          rw [← hu.2]
          simp [leaf_ty]
        · have h1 := (hP.below ((Below.refl _ _).drew)).set (j := 0) (o := 0) (o1 := 1) (u := leaf 1) (by simp) rfl rfl (leaf_in 1 _) (leaf_bl 1 _)
          have h2 := h1.set (j := 1) (o := 2) (o1 := 3) (u := leaf 1) (by simp) rfl rfl (leaf_in 1 _) (leaf_bl 1 _)
          exact h2.fin HQ1.out.2.2.1
      have hw0 : wc.drew.frozen? ⟨g, 0, none⟩ = false := hwf 0
      have hw1 : wc.drew.frozen? ⟨g, 1, none⟩ = false := hwf 1
      have hw2 : wc.drew.frozen? ⟨g, 2, none⟩ = false := hwf 2
      have hw3 : wc.drew.frozen? ⟨g, 3, none⟩ = false := hwf 3
      have cd0 : wc.drew.cell? ⟨g, 0, none⟩ = some (.int .i64 t0.k) := c0
      have cd1 : wc.drew.cell? ⟨g, 1, none⟩ = some (.slice t0.a t0.l.length t0.c) := c1
      have cd2 : wc.drew.cell? ⟨g, 2, none⟩ = some (.int .i64 t1.k) := c2
      have cd3 : wc.drew.cell? ⟨g, 3, none⟩ = some (.slice t1.a t1.l.length t1.c) := c3
      rw [hk] at d0
      clear hk hP HT HTS ew0 ew1 hgl
      go_upto_region 15 with fail
      refine wp_region_held_drew (S := fun W => W.cell? ⟨w.heap.size + 1 + 1, 0, none⟩ = some (.int .i64 1) ∧ W.cell? ⟨w.heap.size + 1 + 1, 1, none⟩ = some (.slice none 0 0)) (by kernel_rfl) (HS.out _ (Kept.of_below ((Below.refl _ _).drew))) (fun hHeld => ?_)
      refine takeH (i := 0) (v := ?_) rfl (by kernel_rfl) (by kernel_rfl) (by kernel_rfl) (fun _ _ _ h => h) (Or.inl ⟨by rfl, ?_⟩) hHeld ?_; rotate_left; (focus (intro w' hSw; (try dsimp only at hSw); go_split_ands; first | (go_simp; done) | (go_simp; with_reducible rfl))); simp only [Act.put, List.setIfInBounds_toArray, List.set_cons_zero, List.set_cons_succ]
      refine takeH (i := 1) (v := ?_) rfl (by kernel_rfl) (by kernel_rfl) (by kernel_rfl) (fun _ _ _ h => h) (Or.inl ⟨by rfl, ?_⟩) hHeld ?_; rotate_left; (focus (intro w' hSw; (try dsimp only at hSw); go_split_ands; first | (go_simp; done) | (go_simp; with_reducible rfl))); simp only [Act.put, List.setIfInBounds_toArray, List.set_cons_zero, List.set_cons_succ]
      refine takeH (i := 2) (v := ?_) rfl (by kernel_rfl) (by kernel_rfl) (by kernel_rfl) (fun _ _ _ h => h) (Or.inl ⟨by rfl, ?_⟩) hHeld ?_; rotate_left; (focus (intro w' hSw; (try dsimp only at hSw); go_split_ands; first | (go_simp; done) | (go_simp; with_reducible rfl))); simp only [Act.put, List.setIfInBounds_toArray, List.set_cons_zero, List.set_cons_succ]
      refine takeH (i := 3) (v := ?_) rfl (by kernel_rfl) (by kernel_rfl) (by kernel_rfl) (fun _ _ _ h => h) (Or.inl ⟨by rfl, ?_⟩) hHeld ?_; rotate_left; (focus (intro w' hSw; (try dsimp only at hSw); go_split_ands; first | (go_simp; done) | (go_simp; with_reducible rfl))); simp only [Act.put, List.setIfInBounds_toArray, List.set_cons_zero, List.set_cons_succ]
      refine takeH (i := 4) (v := ?_) rfl (by kernel_rfl) (by kernel_rfl) (by kernel_rfl) (fun _ _ _ h => h) (Or.inl ⟨by rfl, ?_⟩) hHeld ?_; rotate_left; (focus (intro w' hSw; (try dsimp only at hSw); go_split_ands; first | (go_simp; done) | (go_simp; with_reducible rfl))); simp only [Act.put, List.setIfInBounds_toArray, List.set_cons_zero, List.set_cons_succ]
      refine oneH (i := 5) rfl (by kernel_rfl) (fun K hK => ?_)
      go_simp
      refine hK.out _ _ (HS.out _ ((Kept.of_below ((Below.refl _ _).drew)).trans (setR_kept.trans setR_kept))) (fun hHeld => ?_)
      clear hK K
      refine takeH (i := 6) (v := ?_) rfl (by kernel_rfl) (by kernel_rfl) (by kernel_rfl) (fun _ _ _ h => h) (Or.inl ⟨by rfl, ?_⟩) hHeld ?_; rotate_left; (focus (intro w' hSw; (try dsimp only at hSw); go_split_ands; first | (go_simp; done) | (go_simp; with_reducible rfl))); simp only [Act.put, List.setIfInBounds_toArray, List.set_cons_zero, List.set_cons_succ]
      refine oneH (i := 7) rfl (by kernel_rfl) (fun K hK => ?_)
      go_simp
      refine hK.out _ _ (HS.out _ ((Kept.of_below ((Below.refl _ _).drew)).trans (setR_kept.trans (setR_kept.trans (setR_kept.trans setR_kept))))) (fun hHeld => ?_)
      clear hK K
      refine wpAnyH_done (by kernel_rfl) ?_ _
      go_wp2_with fail
      go_meet
      case rel => exact ⟨ah, ch, some ⟨g, 0, none⟩, cw, [leaf 1, leaf 1], rfl, rfl, HN⟩
    · -- kind 5
      obtain ⟨t0, t1, rfl⟩ : ∃ t0 t1, ts = [t0, t1] := by
        match ts, (show ts.length = 2 by rw [HT.out.2.1, HF.out.2.2.2.2.1, hk]; rfl) with
        | [t0, t1], _ => exact ⟨t0, t1, rfl⟩
      obtain ⟨ah, ch, g, cw, hvh, hvw, hP⟩ := P2.of HT.out.1 HBV.out HQ1.out.2.2.1 (by simp)
      subst hvh hvw
      obtain ⟨b0, o0, ew0, c0, c1, _⟩ := hP.wv.part 0 (by simp)
      obtain ⟨rfl, rfl⟩ : g = b0 ∧ 0 = o0 := by simpa using ew0
      obtain ⟨b1, o1, ew1, c2, c3, _⟩ := hP.wv.part 1 (by simp)
      obtain ⟨rfl, rfl⟩ : g = b1 ∧ 0 = o1 := by simpa using ew1
      simp only [List.getElem_cons_zero, List.getElem_cons_succ, Nat.zero_mul, Nat.add_zero, Nat.zero_add, Nat.one_mul] at c0 c1 c2 c3
      have n0 := hP.bx.n0
      have n1 := hP.bx.n1
      have hwf := hP.wf
      have hgl := hP.gl
      have lg : g < wc.heap.size := hgl.2.2
      have HS : Hid (∀ W, Kept g none wc W → (fun W => W.cell? ⟨w.heap.size + 1 + 1, 0, none⟩ = some (.int .i64 1) ∧ W.cell? ⟨w.heap.size + 1 + 1, 1, none⟩ = some (.slice none 0 0)) W) := fun W h => ⟨h.cell n0 (by omega), h.cell n1 (by omega)⟩
      have HN : Hid ([leaf 1, leaf 1].map Tr.ty = us ∧ P3 x w V0 Q1 ah ch [t0, t1] (some ⟨g, 0, none⟩) cw [leaf 1, leaf 1] ((((wc.drew.setCell ⟨g, 0, none⟩ (.int .i64 1)).setCell ⟨g, 1, none⟩ (.slice none 0 0)).setCell ⟨g, 2, none⟩ (.int .i64 1)).setCell ⟨g, 3, none⟩ (.slice none 0 0))) := by
        refine ⟨?_, ?_⟩
        · have hu := HRD.out.2.1
          rw [hk] at hu
          simp [ruleY] at hu
          rw [← hu.2]
          simp [leaf_ty]
        · have h1 := (hP.below ((Below.refl _ _).drew)).set (j := 0) (o := 0) (o1 := 1) (u := leaf 1) (by simp) rfl rfl (leaf_in 1 _) (leaf_bl 1 _)
          have h2 := h1.set (j := 1) (o := 2) (o1 := 3) (u := leaf 1) (by simp) rfl rfl (leaf_in 1 _) (leaf_bl 1 _)
          exact h2.fin HQ1.out.2.2.1
      have hw0 : wc.drew.frozen? ⟨g, 0, none⟩ = false := hwf 0
      have hw1 : wc.drew.frozen? ⟨g, 1, none⟩ = false := hwf 1
      have hw2 : wc.drew.frozen? ⟨g, 2, none⟩ = false := hwf 2
      have hw3 : wc.drew.frozen? ⟨g, 3, none⟩ = false := hwf 3
      have cd0 : wc.drew.cell? ⟨g, 0, none⟩ = some (.int .i64 t0.k) := c0
      have cd1 : wc.drew.cell? ⟨g, 1, none⟩ = some (.slice t0.a t0.l.length t0.c) := c1
      have cd2 : wc.drew.cell? ⟨g, 2, none⟩ = some (.int .i64 t1.k) := c2
      have cd3 : wc.drew.cell? ⟨g, 3, none⟩ = some (.slice t1.a t1.l.length t1.c) := c3
      rw [hk] at d0
      clear hk hP HT HTS ew0 ew1 hgl
      go_upto_region 15 with fail
      refine wp_region_held_drew (S := fun W => W.cell? ⟨w.heap.size + 1 + 1, 0, none⟩ = some (.int .i64 1) ∧ W.cell? ⟨w.heap.size + 1 + 1, 1, none⟩ = some (.slice none 0 0)) (by kernel_rfl) (HS.out _ (Kept.of_below ((Below.refl _ _).drew))) (fun hHeld => ?_)
      refine takeH (i := 0) (v := ?_) rfl (by kernel_rfl) (by kernel_rfl) (by kernel_rfl) (fun _ _ _ h => h) (Or.inl ⟨by rfl, ?_⟩) hHeld ?_; rotate_left; (focus (intro w' hSw; (try dsimp only at hSw); go_split_ands; first | (go_simp; done) | (go_simp; with_reducible rfl))); simp only [Act.put, List.setIfInBounds_toArray, List.set_cons_zero, List.set_cons_succ]
      refine takeH (i := 1) (v := ?_) rfl (by kernel_rfl) (by kernel_rfl) (by kernel_rfl) (fun _ _ _ h => h) (Or.inl ⟨by rfl, ?_⟩) hHeld ?_; rotate_left; (focus (intro w' hSw; (try dsimp only at hSw); go_split_ands; first | (go_simp; done) | (go_simp; with_reducible rfl))); simp only [Act.put, List.setIfInBounds_toArray, List.set_cons_zero, List.set_cons_succ]
      refine takeH (i := 2) (v := ?_) rfl (by kernel_rfl) (by kernel_rfl) (by kernel_rfl) (fun _ _ _ h => h) (Or.inl ⟨by rfl, ?_⟩) hHeld ?_; rotate_left; (focus (intro w' hSw; (try dsimp only at hSw); go_split_ands; first | (go_simp; done) | (go_simp; with_reducible rfl))); simp only [Act.put, List.setIfInBounds_toArray, List.set_cons_zero, List.set_cons_succ]
      refine takeH (i := 3) (v := ?_) rfl (by kernel_rfl) (by kernel_rfl) (by kernel_rfl) (fun _ _ _ h => h) (Or.inl ⟨by rfl, ?_⟩) hHeld ?_; rotate_left; (focus (intro w' hSw; (try dsimp only at hSw); go_split_ands; first | (go_simp; done) | (go_simp; with_reducible rfl))); simp only [Act.put, List.setIfInBounds_toArray, List.set_cons_zero, List.set_cons_succ]
      refine takeH (i := 4) (v := ?_) rfl (by kernel_rfl) (by kernel_rfl) (by kernel_rfl) (fun _ _ _ h => h) (Or.inl ⟨by rfl, ?_⟩) hHeld ?_; rotate_left; (focus (intro w' hSw; (try dsimp only at hSw); go_split_ands; first | (go_simp; done) | (go_simp; with_reducible rfl))); simp only [Act.put, List.setIfInBounds_toArray, List.set_cons_zero, List.set_cons_succ]
      refine oneH (i := 5) rfl (by kernel_rfl) (fun K hK => ?_)
      go_simp
      refine hK.out _ _ (HS.out _ ((Kept.of_below ((Below.refl _ _).drew)).trans (setR_kept.trans setR_kept))) (fun hHeld => ?_)
      clear hK K
      refine takeH (i := 6) (v := ?_) rfl (by kernel_rfl) (by kernel_rfl) (by kernel_rfl) (fun _ _ _ h => h) (Or.inl ⟨by rfl, ?_⟩) hHeld ?_; rotate_left; (focus (intro w' hSw; (try dsimp only at hSw); go_split_ands; first | (go_simp; done) | (go_simp; with_reducible rfl))); simp only [Act.put, List.setIfInBounds_toArray, List.set_cons_zero, List.set_cons_succ]
      refine oneH (i := 7) rfl (by kernel_rfl) (fun K hK => ?_)
      go_simp
      refine hK.out _ _ (HS.out _ ((Kept.of_below ((Below.refl _ _).drew)).trans (setR_kept.trans (setR_kept.trans (setR_kept.trans setR_kept))))) (fun hHeld => ?_)
      clear hK K
      refine wpAnyH_done (by kernel_rfl) ?_ _
      go_wp2_with fail
      go_meet
      case rel => exact ⟨ah, ch, some ⟨g, 0, none⟩, cw, [leaf 1, leaf 1], rfl, rfl, HN⟩
    · -- kind 6
      obtain ⟨t0, t1, t2, rfl⟩ : ∃ t0 t1 t2, ts = [t0, t1, t2] := by
        match ts, (show ts.length = 3 by rw [HT.out.2.1, HF.out.2.2.2.2.1, hk]; rfl) with
        | [t0, t1, t2], _ => exact ⟨t0, t1, t2, rfl⟩
      obtain ⟨ah, ch, g, cw, hvh, hvw, hP⟩ := P2.of HT.out.1 HBV.out HQ1.out.2.2.1 (by simp)
      subst hvh hvw
      obtain ⟨b1, o1, ea1, c2, c3, hi1⟩ := hP.hv.part 1 (by simp)
      obtain ⟨b2, o2, ea2, c4, c5, hi2⟩ := hP.hv.part 2 (by simp)
      simp only at ea1 ea2
      rw [ea1] at ea2
      obtain ⟨rfl, rfl⟩ : b1 = b2 ∧ o1 = o2 := by simpa using ea2
      simp only [List.getElem_cons_zero, List.getElem_cons_succ, Nat.one_mul, show 2 * 2 = 4 from rfl] at c2 c3 c4 c5 hi1 hi2
      have hg1 := HTG.out.2 t1 (by simp)
      have hg2 := HTG.out.2 t2 (by simp)
      obtain ⟨p1, h1, s1⟩ := good_facts (by omega) hg1
      obtain ⟨p2, h2, s2⟩ := good_facts (by omega) hg2
      have lb : b1 < wc.heap.size := World.block_lt_of_cell? _ _ c2
      have HS : Hid (∀ W, Below wc.heap.size wc W → (fun W => W.cell? ⟨b1, o1 + 2, none⟩ = some (.int .i64 t1.k) ∧ W.cell? ⟨b1, o1 + 3, none⟩ = some (.slice t1.a t1.l.length t1.c) ∧ W.cell? ⟨b1, o1 + 4, none⟩ = some (.int .i64 t2.k) ∧ W.cell? ⟨b1, o1 + 5, none⟩ = some (.slice t2.a t2.l.length t2.c)) W) := fun W h => ⟨cell_later h c2, cell_later h c3, cell_later h c4, cell_later h c5⟩
      have HJ : Hid (∀ W, Below wc.heap.size wc W → Calls Tryz.prog 92 #[.agg #[.int .i64 t1.k, .slice t1.a t1.l.length t1.c], .agg #[.int .i64 t2.k, .slice t2.a t2.l.length t2.c]] W fun e w' => ∃ u : Tr, e = .returned (.agg #[.int .i64 u.k, .slice u.a u.l.length u.c]) ∧ Hid (u.ty = joinY t1.ty t2.ty) ∧ u.In w' ∧ u.Bl (W.heap.size ≤ ·) ∧ Below W.heap.size W w') := fun W h =>
        joinOf_any 1000 t1 t2 W (hi1.below h) (hi2.below h) p1 p2 h1
      have HFIN : Hid (∀ (X : World) (u : Tr), Below wc.heap.size wc X → Hid (u.ty = joinY t1.ty t2.ty) → u.In X → u.Bl (wc.heap.size ≤ ·) → Hid ([leaf 2, u, u].map Tr.ty = us ∧ P3 x w V0 Q1 ah ch [t0, t1, t2] (some ⟨X.heap.size, 0, none⟩) 3 [leaf 2, u, u] (X.alloc (.cells #[.int .i64 2, .slice none 0 0, .int .i64 u.k, .slice u.a u.l.length u.c, .int .i64 u.k, .slice u.a u.l.length u.c] 24)))) := by
        intro X u hX hu hui hub
        have hPX := hP.below hX
        have hba : ∀ O, Below X.heap.size X (X.alloc O) := fun O => (Below.refl _ _).alloc (Nat.le_refl _) _
        have hub1 : u.Bl Q1 := hub.mono fun b hb => HQ1.out.2.2.1 b (by omega)
        refine ⟨?_, ?_⟩
        · have hr := HRD.out.2.1
          rw [hk, ← HTS.out] at hr
          have hr' : ifY ⟨2, []⟩ t1.ty t2.ty = some (ty0, us) := by simpa [ruleY] using hr
          unfold ifY at hr'
          split at hr'
          · cases hr'
            simp only [List.map_cons, List.map_nil, leaf_ty]
            rw [hu.out]
          · cases hr'
        · refine ⟨(hPX.hv).below (hba _), hPX.hb.mono fun b hb => hb.1, ?_, ?_, hPX.bx.below (hba _), hPX.low.trans ((hba _).mono hPX.low.size)⟩
          · exact In_three (by simp [go_sem, leaf]) (by simp [go_sem, leaf]) (by simp [go_sem]) (by simp [go_sem]) (by simp [go_sem]) (by simp [go_sem]) (leaf_in 2 _) (hui.below (hba _)) (hui.below (hba _))
          · refine Tr.Bl_mk.2 ⟨fun _ y hy => by cases hy; exact HQ1.out.2.2.1 _ (by have := hX.size; show _ ≤ X.heap.size; omega), fun t ht => ?_⟩
            simp only [List.mem_cons, List.not_mem_nil, or_false] at ht
            rcases ht with rfl | rfl | rfl
            · exact leaf_bl 2 _
            · exact hub1
            · exact hub1
      have HEA : Hid (ah = some ⟨b1, o1, none⟩) := ea1
      subst ea1
      rw [hk] at d0
      clear hk hP HT HTS ea2 hg1 hg2 p1 h1 s1 p2 h2 s2 hi1 hi2
      have hbd : Below wc.heap.size wc wc.drew := (Below.refl _ _).drew
      have hbda : Below wc.heap.size wc (wc.drew.alloc (.cells #[.int .i64 0, .slice none 0 0] 24)) := hbd.alloc (Nat.le_refl _) _
      go_upto_region 17 with fail
      refine wp_region_held_drew (S := fun W => W.cell? ⟨b1, o1 + 2, none⟩ = some (.int .i64 t1.k) ∧ W.cell? ⟨b1, o1 + 3, none⟩ = some (.slice t1.a t1.l.length t1.c) ∧ W.cell? ⟨b1, o1 + 4, none⟩ = some (.int .i64 t2.k) ∧ W.cell? ⟨b1, o1 + 5, none⟩ = some (.slice t2.a t2.l.length t2.c)) (by kernel_rfl) (HS.out _ hbd) (fun hHeld => ?_)
      refine takeH (i := 0) (v := ?_) rfl (by kernel_rfl) (by kernel_rfl) (by kernel_rfl) (fun _ _ _ h => h) (Or.inl ⟨by rfl, ?_⟩) hHeld ?_; rotate_left; (focus (intro w' hSw; (try dsimp only at hSw); go_split_ands; first | (go_simp; done) | (go_simp; with_reducible rfl))); simp only [Act.put, List.setIfInBounds_toArray, List.set_cons_zero, List.set_cons_succ]
      refine takeH (i := 1) (v := ?_) rfl (by kernel_rfl) (by kernel_rfl) (by kernel_rfl) (fun _ _ _ h => h) (Or.inl ⟨by rfl, ?_⟩) hHeld ?_; rotate_left; (focus (intro w' hSw; (try dsimp only at hSw); go_split_ands; first | (go_simp; done) | (go_simp; with_reducible rfl))); simp only [Act.put, List.setIfInBounds_toArray, List.set_cons_zero, List.set_cons_succ]
      refine takeH (i := 2) (v := ?_) rfl (by kernel_rfl) (by kernel_rfl) (by kernel_rfl) (fun _ _ _ h => h) (Or.inl ⟨by rfl, ?_⟩) hHeld ?_; rotate_left; (focus (intro w' hSw; (try dsimp only at hSw); go_split_ands; first | (go_simp; done) | (go_simp; with_reducible rfl))); simp only [Act.put, List.setIfInBounds_toArray, List.set_cons_zero, List.set_cons_succ]
      refine takeH (i := 3) (v := ?_) rfl (by kernel_rfl) (by kernel_rfl) (by kernel_rfl) (fun _ _ _ h => h) (Or.inl ⟨by rfl, ?_⟩) hHeld ?_; rotate_left; (focus (intro w' hSw; (try dsimp only at hSw); go_split_ands; first | (go_simp; done) | (go_simp; with_reducible rfl))); simp only [Act.put, List.setIfInBounds_toArray, List.set_cons_zero, List.set_cons_succ]
      refine takeH (i := 4) (v := ?_) rfl (by kernel_rfl) (by kernel_rfl) (by kernel_rfl) (fun _ _ _ h => h) (Or.inl ⟨by rfl, ?_⟩) hHeld ?_; rotate_left; (focus (intro w' hSw; (try dsimp only at hSw); go_split_ands; first | (go_simp; done) | (go_simp; with_reducible rfl))); simp only [Act.put, List.setIfInBounds_toArray, List.set_cons_zero, List.set_cons_succ]
      refine takeH (i := 5) (v := ?_) rfl (by kernel_rfl) (by kernel_rfl) (by kernel_rfl) (fun _ _ _ h => h) (Or.inl ⟨by rfl, ?_⟩) hHeld ?_; rotate_left; (focus (intro w' hSw; (try dsimp only at hSw); go_split_ands; first | (go_simp; done) | (go_simp; with_reducible rfl))); simp only [Act.put, List.setIfInBounds_toArray, List.set_cons_zero, List.set_cons_succ]
      refine twoH (i := 6) (j := 7) rfl rfl (by kernel_rfl) (fun K hK => ?_) (fun K hK => ?_)
      · go_simp
        go_at_call 92
        refine (HJ.out _ hbd).mono ?_
        rintro e w4 ⟨u, rfl, hu, hui, hub, hb4⟩
        have hbn : Below wc.heap.size wc w4 := hbd.trans (hb4.mono hbd.size)
        have hbz : Below w4.heap.size w4 (w4.alloc (.cells #[.int .i64 0, .slice none 0 0] 24)) := (Below.refl _ _).alloc (Nat.le_refl _) _
        have hbnz := hbn.trans (hbz.mono hbn.size)
        refine hK.out _ _ (HS.out _ hbn) (fun hHeld => ?_)
        clear hK K
        refine oneH (i := 7) rfl (by kernel_rfl) (fun K hK => ?_)
        go_simp
        refine hK.out _ _ (HS.out _ hbnz) (fun hHeld => ?_)
        clear hK K
        obtain ⟨Z, hZ⟩ : ∃ Z, Z = w4.alloc (.cells #[.int .i64 0, .slice none 0 0] 24) := ⟨_, rfl⟩
        have z0 : Z.cell? ⟨w4.heap.size, 0, none⟩ = some (.int .i64 0) := by rw [hZ]; simp [go_sem]
        have z1 : Z.cell? ⟨w4.heap.size, 1, none⟩ = some (.slice none 0 0) := by rw [hZ]; simp [go_sem]
        have zf0 : Z.frozen? ⟨w4.heap.size, 0, none⟩ = false := by rw [hZ]; simp [go_sem]
        have zf1 : Z.frozen? ⟨w4.heap.size, 1, none⟩ = false := by rw [hZ]; simp [go_sem]
        have huz : u.In Z := by rw [hZ]; exact hui.below hbz
        have hux : u.Bl (· ≠ w4.heap.size) := hui.bl.mono fun b hb => by omega
        have hbZ : Below wc.heap.size wc Z := by rw [hZ]; exact hbnz
        have hub2 : u.Bl (wc.heap.size ≤ ·) := hub.mono fun b hb => hb
        have hJB : wc.heap.size ≤ w4.heap.size := hbn.size
        have lJ : w4.heap.size < Z.heap.size := World.block_lt_of_cell? _ _ z0
        rw [← hZ]
        rw [← hZ] at hHeld
        clear hZ hbnz hbz hui hub hb4
        generalize w4.heap.size = JB at *
        have HFX : Hid _ := HFIN.out ((Z.setCell ⟨JB, 0, none⟩ (.int .i64 u.k)).setCell ⟨JB, 1, none⟩ (.slice u.a u.l.length u.c)) u ((hbZ.setCell hJB _).setCell hJB _) hu (set_keeps (io := 0) huz hux) hub2
        have hsc := set_cells (io := 0) (u := .int .i64 u.k) (v := .slice u.a u.l.length u.c) z0 z1
        have hbX : Below wc.heap.size wc ((Z.setCell ⟨JB, 0, none⟩ (.int .i64 u.k)).setCell ⟨JB, 1, none⟩ (.slice u.a u.l.length u.c)) := (hbZ.setCell hJB _).setCell hJB _
        have HXS : Hid _ := HS.out _ hbX
        clear hbX
        simp only [Nat.zero_add] at hsc
        refine oneH (i := 8) rfl (by kernel_rfl) (fun K hK => ?_)
        go_simp
        refine hK.out _ _ HXS.out (fun hHeld => ?_)
        clear hK K
        refine wpAnyH_done (by kernel_rfl) ?_ _
        obtain ⟨X, hX⟩ : ∃ X, X = ((Z.setCell ⟨JB, 0, none⟩ (.int .i64 u.k)).setCell ⟨JB, 1, none⟩ (.slice u.a u.l.length u.c)) := ⟨_, rfl⟩
        rw [← hX] at HFX hsc
        rw [← hX]
        obtain ⟨k0, k1⟩ := hsc
        have lX : JB < X.heap.size := World.block_lt_of_cell? _ _ k0
        clear hX HXS hHeld z0 z1 zf0 zf1 huz hux hbZ hub2 hJB lJ hu
        go_wp2_with fail
        go_meet
        case rel => exact ⟨some ⟨b1, o1, none⟩, ch, some ⟨X.heap.size, 0, none⟩, 3, [leaf 2, u, u], rfl, rfl, HFX.out⟩
      · go_simp
        refine hK.out _ _ (HS.out _ hbda) (fun hHeld => ?_)
        clear hK K
        refine oneH (i := 6) rfl (by kernel_rfl) (fun K hK => ?_)
        go_simp
        go_at_call 92
        refine (HJ.out _ hbda).mono ?_
        rintro e Z ⟨u, rfl, hu, huz, hub, hb4⟩
        have hbZ : Below wc.heap.size wc Z := hbda.trans (hb4.mono hbda.size)
        refine hK.out _ _ (HS.out _ hbZ) (fun hHeld => ?_)
        clear hK K
        have z0 : Z.cell? ⟨wc.heap.size, 0, none⟩ = some (.int .i64 0) := cell_later hb4 (by simp [go_sem])
        have z1 : Z.cell? ⟨wc.heap.size, 1, none⟩ = some (.slice none 0 0) := cell_later hb4 (by simp [go_sem])
        have zf0 : Z.frozen? ⟨wc.heap.size, 0, none⟩ = false := (hb4.frozen (p := ⟨wc.heap.size, 0, none⟩) (by simp)).trans (by simp [go_sem])
        have zf1 : Z.frozen? ⟨wc.heap.size, 1, none⟩ = false := (hb4.frozen (p := ⟨wc.heap.size, 1, none⟩) (by simp)).trans (by simp [go_sem])
        have hux : u.Bl (· ≠ wc.heap.size) := hub.mono fun b hb => by simp at hb; omega
        have hub2 : u.Bl (wc.heap.size ≤ ·) := hub.mono fun b hb => by simp at hb; omega
        have lJ : wc.heap.size < Z.heap.size := World.block_lt_of_cell? _ _ z0
        have hJB : wc.heap.size ≤ wc.heap.size := Nat.le_refl _
        obtain ⟨JB, hJ⟩ : ∃ J, J = wc.heap.size := ⟨_, rfl⟩
        rw [← hJ] at z0 z1 zf0 zf1 hux lJ
        have hJB : wc.heap.size ≤ JB := by omega
        rw [show (some ⟨wc.heap.size, 0, none⟩ : Option Addr) = some ⟨JB, 0, none⟩ by rw [hJ]]
        clear hJ hub hb4
        have HFX : Hid _ := HFIN.out ((Z.setCell ⟨JB, 0, none⟩ (.int .i64 u.k)).setCell ⟨JB, 1, none⟩ (.slice u.a u.l.length u.c)) u ((hbZ.setCell hJB _).setCell hJB _) hu (set_keeps (io := 0) huz hux) hub2
        have hsc := set_cells (io := 0) (u := .int .i64 u.k) (v := .slice u.a u.l.length u.c) z0 z1
        have hbX : Below wc.heap.size wc ((Z.setCell ⟨JB, 0, none⟩ (.int .i64 u.k)).setCell ⟨JB, 1, none⟩ (.slice u.a u.l.length u.c)) := (hbZ.setCell hJB _).setCell hJB _
        have HXS : Hid _ := HS.out _ hbX
        clear hbX
        simp only [Nat.zero_add] at hsc
        refine oneH (i := 8) rfl (by kernel_rfl) (fun K hK => ?_)
        go_simp
        refine hK.out _ _ HXS.out (fun hHeld => ?_)
        clear hK K
        refine wpAnyH_done (by kernel_rfl) ?_ _
        obtain ⟨X, hX⟩ : ∃ X, X = ((Z.setCell ⟨JB, 0, none⟩ (.int .i64 u.k)).setCell ⟨JB, 1, none⟩ (.slice u.a u.l.length u.c)) := ⟨_, rfl⟩
        rw [← hX] at HFX hsc
        rw [← hX]
        obtain ⟨k0, k1⟩ := hsc
        have lX : JB < X.heap.size := World.block_lt_of_cell? _ _ k0
        clear hX HXS hHeld z0 z1 zf0 zf1 huz hux hbZ hub2 hJB lJ hu
        go_wp2_with fail
        go_meet
        case rel => exact ⟨some ⟨b1, o1, none⟩, ch, some ⟨X.heap.size, 0, none⟩, 3, [leaf 2, u, u], rfl, rfl, HFX.out⟩
    · -- kind 7
      obtain ⟨ah, ch, aw, cw, hvh, hvw, hP⟩ := P3.of HT.out.1 HBV.out HQ1.out.2.2.1
      subst hvh hvw
      have HN : Hid (ts.map Tr.ty = us ∧ P3 x w V0 Q1 ah ch ts aw cw ts wc) := by
        refine ⟨?_, hP⟩
        have hu := HRD.out.2.1
        rw [hk, ← HTS.out] at hu
        have : some (Ty.mk 3 [x.t.ty, (ts.map Tr.ty).getD 0 ⟨0, []⟩], ts.map Tr.ty) = some (ty0, us) := by simpa [ruleY] using hu
        cases this
        rfl
      rw [hk] at d0
      clear hk hP HT HTS
      go_wp2_with fail
      go_meet
      case rel => exact ⟨ah, ch, aw, cw, ts, rfl, rfl, HN⟩
    · -- kind 8
      obtain ⟨t0, t1, rfl⟩ : ∃ t0 t1, ts = [t0, t1] := by
        match ts, (show ts.length = 2 by rw [HT.out.2.1, HF.out.2.2.2.2.1, hk]; rfl) with
        | [t0, t1], _ => exact ⟨t0, t1, rfl⟩
      obtain ⟨ah, ch, g, cw, hvh, hvw, hP⟩ := P2.of HT.out.1 HBV.out HQ1.out.2.2.1 (by simp)
      subst hvh hvw
      obtain ⟨b0, o0, ew0, c0, c1, _⟩ := hP.wv.part 0 (by simp)
      obtain ⟨rfl, rfl⟩ : g = b0 ∧ 0 = o0 := by simpa using ew0
      obtain ⟨b1, o1, ew1, c2, c3, _⟩ := hP.wv.part 1 (by simp)
      obtain ⟨rfl, rfl⟩ : g = b1 ∧ 0 = o1 := by simpa using ew1
      simp only [List.getElem_cons_zero, List.getElem_cons_succ, Nat.zero_mul, Nat.add_zero, Nat.zero_add, Nat.one_mul] at c0 c1 c2 c3
      obtain ⟨bh, oh, ea, e0, e1, hi0h⟩ := hP.hv.part 0 (by simp)
      simp only [List.getElem_cons_zero, Nat.zero_mul, Nat.add_zero] at e0 e1 ea hi0h
      subst ea
      have hwf := hP.wf
      have hgl := hP.gl
      have lg : g < wc.heap.size := hgl.2.2
      have lbh : bh < wc.heap.size := World.block_lt_of_cell? _ _ e0
      have hcall : callY t0.ty = some (ty0, us) := by
        have hr := HRD.out.2.1
        rw [hk, ← HTS.out] at hr
        simpa [ruleY] using hr
      obtain ⟨p0, _, _⟩ := good_facts (by omega) (HTG.out.2 t0 (by simp))
      by_cases hz : t0.k = 0
      · have HUS : Hid (us = [⟨3, [⟨0, []⟩, ⟨0, []⟩]⟩, ⟨0, []⟩]) := by
          unfold callY at hcall
          rw [Tr.ty_k, if_pos hz] at hcall
          cases hcall
          rfl
        have HFUN : Hid (∀ W, Below wc.heap.size wc W → Calls Tryz.prog 93 #[.agg #[.int .i64 0, .slice none 0 0], .agg #[.int .i64 0, .slice none 0 0]] W fun e w' => ∃ gg, e = .returned (.agg #[.int .i64 3, .slice (some ⟨gg, 0, none⟩) 2 2]) ∧ Hid ((Tr.mk 3 (some ⟨gg, 0, none⟩) 2 [leaf 0, leaf 0]).In w' ∧ wc.heap.size ≤ gg) ∧ Below wc.heap.size wc w') := fun W h => by
          refine (fun_any (leaf 0) (leaf 0) W (leaf_in 0 _) (leaf_in 0 _)).mono ?_
          rintro e w' ⟨gg, hgg, rfl, hi, hb⟩
          exact ⟨gg, rfl, ⟨hi, by have := h.size; omega⟩, h.trans (hb.mono h.size)⟩
        have HA0 : Hid (∀ W, Below wc.heap.size wc W → Calls Tryz.prog 56 #[] W fun e w' => e = .returned (.agg #[.int .i64 0, .slice none 0 0]) ∧ Below wc.heap.size wc w') := fun W h => by
          refine (any0_any W).mono ?_
          rintro e w' ⟨rfl, rfl⟩
          exact ⟨rfl, h.alloc h.size _⟩
        have HFIN : Hid (∀ (W : World) (gg : Nat), Below wc.heap.size wc W → Hid ((Tr.mk 3 (some ⟨gg, 0, none⟩) 2 [leaf 0, leaf 0]).In W ∧ wc.heap.size ≤ gg) → Hid ([Tr.mk 3 (some ⟨gg, 0, none⟩) 2 [leaf 0, leaf 0], leaf 0].map Tr.ty = us ∧ P3 x w V0 Q1 (some ⟨bh, oh, none⟩) ch [t0, t1] (some ⟨g, 0, none⟩) cw [Tr.mk 3 (some ⟨gg, 0, none⟩) 2 [leaf 0, leaf 0], leaf 0] ((((W.setCell ⟨g, 0, none⟩ (.int .i64 3)).setCell ⟨g, 1, none⟩ (.slice (some ⟨gg, 0, none⟩) 2 2)).setCell ⟨g, 2, none⟩ (.int .i64 0)).setCell ⟨g, 3, none⟩ (.slice none 0 0)))) := by
          intro W gg hW hF
          refine ⟨by rw [HUS.out]; simp [Tr.ty_mk, leaf_ty], ?_⟩
          have hbF : (Tr.mk 3 (some ⟨gg, 0, none⟩) 2 [leaf 0, leaf 0]).Bl (fun b => Q1 b ∧ b ≠ g) := Tr.Bl_two ⟨HQ1.out.2.2.1 gg (by have := hF.out.2; omega), by have := hF.out.2; omega⟩ (leaf_bl 0 _) (leaf_bl 0 _)
          have h1 := (hP.below hW).set (j := 0) (o := 0) (o1 := 1) (u := Tr.mk 3 (some ⟨gg, 0, none⟩) 2 [leaf 0, leaf 0]) (by simp) rfl rfl hF.out.1 hbF
          have h2 := h1.set (j := 1) (o := 2) (o1 := 3) (u := leaf 0) (by simp) rfl rfl (leaf_in 0 _) (leaf_bl 0 _)
          exact h2.fin HQ1.out.2.2.1
        have HWC : Hid (∀ W, Below wc.heap.size wc W → W.cell? ⟨g, 0, none⟩ = some (.int .i64 t0.k) ∧ W.cell? ⟨g, 1, none⟩ = some (.slice t0.a t0.l.length t0.c) ∧ W.cell? ⟨g, 2, none⟩ = some (.int .i64 t1.k) ∧ W.cell? ⟨g, 3, none⟩ = some (.slice t1.a t1.l.length t1.c) ∧ W.frozen? ⟨g, 0, none⟩ = false ∧ W.frozen? ⟨g, 1, none⟩ = false ∧ W.frozen? ⟨g, 2, none⟩ = false ∧ W.frozen? ⟨g, 3, none⟩ = false) := fun W h =>
          ⟨cell_later h c0, cell_later h c1, cell_later h c2, cell_later h c3, (h.frozen (p := ⟨g, 0, none⟩) lg).trans (hwf 0), (h.frozen (p := ⟨g, 1, none⟩) lg).trans (hwf 1), (h.frozen (p := ⟨g, 2, none⟩) lg).trans (hwf 2), (h.frozen (p := ⟨g, 3, none⟩) lg).trans (hwf 3)⟩
        rw [hz] at e0
        rw [hk] at d0
        have hbn : Below wc.heap.size wc wc := Below.refl _ _
        clear hk hP HT HTS ew0 ew1 hgl hcall p0 hi0h c0 c1 c2 c3 hwf hz
        go_wp2_with (first
          | (go_at_call 56; refine (HA0.out _ hbn).mono ?_; rintro e wA ⟨rfl, hbA⟩; replace hbn := hbA)
          | (go_at_call 93; refine (HFUN.out _ hbn).mono ?_; rintro e w5 ⟨gg, rfl, hF, hb5⟩; obtain ⟨c0, c1, c2, c3, f0, f1, f2, f3⟩ := HWC.out _ hb5; obtain ⟨b5, o5, e5, y0, y1, _⟩ := hF.out.1.part 0 (by simp); obtain ⟨rfl, rfl⟩ : gg = b5 ∧ 0 = o5 := (by simpa using e5); simp only [List.getElem_cons_zero, Nat.zero_mul, Nat.add_zero, Nat.zero_add, leaf, List.length_nil] at y0 y1; have lg5 : g < w5.heap.size := World.block_lt_of_cell? _ _ c0; have lgg : gg < w5.heap.size := World.block_lt_of_cell? _ _ y0; have hne : gg ≠ g := (by have := hF.out.2; omega); have hne' : g ≠ gg := (fun e => hne e.symm)))
        have HN : Hid _ := HFIN.out _ gg hb5 hF
        clear HFIN hF hb5 hbn
        go_meet
        case rel => exact ⟨some ⟨bh, oh, none⟩, ch, some ⟨g, 0, none⟩, cw, [Tr.mk 3 (some ⟨gg, 0, none⟩) 2 [leaf 0, leaf 0], leaf 0], rfl, rfl, HN.out⟩
      · have h3 : t0.k = 3 := by
          unfold callY at hcall
          rw [Tr.ty_k, if_neg hz] at hcall
          split at hcall
          · assumption
          · cases hcall
        obtain ⟨u, v, hl⟩ : ∃ u v, t0.l = [u, v] := by
          rcases p0.cases with ⟨_, hk⟩ | ⟨u, v, hl, _⟩
          · omega
          · exact ⟨u, v, hl⟩
        have HUS : Hid (us = [t0.ty, u.ty]) := by
          unfold callY at hcall
          rw [Tr.ty_k, if_neg hz, if_pos h3, Tr.ty_l, hl] at hcall
          cases hcall
          rfl
        obtain ⟨g2, o2, eb, y0, y1, hiu⟩ := hi0h.part 0 (by simp [hl])
        simp only [hl, List.getElem_cons_zero, Nat.zero_mul, Nat.add_zero] at y0 y1 hiu
        have hlen2 : t0.l.length = 2 := by rw [hl]; rfl
        have hbt := hP.wb t0 (by simp)
        have hbu : u.Bl (fun b => Q1 b ∧ b ≠ g) := by
          obtain ⟨k, a, c, l⟩ := t0
          simp only at hl
          exact (Tr.Bl_mk.1 hbt).2 u (by rw [hl]; simp)
        have hg2b : g2 ≠ g := by
          obtain ⟨k, a, c, l⟩ := t0
          simp only at eb hl
          exact ((Tr.Bl_mk.1 hbt).1 (by rw [hl]; simp) _ eb).2
        have hg2b' : g ≠ g2 := fun e => hg2b e.symm
        have lg2 : g2 < wc.heap.size := World.block_lt_of_cell? _ _ y0
        have HN : Hid ([t0, u].map Tr.ty = us ∧ P3 x w V0 Q1 (some ⟨bh, oh, none⟩) ch [t0, t1] (some ⟨g, 0, none⟩) cw [t0, u] ((wc.setCell ⟨g, 2, none⟩ (.int .i64 u.k)).setCell ⟨g, 3, none⟩ (.slice u.a u.l.length u.c))) := by
          refine ⟨by rw [HUS.out]; rfl, ?_⟩
          have h1 := hP.set (j := 1) (o := 2) (o1 := 3) (u := u) (by simp) rfl rfl hiu hbu
          exact h1.fin HQ1.out.2.2.1
        have hz' : (t0.k == 0) = false := by simpa using hz
        have f2 := hwf 2
        have f3 := hwf 3
        rw [eb, hlen2] at c1
        rw [hk] at d0
        clear hk hP HT HTS ew0 ew1 hgl hcall p0 hi0h hwf hz h3 hl hbt hbu hiu eb hlen2
        go_wp2_with fail
        go_meet
        case rel => exact ⟨some ⟨bh, oh, none⟩, ch, some ⟨g, 0, none⟩, cw, [t0, u], rfl, rfl, HN⟩
    · -- kind 9
      obtain ⟨t0, rfl⟩ : ∃ t0, ts = [t0] := by
        match ts, (show ts.length = 1 by rw [HT.out.2.1, HF.out.2.2.2.2.1, hk]; rfl) with
        | [t0], _ => exact ⟨t0, rfl⟩
      obtain ⟨ah, ch, g, cw, hvh, hvw, hP⟩ := P2.of HT.out.1 HBV.out HQ1.out.2.2.1 (by simp)
      subst hvh hvw
      obtain ⟨b0, o0, ew0, c0, c1, _⟩ := hP.wv.part 0 (by simp)
      obtain ⟨rfl, rfl⟩ : g = b0 ∧ 0 = o0 := by simpa using ew0
      simp only [List.getElem_cons_zero, Nat.zero_mul, Nat.add_zero, Nat.zero_add] at c0 c1
      have d2 := hP.bx.box.at7.c2
      have d3 := hP.bx.box.at7.c3
      simp only [Nat.zero_add] at d2 d3
      have hwf := hP.wf
      have hgl := hP.gl
      have lg : g < wc.heap.size := hgl.2.2
      have hxt : x.t.In wc := (HX.out.1.below hP.bx.low).t
      have HN : Hid ([x.t].map Tr.ty = us ∧ P3 x w V0 Q1 ah ch [t0] (some ⟨g, 0, none⟩) cw [x.t] ((wc.setCell ⟨g, 0, none⟩ (.int .i64 x.t.k)).setCell ⟨g, 1, none⟩ (.slice x.t.a x.t.l.length x.t.c))) := by
        refine ⟨?_, ?_⟩
        · have hu := HRD.out.2.1
          rw [hk] at hu
          have : some (x.t.ty, [x.t.ty]) = some (ty0, us) := by simpa [ruleY] using hu
          cases this
          rfl
        · have h1 := hP.set (j := 0) (o := 0) (o1 := 1) (u := x.t) (by simp) rfl rfl hxt ((HQ1.out.1.t.and HX.out.1.t.bl).mono fun b hb => ⟨hb.1, by omega⟩)
          exact h1.fin HQ1.out.2.2.1
      have hw0 := hwf 0
      have hw1 := hwf 1
      rw [hk] at d0
      clear hk hP HT HTS ew0 hgl hxt
      go_wp2_with fail
      go_meet
      case rel => exact ⟨ah, ch, some ⟨g, 0, none⟩, cw, [x.t], rfl, rfl, HN⟩
  case rest =>
  obtain ⟨ah, ch, aw, cw, uu, hvh, rfl, HP⟩ := hcut
  obtain ⟨V3, hV3⟩ : ∃ V, V = wc := ⟨_, rfl⟩
  subst hV3
  subst hvh
  clear HT HTS
  have HUU : Hid (uu.length = us.length ∧ us.length = x.l.length ∧ ts.length = x.l.length) := by
    have hr := rule_good 904 (by omega) hk1 hk9 (by rw [List.length_map, HPS.out.1]; exact HF.out.2.2.2.2.1) (by rw [← goodT_eq]; exact HF.out.1) (takes := tk) (fun u hu => by
      have hnl := HNL.out
      rw [← hnl.1] at hu
      obtain ⟨z, hz, rfl⟩ := List.mem_map.1 hu
      rw [← goodT_eq]
      exact hnl.2.2.2.1 z hz) (fun u hu => by
      rw [← HTSY.out] at hu
      obtain ⟨z, hz, rfl⟩ := List.mem_map.1 hu
      rw [← goodT_eq]
      exact HTG.out.2 z hz) HRD.out.2.1
    refine ⟨by rw [← HP.out.1, List.length_map], ?_, HTG.out.1⟩
    rw [hr.1, List.length_map, HPS.out.1]
  have hB := HP.out.2.bx
  obtain ⟨q0, q1, q2, q3, q4, q5, q6⟩ := hB.box.at7
  simp only [Nat.zero_add] at q0 q1 q2 q3 q4 q5 q6
  have qf6 := hB.box.fz 6 (by omega)
  have us1 : w.heap.size + 1 + 1 < V3.heap.size := hB.lt
  obtain ⟨TT0, hTT0⟩ : ∃ T, T = castL ps us := ⟨_, rfl⟩
  have HTT : Hid (TT0 = castL ps us ∧ TT0.length = x.l.length ∧ ∀ j (h : j < TT0.length) (h1 : j < ps.length) (h2 : j < us.length), TT0[j] = castY (ps[j].1 : Int) ps[j].2.1 ps[j].2.2 us[j]) := by
    subst hTT0
    have e := HUU.out.2.1
    refine ⟨rfl, by rw [castL_length _ _ (by rw [HPS.out.1, e]), HPS.out.1], fun j h h1 h2 => castL_at ps us j h1 h2 h⟩
  clear hTT0
  obtain ⟨V4, hV4⟩ : ∃ V, V = V3.setCell ⟨w.heap.size, 6, none⟩ (.slice none 0 0) := ⟨_, rfl⟩
  have HC0 : Hid (CW Q1 w.heap.size x V3 TT0 0 (.slice none 0 0) [] V4) := by
    rw [hV4]
    refine ⟨RowT.nil _ _ _, by simp, ⟨none, 0, rfl, ?_⟩, setR_kept⟩
    exact hB.box.set6 (a' := none) (c' := 0) (l' := [])
  have HXC : Hid (x.In V3 ∧ N.In V3) := ⟨HX.out.1.below hB.low, HNL.out.2.1.below HP.out.2.low⟩
  have hcb : (c : Int) ≤ 900 := by have := HF.out.2.2.2.2.2.1; omega
  clear hB
  apply_assumption
  go_wp2_with fail
  rw [← hV4]
  clear hV4 q0 q1 q2 q3 q4 q5 q6 qf6
  go_loopg [17, 110] x.l.length (fun g s17 i wr => ∃ (v : Value) (j : Nat) (cs : List TT) (m : Nat), j ≤ x.l.length ∧ g = x.l.length - j ∧ i = .int .i64 (j : Int) ∧ s17 = .int .i64 (m : Int) ∧ Hid (CW Q1 w.heap.size x V3 TT0 j v cs wr ∧ m = c + 1 + ((x.l.take j).map TT.sz).sum))
  case atStart => exact ⟨_, 0, [], c + 1, Nat.zero_le _, rfl, rfl, by go_num, HC0, by simp⟩
  case round =>
    obtain ⟨v, j, cs, m, hj, hg, rfl, rfl, HC⟩ := hrel
    have HG : Hid (gk = x.l.length - j) := hg
    clear hg HC0
    by_cases hlt : j < x.l.length
    · obtain ⟨b, o, ea, ⟨x0, x1, x2, x3, x4, x5, x6⟩, hxj⟩ := HXC.out.1.part j hlt
      obtain ⟨b', o', ea', h7', hxw⟩ := HX.out.1.part j hlt
      rw [ea] at ea'
      obtain ⟨rfl, rfl⟩ : b = b' ∧ o = o' := by simpa using ea'
      have hblt : b < w.heap.size := h7'.lt
      have hkp := HC.out.1.kp
      have hsz := hkp.size
      have hbne : b ≠ w.heap.size := by omega
      replace x0 := hkp.cell x0 hbne
      replace x1 := hkp.cell x1 hbne
      replace x2 := hkp.cell x2 hbne
      replace x3 := hkp.cell x3 hbne
      replace x4 := hkp.cell x4 hbne
      replace x5 := hkp.cell x5 hbne
      replace x6 := hkp.cell x6 hbne
      obtain ⟨y, hy⟩ : ∃ y, y = x.l[j] := ⟨_, rfl⟩
      rw [← hy] at x0 x1 x2 x3 x4 x5 x6 hxj hxw
      have hym : y ∈ x.l := by rw [hy]; exact List.getElem_mem hlt
      have HY : Hid (y = x.l[j] ∧ y ∈ x.l) := ⟨hy, hym⟩
      have i1 : (j : Int) < (x.l.length : Int) := by omega
      have i2 : (0 : Int) ≤ (j : Int) := by omega
      have lb : b < wr.heap.size := World.block_lt_of_cell? _ _ x0
      have hov : ∀ k, v.ownBlock = some k → V3.heap.size ≤ k ∧ k < wr.heap.size := HC.out.1.row.lt
      have hpj : j < ps.length := by have := HPS.out.1; omega
      have huj : j < us.length := by have := HUU.out; omega
      have hyr : y.In wr := hxj.keptR hkp (hxw.bl.mono fun b hb => by omega)
      have hNr : N.In wr := HXC.out.2.keptR hkp (HNL.out.2.2.1.mono fun b hb => (HQ1.out.2.2.2 b hb).2.2)
      have hb1 : Below wr.heap.size wr (wr.alloc (.cells #[.int .i64 y.k, .int .i64 y.n, .int .i64 y.t.k, .slice y.t.a y.t.l.length y.t.c, .int .i64 y.f.k, .slice y.f.a y.f.l.length y.f.c, .slice y.a y.l.length y.c] 27)) := (Below.refl _ _).alloc (Nat.le_refl _) _
      have hmsz : m + y.sz ≤ c + x.sz ∧ m = ps[j].1 := by
        have h1 := HC.out.2
        have h2 := x.sz_eq
        have h3 : ((x.l.take (j + 1)).map TT.sz).sum = ((x.l.take j).map TT.sz).sum + y.sz := by
          rw [List.take_succ_eq_append_getElem hlt, List.map_append, List.sum_append, hy]
          simp
        have h4 : ((x.l.take (j + 1)).map TT.sz).sum ≤ (x.l.map TT.sz).sum := sum_take_le TT.sz x.l (j + 1)
        exact ⟨by omega, by rw [(HPS.out.2 j hlt hpj).1]; omega⟩
      have HI : Hid (Calls Tryz.prog 58 #[.agg #[.int .i64 y.k, .int .i64 y.n, .int .i64 y.t.k, .slice y.t.a y.t.l.length y.t.c, .int .i64 y.f.k, .slice y.f.a y.f.l.length y.f.c, .slice y.a y.l.length y.c], .slice N.a N.l.length N.c, .int .i64 (m : Int)] (wr.alloc (.cells #[.int .i64 y.k, .int .i64 y.n, .int .i64 y.t.k, .slice y.t.a y.t.l.length y.t.c, .int .i64 y.f.k, .slice y.f.a y.f.l.length y.f.c, .slice y.a y.l.length y.c] 27)) (WcPost (fun b => Q1 b ∧ some b ≠ v.ownBlock) ps[j].2.1 (wr.alloc (.cells #[.int .i64 y.k, .int .i64 y.n, .int .i64 y.t.k, .slice y.t.a y.t.l.length y.t.c, .int .i64 y.f.k, .slice y.f.a y.f.l.length y.f.c, .slice y.a y.l.length y.c] 27)))) := by
        have hnl := HNL.out
        have hys := HSZ.out y hym
        refine ih.out y hym _ N m _ (hyr.below hb1) (hNr.below hb1) (by rw [hnl.2.2.2.2]; exact HF.out.2.2.2.1 y hym) hnl.2.2.2.1 ?_ ?_ ?_ ?_ ?_ ps[j].2.1 ps[j].2.2 ?_
        · have := HF.out.2.2.1
          rw [hnl.2.2.2.2]
          split <;> omega
        · have := HF.out.2.2.2.2.2.1
          omega
        · have h1 : y.Bl Q1 := HQ1.out.1.mem hym
          exact (h1.and hxw.bl).mono fun b hb => ⟨hb.1, fun e => by have := (hov b e.symm).1; omega⟩
        · exact (hnl.2.2.1.and HXC.out.2.bl).mono fun b hb => ⟨hb.1, fun e => by have := (hov b e.symm).1; omega⟩
        · intro b hb
          simp at hb
          exact ⟨HQ1.out.2.2.1 b (by omega), fun e => by have := (hov b e.symm).2; omega⟩
        · rw [hnl.1, hmsz.2, hy]
          exact (HPS.out.2 j hlt hpj).2.1
      -- what it has, what it is wanted as
      obtain ⟨th, hth⟩ : ∃ t, t = ts[j]'(by have := HUU.out; omega) := ⟨_, rfl⟩
      obtain ⟨uw, huw⟩ : ∃ t, t = uu[j]'(by have := HUU.out; omega) := ⟨_, rfl⟩
      obtain ⟨bh, oh, eh, h0, h1, hih⟩ := HP.out.2.hv.part j (by show j < ts.length; have := HUU.out; omega)
      obtain ⟨bw, ow, ew, w0, w1, hiw⟩ := HP.out.2.wv.part j (by show j < uu.length; have := HUU.out; omega)
      simp only at eh ew h0 h1 w0 w1 hih hiw
      rw [← hth] at h0 h1 hih
      rw [← huw] at w0 w1 hiw
      have hbhQ : Q1 bh := by have := (Tr.Bl_mk.1 HP.out.2.hb).1 (fun e => by have := HUU.out; rw [e] at this; simp at this; omega) _ eh; exact this
      have hbwQ : Q1 bw := by have := (Tr.Bl_mk.1 HP.out.2.wb).1 (fun e => by have := HUU.out; rw [e] at this; simp at this; omega) _ ew; exact this
      have hthQ : th.Bl Q1 := (Tr.Bl_mk.1 HP.out.2.hb).2 th (by rw [hth]; exact List.getElem_mem _)
      have huwQ : uw.Bl Q1 := (Tr.Bl_mk.1 HP.out.2.wb).2 uw (by rw [huw]; exact List.getElem_mem _)
      have hneH : ∀ b, Q1 b → b ≠ w.heap.size := fun b hb => (HQ1.out.2.2.2 b hb).2.2
      replace h0 := hkp.cell h0 (hneH bh hbhQ)
      replace h1 := hkp.cell h1 (hneH bh hbhQ)
      replace w0 := hkp.cell w0 (hneH bw hbwQ)
      replace w1 := hkp.cell w1 (hneH bw hbwQ)
      have hthr : th.In wr := hih.keptR hkp (hthQ.mono hneH)
      have huwr : uw.In wr := hiw.keptR hkp (huwQ.mono hneH)
      have hthlt : th.Bl (· < V3.heap.size) := hih.bl
      have huwlt : uw.Bl (· < V3.heap.size) := hiw.bl
      have htg := HTG.out.2 th (by rw [hth]; exact List.getElem_mem _)
      obtain ⟨pr, ph, psm⟩ := good_facts (by omega) htg
      obtain ⟨r, hr⟩ : ∃ r, r = relY escSame th.ty uw.ty := ⟨_, rfl⟩
      have HTJ : Hid (TT0[j]'(by rw [HTT.out.2.1]; exact hlt) = if r = true then ps[j].2.1 else ⟨10, (m : Int), uw.ty, th.ty, [ps[j].2.1]⟩) := by
        have e1 : ps[j].2.2 = th.ty := by
          have := congrArg (fun l => l[j]?) HTSY.out
          simp only [List.getElem?_map, List.getElem?_eq_getElem hpj, List.getElem?_eq_getElem (show j < ts.length by have := HUU.out; omega), Option.map_some, Option.some.injEq] at this
          rw [← this, hth]
        have e2 : us[j] = uw.ty := by
          have := congrArg (fun l => l[j]?) HP.out.1
          simp only [List.getElem?_map, List.getElem?_eq_getElem huj, List.getElem?_eq_getElem (show j < uu.length by have := HUU.out; omega), Option.map_some, Option.some.injEq] at this
          rw [← this, huw]
        show _ = _
        rw [HTT.out.2.2 j (by rw [HTT.out.2.1]; exact hlt) hpj huj, castY, e1, e2, ← hr, ← hmsz.2]
      have HXA : Hid (x.a = some ⟨b, o, none⟩) := ea
      have HTHW : Hid (th.In wr ∧ uw.In wr ∧ th.Bl (fun b => Q1 b ∧ b < V3.heap.size) ∧ uw.Bl (fun b => Q1 b ∧ b < V3.heap.size)) := ⟨hthr, huwr, hthQ.and hthlt, huwQ.and huwlt⟩
      have lbh : bh < wr.heap.size := World.block_lt_of_cell? _ _ h0
      have lbw : bw < wr.heap.size := World.block_lt_of_cell? _ _ w0
      have jl1 : (j : Int) < (ts.length : Int) := by have := HUU.out; omega
      have jl2 : (j : Int) < (uu.length : Int) := by have := HUU.out; omega
      have hmb : (m : Int) ≤ 900 := by have := HF.out.2.2.2.2.2.1; omega
      have HS16 : Hid (∀ W, Below wr.heap.size wr W → Calls Tryz.prog 39 #[.agg #[.int .i64 th.k, .slice th.a th.l.length th.c], .agg #[.int .i64 uw.k, .slice uw.a uw.l.length uw.c]] W fun e w' => e = .returned (.bool r) ∧ Below W.heap.size W w') := fun W h => by
        have := sameType_any 1000 th uw W (hthr.below h) (huwr.below h) ph psm
        rw [← hr] at this
        exact this
      have hyszb : y.sz ≤ 900 := by have := HSZ.out y hym; have := HF.out.2.2.1; omega
      have HND : Hid (∀ W, y.In W → Calls Tryz.prog 60 #[.agg #[.int .i64 y.k, .int .i64 y.n, .int .i64 y.t.k, .slice y.t.a y.t.l.length y.t.c, .int .i64 y.f.k, .slice y.f.a y.f.l.length y.f.c, .slice y.a y.l.length y.c]] W fun e w' => e = .returned (.int .i64 (y.sz : Int)) ∧ Below W.heap.size W w') := fun W h => nodesOf_any y W h (by omega)
      have HYV : Hid (y.In V3 ∧ y.Bl (· < w.heap.size)) := ⟨hxj, hxw.bl⟩
      have HMS : Hid (m + y.sz = c + 1 + ((x.l.take (j + 1)).map TT.sz).sum) := by
        have h3 : ((x.l.take (j + 1)).map TT.sz).sum = ((x.l.take j).map TT.sz).sum + y.sz := by
          rw [List.take_succ_eq_append_getElem hlt, List.map_append, List.sum_append, hy]
          simp
        have := HC.out.2
        show _ = _
        omega
      have hy7 : At7 (wr.alloc (.cells #[.int .i64 y.k, .int .i64 y.n, .int .i64 y.t.k, .slice y.t.a y.t.l.length y.t.c, .int .i64 y.f.k, .slice y.f.a y.f.l.length y.f.c, .slice y.a y.l.length y.c] 27)) wr.heap.size 0 y := by constructor <;> simp [go_sem]
      have HYS : Hid (m + y.sz ≤ c + x.sz) := hmsz.1
      obtain ⟨Y1, hY1⟩ : ∃ Y, Y = ps[j].2.1 := ⟨_, rfl⟩
      rw [← hY1] at HI HTJ
      clear hY1
      rw [ea]
      subst eh ew
      clear ea hxj hxw hy hym ih h7' hyr hNr hmsz hth huw hih hiw hbhQ hbwQ hthQ huwQ hneH hthr huwr hthlt huwlt htg pr ph psm hr hkp ea' hpj huj
      go_wp2_with fail
      refine HI.out.mono ?_
      rintro e w2 ⟨z, rfl, hzt, hzi, hzb, hb2⟩
      have hb12 : Below wr.heap.size wr w2 := hb1.trans (hb2.mono hb1.size)
      replace hy7 := hy7.below hb2
      have hJr0 : wr.heap.size < w2.heap.size := hy7.lt
      obtain ⟨W2, hW2⟩ : ∃ W, W = w2.alloc (.cells #[.int .i64 z.k, .int .i64 z.n, .int .i64 z.t.k, .slice z.t.a z.t.l.length z.t.c, .int .i64 z.f.k, .slice z.f.a z.f.l.length z.f.c, .slice z.a z.l.length z.c] 27) := ⟨_, rfl⟩
      have hbW : Below w2.heap.size w2 W2 := by rw [hW2]; exact (Below.refl _ _).alloc (Nat.le_refl _) _
      have hbrW : Below wr.heap.size wr W2 := hb12.trans (hbW.mono hb12.size)
      have hbx2 : Box7 W2 w2.heap.size z := by
        rw [hW2]
        refine ⟨⟨?_, ?_, ?_, ?_, ?_, ?_, ?_⟩, fun i hi => ?_⟩ <;> simp [go_sem]
      obtain ⟨JB, hJB⟩ : ∃ J, J = w2.heap.size := ⟨_, rfl⟩
      rw [← hJB] at hbx2
      have HZ : Hid (z.tm = Y1 ∧ z.In W2 ∧ z.Bl (fun b => Q1 b ∧ some b ≠ v.ownBlock ∧ b ≠ JB)) := ⟨hzt, hzi.below hbW, (hzb.and hzi.bl).mono fun b hb => ⟨hb.1.1, hb.1.2, by omega⟩⟩
      have hJr : wr.heap.size < JB := by omega
      have HY7 : Hid (At7 W2 wr.heap.size 0 y) := hy7.below hbW
      have HK32 : Hid (∀ W, Below wr.heap.size wr W → (fun W => W.cell? ⟨bh, oh + j * 2, none⟩ = some (.int .i64 th.k) ∧ W.cell? ⟨bh, oh + j * 2 + 1, none⟩ = some (.slice th.a th.l.length th.c) ∧ W.cell? ⟨bw, ow + j * 2, none⟩ = some (.int .i64 uw.k) ∧ W.cell? ⟨bw, ow + j * 2 + 1, none⟩ = some (.slice uw.a uw.l.length uw.c)) W) := fun W h => ⟨cell_later h h0, cell_later h h1, cell_later h w0, cell_later h w1⟩
      have hbn : Below wr.heap.size wr W2.drew := hbrW.drew
      have HBX : Hid (Box7 W2 JB z ∧ Below wr.heap.size wr W2) := ⟨hbx2, hbrW⟩
      have hbm : Below W2.heap.size W2 W2.drew := (Below.refl _ _).drew
      clear HI hzt hzi hzb hb2 hb12 hbW hbrW hbx2 hy7 hJr0 x0 x1 x2 x3 x4 x5 x6 lb
      go_upto_region 32 with fail
      rw [← hW2, ← hJB]
      clear hW2 hJB
      go_region_held3 (fun W => W.cell? ⟨bh, oh + j * 2, none⟩ = some (.int .i64 th.k) ∧ W.cell? ⟨bh, oh + j * 2 + 1, none⟩ = some (.slice th.a th.l.length th.c) ∧ W.cell? ⟨bw, ow + j * 2, none⟩ = some (.int .i64 uw.k) ∧ W.cell? ⟨bw, ow + j * 2 + 1, none⟩ = some (.slice uw.a uw.l.length uw.c))
        (first | exact HK32.out _ hbn | fail)
        (first
          | (go_at_call 39; refine (HS16.out _ hbn).mono ?_; rintro e w3 ⟨rfl, h3⟩; replace hbn := hbn.trans (h3.mono hbn.size); replace hbm := hbm.trans (h3.mono hbm.size); clear HS16)
          | fail)
      have HBW : Hid (Below wr.heap.size wr w3 ∧ Below W2.heap.size W2 w3) := ⟨hbn, hbm⟩
      clear hbn hbm h3
      go_upto_if 128 with fail
      go_cut [] (fun wx => Hid (∃ q : TT, Box7 wx JB q ∧ q.tm = (TT0[j]'(by rw [HTT.out.2.1]; exact hlt)) ∧ q.In wx ∧ q.Bl (fun b => Q1 b ∧ some b ≠ v.ownBlock ∧ b ≠ JB) ∧ Below wr.heap.size wr wx ∧ At7 wx wr.heap.size 0 y))
      case first =>
        cases r with
        | true =>
          have HN : Hid (∃ q : TT, Box7 w3 JB q ∧ q.tm = (TT0[j]'(by rw [HTT.out.2.1]; exact hlt)) ∧ q.In w3 ∧ q.Bl (fun b => Q1 b ∧ some b ≠ v.ownBlock ∧ b ≠ JB) ∧ Below wr.heap.size wr w3 ∧ At7 w3 wr.heap.size 0 y) := by
            refine ⟨z, HBX.out.1.below HBW.out.2, ?_, HZ.out.2.1.below HBW.out.2, HZ.out.2.2, HBW.out.1, HY7.out.below HBW.out.2⟩
            rw [HTJ.out, HZ.out.1]
            rfl
          go_wp2_with fail
          go_meet
          case rel => exact HN
        | false =>
          have hbd : Below w3.heap.size w3 w3.drew := (Below.refl _ _).drew
          have hs3 := HBW.out.1.size
          have hbxd : Box7 w3.drew JB z := (HBX.out.1.below HBW.out.2).below hbd
          have hbrd : Below wr.heap.size wr w3.drew := HBW.out.1.drew
          obtain ⟨UD, hUD⟩ : ∃ U, U = w3.drew := ⟨_, rfl⟩
          have hUs : UD.heap.size = w3.heap.size := by rw [hUD]; rfl
          rw [← hUD] at hbxd hbrd
          have hty : ∀ t : Tr, t.In wr → t.Bl (fun b => Q1 b ∧ b < V3.heap.size) → t.In UD ∧ t.Bl (fun b => (Q1 b ∧ some b ≠ v.ownBlock) ∧ b ≠ JB) := fun t h1 h2 =>
            ⟨h1.below hbrd, h2.mono fun b hb => ⟨⟨hb.1, fun e => by have := (hov b e.symm).1; omega⟩, by omega⟩⟩
          obtain ⟨u1, u2⟩ := hty uw HTHW.out.2.1 HTHW.out.2.2.2
          obtain ⟨t1, t2⟩ := hty th HTHW.out.1 HTHW.out.2.2.1
          have hzU : z.In UD := by rw [hUD]; exact (HZ.out.2.1.below HBW.out.2).below hbd
          obtain ⟨m1, m2, m3, m4⟩ := castNode (Q := fun b => Q1 b ∧ some b ≠ v.ownBlock) (m := (m : Int)) hbxd hzU (HZ.out.2.2.mono fun b hb => ⟨⟨hb.1, hb.2.1⟩, hb.2.2⟩) u1 t1 u2 t2 ⟨HQ1.out.2.2.1 _ (by omega), fun e => by have := (hov _ e.symm).2; omega⟩
          have HN : Hid (∃ q : TT, Box7 (put7 (UD.alloc (.cells #[.int .i64 z.k, .int .i64 z.n, .int .i64 z.t.k, .slice z.t.a z.t.l.length z.t.c, .int .i64 z.f.k, .slice z.f.a z.f.l.length z.f.c, .slice z.a z.l.length z.c] 27)) JB ⟨10, (m : Int), uw, th, some ⟨UD.heap.size, 0, none⟩, 1, [z]⟩) JB q ∧ q.tm = (TT0[j]'(by rw [HTT.out.2.1]; exact hlt)) ∧ q.In (put7 (UD.alloc (.cells #[.int .i64 z.k, .int .i64 z.n, .int .i64 z.t.k, .slice z.t.a z.t.l.length z.t.c, .int .i64 z.f.k, .slice z.f.a z.f.l.length z.f.c, .slice z.a z.l.length z.c] 27)) JB ⟨10, (m : Int), uw, th, some ⟨UD.heap.size, 0, none⟩, 1, [z]⟩) ∧ q.Bl (fun b => Q1 b ∧ some b ≠ v.ownBlock ∧ b ≠ JB) ∧ Below wr.heap.size wr (put7 (UD.alloc (.cells #[.int .i64 z.k, .int .i64 z.n, .int .i64 z.t.k, .slice z.t.a z.t.l.length z.t.c, .int .i64 z.f.k, .slice z.f.a z.f.l.length z.f.c, .slice z.a z.l.length z.c] 27)) JB ⟨10, (m : Int), uw, th, some ⟨UD.heap.size, 0, none⟩, 1, [z]⟩) ∧ At7 (put7 (UD.alloc (.cells #[.int .i64 z.k, .int .i64 z.n, .int .i64 z.t.k, .slice z.t.a z.t.l.length z.t.c, .int .i64 z.f.k, .slice z.f.a z.f.l.length z.f.c, .slice z.a z.l.length z.c] 27)) JB ⟨10, (m : Int), uw, th, some ⟨UD.heap.size, 0, none⟩, 1, [z]⟩) wr.heap.size 0 y) := by
            have hy3 : At7 UD wr.heap.size 0 y := by rw [hUD]; exact (HY7.out.below HBW.out.2).below hbd
            refine ⟨_, m1, ?_, m2, m3.mono fun b hb => ⟨hb.1.1, hb.1.2, hb.2⟩, hbrd.trans (m4 _ (by omega) (by omega)), (hy3.below ((Below.refl _ _).alloc (Nat.le_refl _) _)).keptR put7_kept (by omega)⟩
            rw [HTJ.out, if_neg (by simp), TT.tm_mk, List.map_cons, List.map_nil, HZ.out.1]
          have hbda : Below UD.heap.size UD (UD.alloc (.cells #[.int .i64 z.k, .int .i64 z.n, .int .i64 z.t.k, .slice z.t.a z.t.l.length z.t.c, .int .i64 z.f.k, .slice z.f.a z.f.l.length z.f.c, .slice z.a z.l.length z.c] 27)) := (Below.refl _ _).alloc (Nat.le_refl _) _
          obtain ⟨⟨z0, z1, z2, z3, z4, z5, z6⟩, zf⟩ := hbxd
          simp only [Nat.zero_add] at z0 z1 z2 z3 z4 z5 z6
          have hbxd : Box7 UD JB z := ⟨⟨z0, by simpa using z1, by simpa using z2, by simpa using z3, by simpa using z4, by simpa using z5, by simpa using z6⟩, zf⟩
          have lJ : JB < UD.heap.size := World.block_lt_of_cell? _ _ z0
          obtain ⟨k0, k1, k2, k3⟩ := HK32.out _ hbrd
          have lb3 : bh < UD.heap.size := World.block_lt_of_cell? _ _ k0
          have lw3 : bw < UD.heap.size := World.block_lt_of_cell? _ _ k2
          have HSU : Hid ((fun W => W.cell? ⟨bh, oh + j * 2, none⟩ = some (.int .i64 th.k) ∧ W.cell? ⟨bh, oh + j * 2 + 1, none⟩ = some (.slice th.a th.l.length th.c) ∧ W.cell? ⟨bw, ow + j * 2, none⟩ = some (.int .i64 uw.k) ∧ W.cell? ⟨bw, ow + j * 2 + 1, none⟩ = some (.slice uw.a uw.l.length uw.c)) UD) := ⟨k0, k1, k2, k3⟩
          obtain ⟨⟨a0, a1, a2, a3, a4, a5, a6⟩, af⟩ := hbxd.below hbda
          simp only [Nat.zero_add] at a0 a1 a2 a3 a4 a5 a6
          have af0 := af 0 (by omega)
          have af1 := af 1 (by omega)
          have af2 := af 2 (by omega)
          have af3 := af 3 (by omega)
          have af4 := af 4 (by omega)
          have af5 := af 5 (by omega)
          have af6 := af 6 (by omega)
          obtain ⟨ka0, ka1, ka2, ka3⟩ := HK32.out (UD.alloc (.cells #[.int .i64 z.k, .int .i64 z.n, .int .i64 z.t.k, .slice z.t.a z.t.l.length z.t.c, .int .i64 z.f.k, .slice z.f.a z.f.l.length z.f.c, .slice z.a z.l.length z.c] 27)) (hbrd.trans (hbda.mono (by omega)))
          have hbhJ : bh ≠ JB := by omega
          have hbwJ : bw ≠ JB := by omega
          have HSP : Hid ((fun W => W.cell? ⟨bh, oh + j * 2, none⟩ = some (.int .i64 th.k) ∧ W.cell? ⟨bh, oh + j * 2 + 1, none⟩ = some (.slice th.a th.l.length th.c) ∧ W.cell? ⟨bw, ow + j * 2, none⟩ = some (.int .i64 uw.k) ∧ W.cell? ⟨bw, ow + j * 2 + 1, none⟩ = some (.slice uw.a uw.l.length uw.c)) (put7 (UD.alloc (.cells #[.int .i64 z.k, .int .i64 z.n, .int .i64 z.t.k, .slice z.t.a z.t.l.length z.t.c, .int .i64 z.f.k, .slice z.f.a z.f.l.length z.f.c, .slice z.a z.l.length z.c] 27)) JB ⟨10, (m : Int), uw, th, some ⟨UD.heap.size, 0, none⟩, 1, [z]⟩)) :=
            ⟨put7_kept.cell ka0 hbhJ, put7_kept.cell ka1 hbhJ, put7_kept.cell ka2 hbwJ, put7_kept.cell ka3 hbwJ⟩
          have HSA : Hid ((fun W => W.cell? ⟨bh, oh + j * 2, none⟩ = some (.int .i64 th.k) ∧ W.cell? ⟨bh, oh + j * 2 + 1, none⟩ = some (.slice th.a th.l.length th.c) ∧ W.cell? ⟨bw, ow + j * 2, none⟩ = some (.int .i64 uw.k) ∧ W.cell? ⟨bw, ow + j * 2 + 1, none⟩ = some (.slice uw.a uw.l.length uw.c)) (UD.alloc (.cells #[.int .i64 z.k, .int .i64 z.n, .int .i64 z.t.k, .slice z.t.a z.t.l.length z.t.c, .int .i64 z.f.k, .slice z.f.a z.f.l.length z.f.c, .slice z.a z.l.length z.c] 27))) := ⟨ka0, ka1, ka2, ka3⟩
          unfold put7 at HN HSP
          clear hbda zf af hbd m1 m2 m3 m4 hzU u1 u2 t1 t2 hty hbrd hbxd h0 h1 w0 w1 lbh lbw hs3 hUs
          go_upto_region 33 with fail
          refine wp_region_held_drew (S := fun W => W.cell? ⟨bh, oh + j * 2, none⟩ = some (.int .i64 th.k) ∧ W.cell? ⟨bh, oh + j * 2 + 1, none⟩ = some (.slice th.a th.l.length th.c) ∧ W.cell? ⟨bw, ow + j * 2, none⟩ = some (.int .i64 uw.k) ∧ W.cell? ⟨bw, ow + j * 2 + 1, none⟩ = some (.slice uw.a uw.l.length uw.c)) (by kernel_rfl) ?_ ?_
          · rw [← hUD]
            exact HSU.out
          rw [← hUD]
          clear hUD
          intro hHeld
          refine takeH (i := 0) (v := ?_) rfl (by kernel_rfl) (by kernel_rfl) (by kernel_rfl) (fun _ _ _ h => h) (Or.inl ⟨by rfl, ?_⟩) hHeld ?_; rotate_left; (focus (intro w' hSw; (try dsimp only at hSw); go_split_ands; first | (go_simp; done) | (go_simp; with_reducible rfl))); simp only [Act.put, List.setIfInBounds_toArray, List.set_cons_zero, List.set_cons_succ]
          refine takeH (i := 1) (v := ?_) rfl (by kernel_rfl) (by kernel_rfl) (by kernel_rfl) (fun _ _ _ h => h) (Or.inl ⟨by rfl, ?_⟩) hHeld ?_; rotate_left; (focus (intro w' hSw; (try dsimp only at hSw); go_split_ands; first | (go_simp; done) | (go_simp; with_reducible rfl))); simp only [Act.put, List.setIfInBounds_toArray, List.set_cons_zero, List.set_cons_succ]
          refine takeH (i := 2) (v := ?_) rfl (by kernel_rfl) (by kernel_rfl) (by kernel_rfl) (fun _ _ _ h => h) (Or.inl ⟨by rfl, ?_⟩) hHeld ?_; rotate_left; (focus (intro w' hSw; (try dsimp only at hSw); go_split_ands; first | (go_simp; done) | (go_simp; with_reducible rfl))); simp only [Act.put, List.setIfInBounds_toArray, List.set_cons_zero, List.set_cons_succ]
          refine takeH (i := 3) (v := ?_) rfl (by kernel_rfl) (by kernel_rfl) (by kernel_rfl) (fun _ _ _ h => h) (Or.inl ⟨by rfl, ?_⟩) hHeld ?_; rotate_left; (focus (intro w' hSw; (try dsimp only at hSw); go_split_ands; first | (go_simp; done) | (go_simp; with_reducible rfl))); simp only [Act.put, List.setIfInBounds_toArray, List.set_cons_zero, List.set_cons_succ]
          refine takeH (i := 4) (v := ?_) rfl (by kernel_rfl) (by kernel_rfl) (by kernel_rfl) (fun _ _ _ h => h) (Or.inl ⟨by rfl, ?_⟩) hHeld ?_; rotate_left; (focus (intro w' hSw; (try dsimp only at hSw); go_split_ands; first | (go_simp; done) | (go_simp; with_reducible rfl))); simp only [Act.put, List.setIfInBounds_toArray, List.set_cons_zero, List.set_cons_succ]
          refine takeH (i := 5) (v := ?_) rfl (by kernel_rfl) (by kernel_rfl) (by kernel_rfl) (fun _ _ _ h => h) (Or.inl ⟨by rfl, ?_⟩) hHeld ?_; rotate_left; (focus (intro w' hSw; (try dsimp only at hSw); go_split_ands; first | (go_simp; done) | (go_simp; with_reducible rfl))); simp only [Act.put, List.setIfInBounds_toArray, List.set_cons_zero, List.set_cons_succ]
          refine takeH (i := 6) (v := ?_) rfl (by kernel_rfl) (by kernel_rfl) (by kernel_rfl) (fun _ _ _ h => h) (Or.inl ⟨by rfl, ?_⟩) hHeld ?_; rotate_left; (focus (intro w' hSw; (try dsimp only at hSw); go_split_ands; first | (go_simp; done) | (go_simp; with_reducible rfl))); simp only [Act.put, List.setIfInBounds_toArray, List.set_cons_zero, List.set_cons_succ]
          refine takeH (i := 7) (v := ?_) rfl (by kernel_rfl) (by kernel_rfl) (by kernel_rfl) (fun _ _ _ h => h) (Or.inl ⟨by rfl, ?_⟩) hHeld ?_; rotate_left; (focus (intro w' hSw; (try dsimp only at hSw); go_split_ands; first | (go_simp; done) | (go_simp; with_reducible rfl))); simp only [Act.put, List.setIfInBounds_toArray, List.set_cons_zero, List.set_cons_succ]
          refine takeH (i := 8) (v := ?_) rfl (by kernel_rfl) (by kernel_rfl) (by kernel_rfl) (fun _ _ _ h => h) (Or.inl ⟨by rfl, ?_⟩) hHeld ?_; rotate_left; (focus (intro w' hSw; (try dsimp only at hSw); go_split_ands; first | (go_simp; done) | (go_simp; with_reducible rfl))); simp only [Act.put, List.setIfInBounds_toArray, List.set_cons_zero, List.set_cons_succ]
          clear k0 k1 k2 k3 ka0 ka1 ka2 ka3
          refine oneH (i := 9) rfl (by kernel_rfl) (fun K hK => ?_)
          go_simp
          refine hK.out _ _ hHeld (fun hHeld => ?_)
          clear hK K
          clear HSU
          refine oneH (i := 10) rfl (by kernel_rfl) (fun K hK => ?_)
          go_simp
          refine hK.out _ _ HSA.out (fun hHeld => ?_)
          clear hK K
          obtain ⟨UA, hUA⟩ : ∃ U, U = UD.alloc (.cells #[.int .i64 z.k, .int .i64 z.n, .int .i64 z.t.k, .slice z.t.a z.t.l.length z.t.c, .int .i64 z.f.k, .slice z.f.a z.f.l.length z.f.c, .slice z.a z.l.length z.c] 27) := ⟨_, rfl⟩
          rw [← hUA] at a0 a1 a2 a3 a4 a5 a6 af0 af1 af2 af3 af4 af5 af6 HN HSP
          rw [← hUA] at HSA hHeld
          rw [← hUA]
          clear hUA z0 z1 z2 z3 z4 z5 z6
          have lJA : JB < UA.heap.size := World.block_lt_of_cell? _ _ a0
          refine oneH (i := 11) rfl (by kernel_rfl) (fun K hK => ?_)
          go_simp
          refine hK.out _ _ HSA.out (fun hHeld => ?_)
          clear hK K HSA
          refine oneH (i := 12) rfl (by kernel_rfl) (fun K hK => ?_)
          go_simp
          refine hK.out _ _ HSP.out (fun hHeld => ?_)
          clear hK K
          refine wpAnyH_done (by kernel_rfl) ?_ _
          go_wp2_with fail
          go_meet
          case rel => exact HN
      case rest =>
      obtain ⟨q, hqx, hqt, hqi, hqb, hqw, hq7⟩ := hcut.out
      clear hcut HK32 HBW HBX HZ HTJ HTHW h0 h1 w0 w1 lbh lbw
      obtain ⟨i7, hi7, hy0, hy1, hy2⟩ := info_parts Tryz.info27c
      obtain ⟨av, cv, hv, hbx⟩ := HC.out.1.box
      have hS3 : w.heap.size < V3.heap.size := by omega
      have hCr := HC.out.1.below hqw
      obtain ⟨a0, a1, a2, a3, a4, a5, a6⟩ := hqx.at7
      simp only [Nat.zero_add] at a0 a1 a2 a3 a4 a5 a6
      have lJ : JB < wc.heap.size := World.block_lt_of_cell? _ _ a0
      have c6 : wc.cell? ⟨w.heap.size, 6, none⟩ = some v := by
        obtain ⟨av, cv, hv, hbx⟩ := hCr.box
        have := hbx.at7.c6
        simp only [Nat.zero_add] at this
        rw [hv]
        exact this
      have cf6 : wc.frozen? ⟨w.heap.size, 6, none⟩ = false := by
        obtain ⟨av, cv, hv, hbx⟩ := hCr.box
        exact hbx.fz 6 (by omega)
      have lHw : w.heap.size < wc.heap.size := World.block_lt_of_cell? _ _ c6
      have hcl : cs.length = j := by
        have := congrArg List.length HC.out.1.tm
        have e := HTT.out.2.1
        simp only [List.length_map, List.length_take] at this
        omega
      have hcl3 : cs.length ≤ 3 := by omega
      clear hcl
      have hoa : (wc.alloc (.cells #[.int .i64 q.k, .int .i64 q.n, .int .i64 q.t.k, .slice q.t.a q.t.l.length q.t.c, .int .i64 q.f.k, .slice q.f.a q.f.l.length q.f.c, .slice q.a q.l.length q.c] 27)).ownsRow V3.heap.size 27 7 v cs.length (cells7 cs) := ownsRow_below hCr.row.own ((Below.refl _ _).alloc (Nat.le_refl _) _)
      have hnew := heap_alloc_new wc (.cells #[.int .i64 q.k, .int .i64 q.n, .int .i64 q.t.k, .slice q.t.a q.t.l.length q.t.c, .int .i64 q.f.k, .slice q.f.a q.f.l.length q.f.c, .slice q.a q.l.length q.c] 27)
      have hsw := hqw.size
      have hnv : some w.heap.size ≠ v.ownBlock := fun e => by have := (hov _ e.symm).1; omega
      have HST : Hid (∀ (gg cap1 : Nat) (w5 : World), w5.ownsRow V3.heap.size 27 7 (.slice (some ⟨gg, 0, none⟩) (cs.length + 1) cap1) (cs.length + 1) (cells7 cs ++ [.int .i64 q.k, .int .i64 q.n, .int .i64 q.t.k, .slice q.t.a q.t.l.length q.t.c, .int .i64 q.f.k, .slice q.f.a q.f.l.length q.f.c, .slice q.a q.l.length q.c]) → (wc.alloc (.cells #[.int .i64 q.k, .int .i64 q.n, .int .i64 q.t.k, .slice q.t.a q.t.l.length q.t.c, .int .i64 q.f.k, .slice q.f.a q.f.l.length q.f.c, .slice q.a q.l.length q.c] 27)).grownBy w5 v.ownBlock → (v.ownBlock = some gg ∨ gg = wc.heap.size + 1) → CW Q1 w.heap.size x V3 TT0 (j + 1) (.slice (some ⟨gg, 0, none⟩) (cs.length + 1) cap1) (cs ++ [q]) (w5.setCell ⟨w.heap.size, 6, none⟩ (.slice (some ⟨gg, 0, none⟩) (cs.length + 1) cap1))) := fun gg cap1 w5 b1 b2 b3 =>
        hCr.step hS3 (fun b hb => (HQ1.out.2.2.2 b hb).2.2) (by rw [HTT.out.2.1]; exact hlt) (Below.refl _ _) hqt hqi (hqb.mono fun b hb => ⟨hb.1, hb.2.1⟩) (by simpa [cells7] using b1) b2 b3
      have hJ5 : JB ≠ wc.heap.size := by omega
      have lY : wr.heap.size < wc.heap.size := hq7.lt
      have hny : some wr.heap.size ≠ v.ownBlock := fun e => by have := (hov _ e.symm).2; omega
      have HQ7 : Hid (At7 wc wr.heap.size 0 y) := hq7
      clear hqx hqt hqi hqb hqw hq7 hCr hbx hv HC hov us1
      go_upto_region 35 with (at_builtin; refine wpList_append_lies _ rfl _ _ _ rfl V3.heap.size 27 i7 _ 7 104 Tryz.underlying25 hi7 hy0 hy1 hy2 rfl (by omega) v cs.length (cells7 cs) rfl hoa ⟨wc.heap.size, 0, none⟩ 1 1 [.int .i64 q.k, .int .i64 q.n, .int .i64 q.t.k, .slice q.t.a q.t.l.length q.t.c, .int .i64 q.f.k, .slice q.f.a q.f.l.length q.f.c, .slice q.a q.l.length q.c] rfl rfl (World.news_of_block (cs := #[.int .i64 q.k, .int .i64 q.n, .int .i64 q.t.k, .slice q.t.a q.t.l.length q.t.c, .int .i64 q.f.k, .slice q.f.a q.f.l.length q.f.c, .slice q.a q.l.length q.c]) (t := 27) (fr := (0, 0)) hnew) (by simp [Value.oneCell']) (by omega) (by unfold maxLen; omega) (by omega) (by simp; omega) (wc.heap.size + 1) (by simp) ?_; intro gg cap1 w5 hown1 hgrow hat hlt5; have hcr : w5.cell? ⟨w.heap.size, 6, none⟩ = some v := (by rw [hgrow.cell_far _ (by simp; omega) hnv]; exact cell_later ((Below.refl _ _).alloc (Nat.le_refl _) _) c6); have hfr : w5.frozen? ⟨w.heap.size, 6, none⟩ = false := (by rw [hgrow.frozen_far _ (by simp; omega) hnv]; exact (((Below.refl _ _).alloc (Nat.le_refl _) _).frozen (p := ⟨w.heap.size, 6, none⟩) lHw).trans cf6))
      obtain ⟨X5, hX5⟩ : ∃ X, X = w5.setCell ⟨w.heap.size, 6, none⟩ (.slice (some ⟨gg, 0, none⟩) (cs.length + 1) cap1) := ⟨_, rfl⟩
      have HCW : Hid (CW Q1 w.heap.size x V3 TT0 (j + 1) (.slice (some ⟨gg, 0, none⟩) (cs.length + 1) cap1) (cs ++ [q]) X5) := by
        rw [hX5]
        exact HST.out gg cap1 w5 hown1 hgrow hat
      have hy5 : At7 X5 wr.heap.size 0 y := by
        have h1 : At7 w5 wr.heap.size 0 y := (HQ7.out.below ((Below.refl _ _).alloc (Nat.le_refl _) (.cells #[.int .i64 q.k, .int .i64 q.n, .int .i64 q.t.k, .slice q.t.a q.t.l.length q.t.c, .int .i64 q.f.k, .slice q.f.a q.f.l.length q.f.c, .slice q.a q.l.length q.c] 27))).of fun i => World.cell?_of_block (a := ⟨wr.heap.size, i, none⟩) (hgrow.block _ (by simp; omega) hny)
        rw [hX5]
        exact h1.keptR setR_kept (by omega)
      have hyX : y.In X5 := HYV.out.1.keptR HCW.out.kp (HYV.out.2.mono fun b hb => by omega)
      rw [← hX5]
      clear hX5 hown1 hgrow hat hlt5 hcr hfr HST HQ7 hoa hnew c6 cf6 a0 a1 a2 a3 a4 a5 a6
      obtain ⟨x0, x1, x2, x3, x4, x5, x6⟩ := hy5
      simp only [Nat.zero_add] at x0 x1 x2 x3 x4 x5 x6
      have lX : wr.heap.size < X5.heap.size := World.block_lt_of_cell? _ _ x0
      have hyz : (y.sz : Int) ≤ 900 := by omega
      go_wp2_with (go_at_call 60; refine (HND.out _ hyX).mono ?_; rintro e w6 ⟨rfl, hb6⟩)
      have HN : Hid (CW Q1 w.heap.size x V3 TT0 (j + 1) (.slice (some ⟨gg, 0, none⟩) (cs.length + 1) cap1) (cs ++ [q]) w6 ∧ m + y.sz = c + 1 + ((x.l.take (j + 1)).map TT.sz).sum) := ⟨HCW.out.below hb6, HMS.out⟩
      clear HCW hb6 hyX x0 x1 x2 x3 x4 x5 x6
      rw [← HXA.out]
      go_roundg (x.l.length - (j + 1))
      case measure => rw [HG.out]; omega
      case rel => exact ⟨_, j + 1, cs ++ [q], m + y.sz, by omega, rfl, by go_num, by go_num, HN⟩
    · have hjl : j = x.l.length := by omega
      have hkp := HC.out.1.kp
      have hneH : ∀ b, Q1 b → b ≠ w.heap.size := fun b hb => (HQ1.out.2.2.2 b hb).2.2
      obtain ⟨a, cc, hv, hbx⟩ := HC.out.1.box
      obtain ⟨a', cc', hv', hzi, hzb⟩ := HC.out.1.row.tree (k := x.k) (n := x.n) (t := x.t) (f := x.f) (fun b hb => HQ1.out.2.2.1 b (by omega)) (HXC.out.1.t.keptR hkp (HQ1.out.1.t.mono hneH)) (HXC.out.1.f.keptR hkp (HQ1.out.1.f.mono hneH)) HQ1.out.1.t HQ1.out.1.f
      rw [hv] at hv'
      obtain ⟨rfl, rfl⟩ : a = a' ∧ cc = cc' := by cases hv'; exact ⟨rfl, rfl⟩
      have htm : (TT.mk x.k x.n x.t x.f a cc cs).tm = y0 := by
        rw [HRD.out.2.2, TT.tm_mk]
        have h1 := HC.out.1.tm
        rw [hjl, ← HTT.out.2.1, List.take_length] at h1
        rw [h1, ← HTT.out.1, isAny_eq HF.out.2.2.2.2.2.2]
        try rfl
      have hzr : ZB7 wr (w.heap.size + 1) := HP.out.2.bx.z.kept hkp (by omega)
      have hlow : Below w.heap.size w wr := HP.out.2.bx.low.trans (hkp.below (by simp) (by omega))
      have HN : Hid (WcPost Q y0 w (.returned (.agg #[.int .i64 x.k, .int .i64 x.n, .int .i64 x.t.k, .slice x.t.a x.t.l.length x.t.c, .int .i64 x.f.k, .slice x.f.a x.f.l.length x.f.c, .slice a cs.length cc])) (put7 wr (w.heap.size + 1) (TT.mk x.k x.n x.t x.f a cc cs))) := by
        have hk := put7_kept (w := wr) (J := w.heap.size + 1) (x := (TT.mk x.k x.n x.t x.f a cc cs))
        refine ⟨(TT.mk x.k x.n x.t x.f a cc cs), rfl, htm, hzi.keptR hk (hzb.mono fun b hb => (HQ1.out.2.2.2 b hb).2.1), hzb.mono fun b hb => (HQ1.out.2.2.2 b hb).1, ?_⟩
        exact hlow.trans ((hk.below (by simp) (Nat.le_of_lt hzr.lt)).mono (by omega))
      obtain ⟨e0, e1, e2, e3, e4, e5, e6⟩ := (put7_box (x := (TT.mk x.k x.n x.t x.f a cc cs)) hzr.box).at7
      simp only [Nat.zero_add] at e0 e1 e2 e3 e4 e5 e6
      obtain ⟨q0, q1, q2, q3, q4, q5, q6⟩ := hbx.at7
      simp only [Nat.zero_add] at q0 q1 q2 q3 q4 q5 q6
      obtain ⟨⟨y0', y1, y2, y3, y4, y5, y6⟩, f0, f1, f2, f3, f4, f5, f6⟩ := hzr
      clear HC hbx hzi hzb htm hv' hv ih HP HTT HUU hlow hkp hneH HG
      go_wp2_with fail
      refine bodyPost_ret (v := .agg #[.int .i64 x.k, .int .i64 x.n, .int .i64 x.t.k, .slice x.t.a x.t.l.length x.t.c, .int .i64 x.f.k, .slice x.f.a x.f.l.length x.f.c, .slice a cs.length cc]) ?_ rfl HN.out
      unfold put7 at e0 e1 e2 e3 e4 e5 e6
      simp [results, Tryz.results58, go_sem, e0, e1, e2, e3, e4, e5, e6]
end Go.Proofs.YtnddkmccagiclabGreatDoor
