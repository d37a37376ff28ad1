/-
  What the call of ref's trees answers.
-/
import Derived.Test.YtnddkmccagiclaaGreatDoorLotd69e488c8b
import Derived.Test.YtnddkmccagiclaaGreatDoorLot141546800d
import Derived.Test.YtnddkmccagiclaaGreatDoorLot8d717cfea7
import Derived.Test.YtnddkmccagiclaaGreatDoorLot5a8e3fa1b2
import Derived.Test.YtnddkmccagiclaaGreatDoorLot699faab87f
import Derived.Test.YtnddkmccagiclaaGreatDoorLot8a8b3f08ee
namespace Go.Proofs.YtnddkmccagiclaaGreatDoor
open Go.RowKit

theorem Tryz.info67 : (Tryz.prog.info? 67).map (fun i => (i.zero, i.size, i.bytes)) = some (some (.agg #[.string ⟨#[]⟩, .slice none 0 0, .bool false]), 3, 48) := by kernel_rfl

theorem slice_from (S : ByteArray) (k : Nat) (h : k ≤ S.size) (w : World) : (Instr.slice 9 (.string S) (some (.int .i64 (k : Int))) none none).run Tryz.prog w = .ok (.string (bw (S.data.toList.drop k))) w := by
  rw [run_slice_string_from_if w 9 S .i64 (k : Int) Tryz.underlying9, if_pos ⟨by omega, by omega⟩]
  show Result.ok (Value.string (S.extract k S.size)) w = _
  rw [Lib.extract_from]
  rfl
theorem slice_to (S : ByteArray) (k : Nat) (h : k ≤ S.size) (w : World) : (Instr.slice 9 (.string S) none (some (.int .i64 (k : Int))) none).run Tryz.prog w = .ok (.string (bw (S.data.toList.take k))) w := by
  rw [run_slice_string_to_if w 9 S .i64 (k : Int) Tryz.underlying9, if_pos ⟨by omega, by omega⟩]
  show Result.ok (Value.string (S.extract 0 k)) w = _
  rw [Lib.extract_upto]
  rfl

theorem TI.start (s : ByteArray) (wi : Bool) (w : World) : TI s wi w s (.slice none 0 0) [] w := by
  refine ⟨NL.start w, by simp, ?_⟩
  cases TR s.data.toList wi <;> simp

theorem TI.below {s : ByteArray} {wi : Bool} {w wr w2 : World} {s' : ByteArray} {v : Value} {ts : List Nd} (h : TI s wi w s' v ts wr) (hb : Below wr.heap.size wr w2) : TI s wi w s' v ts w2 := ⟨h.row.below hb, h.len, h.tr⟩

set_option maxRecDepth 20000 in
set_option maxHeartbeats 8000000 in
theorem trees_step (s : ByteArray) (wi : Bool) (w : World) (hs : s.size ≤ 1000)
    (ih : Hid (∀ (s2 : ByteArray) (wi2 : Bool) (W : World), s2.size < s.size → Calls Tryz.prog 30 #[.string s2, .bool wi2] W (TsPost s2 wi2 W))) :
    Calls Tryz.prog 30 #[.string s, .bool wi] w (TsPost s wi w) := by
  obtain ⟨i0, hi0, hz0, hz1, hz2⟩ := info_parts Tryz.info67
  go_enter Tryz.func30, Tryz.ntmps30
  go_wp2_with fail
  go_loopg [0, 7] s.size (fun g v0 v7 wr => ∃ (s' : ByteArray) (ts : List Nd) (v : Value), g = s'.size ∧ v0 = .string s' ∧ v = v7 ∧ Hid (TI s wi w s' v ts wr))
  case atStart => exact ⟨s, [], _, rfl, rfl, rfl, TI.start s wi w⟩
  case round =>
    obtain ⟨s', ts, v, hg, rfl, hv, HI⟩ := hrel
    subst hv
    have HG : Hid (gk = s'.size) := hg
    clear hg
    obtain ⟨a, c, rfl, htree⟩ := HI.out.row.tree
    clear htree
    go_wp2_with fail
    refine (trimLeft_any s' _).mono ?_
    rintro e w2 ⟨rfl, hb2⟩
    have HJ : Hid (TI s wi w s' (.slice a ts.length c) ts w2) := HI.out.below hb2
    clear HI hb2
    obtain ⟨S, hS⟩ : ∃ S, bw (trimS s'.data.toList) = S := ⟨_, rfl⟩
    rw [hS]
    have HSL : Hid (S.data.toList = trimS s'.data.toList ∧ S.size ≤ s'.size ∧ S.size = (trimS s'.data.toList).length) := by
      have h1 := trim_len s'.data.toList
      have h2 : S.size = (trimS s'.data.toList).length := by rw [← hS]; show (trimS s'.data.toList).toArray.size = _; simp
      have h3 : s'.data.toList.length = s'.size := Array.length_toList
      exact ⟨by rw [← hS]; rfl, by omega, h2⟩
    clear hS
    obtain ⟨T, hT⟩ : ∃ T, trimS s'.data.toList = T := ⟨_, rfl⟩
    cases T with
    | nil =>
      have hemp : S.toList.isEmpty = true := by rw [Lib.toList_data, HSL.out.1, hT]; rfl
      have HF : Hid (TsPost s wi w (.returned (.tuple #[.slice a ts.length c, .string ⟨#[]⟩, .bool (!wi)])) w2) := by
        refine ⟨a, c, ts, ⟨#[]⟩, !wi, rfl, ?_, HJ.out.row.low, ?_⟩
        · obtain ⟨a', c', e, h⟩ := HJ.out.row.tree
          obtain ⟨rfl, _, rfl⟩ := Value.slice.inj e
          exact h
        · rw [HJ.out.tr, TR_end _ _ hT]
          cases wi
          · exact .inr ⟨_, rfl, rfl, by simp, rfl⟩
          · exact .inl ⟨rfl, rfl⟩
      clear HJ HSL HG ih
      go_wp2_with fail
      refine bodyPost_ret (v := .tuple #[.slice a ts.length c, .string ⟨#[]⟩, .bool (!wi)]) ?_ rfl HF.out
      simp [results, Tryz.results30, go_sem]
    | cons d r =>
      have hSs : S.size = r.length + 1 := by rw [HSL.out.2.2, hT]; simp
      have hemp : S.toList.isEmpty = false := by rw [Lib.toList_data, HSL.out.1, hT]; rfl
      have h0 : 0 < S.size := by omega
      have hx : S[0]'h0 = d := by
        have h1 : S.data.toList[0]? = some d := by rw [HSL.out.1, hT]; rfl
        have h2 := Lib.data_getElem? S 0 h0
        rw [h1] at h2
        exact (Option.some.inj h2).symm
      have hsl : ∀ w, (Instr.slice 9 (.string S) (some (.int .i64 1)) none none).run Tryz.prog w = .ok (.string (bw r)) w := fun w => by
        have := slice_from S 1 (by omega) w
        rw [HSL.out.1, hT] at this
        exact this
      have HD : Hid (trimS s'.data.toList = d :: r ∧ spB d = false ∧ r.length + 1 ≤ s'.size) := ⟨hT, trim_head _ _ _ hT, by have := HSL.out.2.1; omega⟩
      clear hT
      by_cases h41 : d = 41
      · have hc1 : ((d.toNat : Int) == 41) = true := by rw [h41]; rfl
        have HF : ∀ W, Below w2.heap.size w2 W → TsPost s wi w (.returned (.tuple #[.slice a ts.length c, .string (bw r), .bool wi])) W := fun W hb => by
          refine ⟨a, c, ts, bw r, wi, rfl, ?_, (HJ.out.below hb).row.low, ?_⟩
          · obtain ⟨a', c', e, h⟩ := (HJ.out.below hb).row.tree
            obtain ⟨rfl, _, rfl⟩ := Value.slice.inj e
            exact h
          · have hT := HD.out.1
            rw [h41] at hT
            rw [HJ.out.tr, TR_close _ r _ hT]
            cases wi
            · exact .inl ⟨rfl, rfl⟩
            · exact .inr ⟨_, rfl, rfl, by simp, rfl⟩
        have HFF : Hid (∀ W, Below w2.heap.size w2 W → TsPost s wi w (.returned (.tuple #[.slice a ts.length c, .string (bw r), .bool wi])) W) := HF
        obtain ⟨Br, hBr⟩ : ∃ B, bw r = B := ⟨_, rfl⟩
        rw [hBr] at hsl HFF
        clear HF HJ HD HG ih h41 hBr
        go_wp2_with fail
        go_region_held3 (fun w' => Below w2.heap.size w2 w') (first | exact (Below.refl _ _).drew | go_keep) (fail)
        go_wp2_with fail
        refine bodyPost_ret (v := .tuple #[.slice a ts.length c, .string Br, .bool wi]) ?_ rfl (HFF.out _ (by assumption))
        simp [results, Tryz.results30, go_sem]
      · have hc1 : ((d.toNat : Int) == 41) = false := by
          rw [beq_eq_false_iff_ne]
          intro e
          exact h41 (UInt8.toNat_inj.1 (by show d.toNat = 41; omega))
        by_cases h40 : d = 40
        · have hc2 : ((d.toNat : Int) == 40) = true := by rw [h40]; rfl
          have HT : Hid (trimS s'.data.toList = 40 :: r ∧ r.length + 1 ≤ s'.size) := ⟨by rw [← h40]; exact HD.out.1, HD.out.2.2⟩
          obtain ⟨Br, hBr⟩ : ∃ B, bw r = B := ⟨_, rfl⟩
          have HB : Hid (Br.data.toList = r ∧ Br.size = r.length) := by
            rw [← hBr]
            exact ⟨rfl, by show r.toArray.size = _; simp⟩
          have HC : Hid (Calls Tryz.prog 30 #[.string Br, .bool true] w2 (TsPost Br true w2)) := ih.out Br true w2 (by have := HB.out.2; have := HT.out.2; have := HJ.out.len; omega)
          rw [hBr] at hsl
          clear HD h40 h41 hBr ih
          go_wp2_with fail
          refine HC.out.mono ?_
          rintro e w3 ⟨xa, xc, xs, R, ok, rfl, HP⟩
          clear HC
          have HK : Hid (TI s wi w s' (.slice a ts.length c) ts w3) := HJ.out.below HP.out.2.1
          cases ok
          · have HF : Hid (TsPost s wi w (.returned (.tuple #[.slice none (0 : Nat) 0, .string ⟨#[]⟩, .bool false])) w3) := by
              refine ⟨none, 0, [], ⟨#[]⟩, false, rfl, fun wd o => ⟨Nd.In_nil _ _ _ _ _, Nd.Bl_nil _ _ _ _ _⟩, HK.out.row.low, .inl ⟨?_, rfl⟩⟩
              rw [HK.out.tr, TR_open _ r _ HT.out.1]
              rcases HP.out.2.2 with ⟨h, _⟩ | ⟨p, _, h, _⟩
              · rw [HB.out.1] at h
                rw [h]; rfl
              · cases h
            clear HK HP HJ HT HB HSL HG
            go_wp2_with fail
            refine bodyPost_ret (v := .tuple #[.slice none (0 : Nat) 0, .string ⟨#[]⟩, .bool false]) ?_ rfl HF.out
            simp [results, Tryz.results30, go_sem]
          · have HO : Hid (∃ p, TR r true = some p ∧ xs.map Nd.tn = p.1 ∧ R.data.toList = p.2 ∧ p.2.length + 1 ≤ r.length) := by
              rcases HP.out.2.2 with ⟨_, h⟩ | ⟨p, h1, _, h2, h3⟩
              · cases h
              · rw [HB.out.1] at h1
                exact ⟨p, h1, h2, h3, (TR_less h1).2 rfl⟩
            have HQ : Hid ((Nd.mk ⟨#[]⟩ xa xc xs true).In w3 ∧ (Nd.mk ⟨#[]⟩ xa xc xs true).Bl (w2.heap.size ≤ ·) ∧ Below w2.heap.size w2 w3) := ⟨(HP.out.1 _ _).1, (HP.out.1 _ _).2, HP.out.2.1⟩
            clear HP
            have hoa : (w3.alloc (.cells #[.string ⟨#[]⟩, .slice xa xs.length xc, .bool true] 67)).ownsRow w.heap.size 67 3 (.slice a ts.length c) ts.length (cells3N ts) := ownsRow_below HK.out.row.own ((Below.refl _ _).alloc (Nat.le_refl _) _)
            have hnew := heap_alloc_new w3 (.cells #[.string ⟨#[]⟩, .slice xa xs.length xc, .bool true] 67)
            have hts : ts.length ≤ 1000 := by have := HK.out.len; omega
            have hlo : w.heap.size ≤ w3.heap.size := HK.out.row.low.size
            go_wp2_with (at_builtin; refine wpList_append_lies _ rfl _ _ _ rfl w.heap.size 67 i0 _ 3 48 Tryz.underlying62 hi0 hz0 hz1 hz2 rfl (by omega) (.slice a ts.length c) ts.length (cells3N ts) rfl hoa ⟨w3.heap.size, 0, none⟩ 1 1 [.string ⟨#[]⟩, .slice xa xs.length xc, .bool true] rfl rfl (World.news_of_block (cs := #[.string ⟨#[]⟩, .slice xa xs.length xc, .bool true]) (t := 67) (fr := (0, 0)) hnew) (by simp [Value.oneCell']) (by omega) (by unfold maxLen; omega) (by omega) (by simp; omega) (w3.heap.size + 1) (by simp) ?_; intro gg cap1 w5 hown1 hgrow hat hlt5)
            have HN : Hid (NL w (.slice (some ⟨gg, 0, none⟩) (ts.length + 1) cap1) (ts ++ [Nd.mk ⟨#[]⟩ xa xc xs true]) w5) := by
              have hba : Below w3.heap.size w3 (w3.alloc (.cells #[.string ⟨#[]⟩, .slice xa xs.length xc, .bool true] 67)) := (Below.refl _ _).alloc (Nat.le_refl _) _
              exact HK.out.row.step (t := Nd.mk ⟨#[]⟩ xa xc xs true) hba (HQ.out.1.below hba) (HQ.out.2.1.mono fun b hb => ⟨by have := HJ.out.row.low.size; omega, fun e => by have := (HJ.out.row.own.lt b e.symm).2; omega⟩) hown1 hgrow (hat.elim .inl fun h => .inr (by rw [h]; simp))
            clear hown1 hgrow hat hlt5 hoa hnew hlo
            have HR : Hid (TI s wi w R (.slice (some ⟨gg, 0, none⟩) (ts.length + 1) cap1) (ts ++ [Nd.mk ⟨#[]⟩ xa xc xs true]) w5 ∧ R.size < s'.size) := by
              obtain ⟨p, h1, h2, h3, h4⟩ := HO.out
              have h5 : R.size = p.2.length := by rw [← h3, Array.length_toList]; rfl
              have h6 := HT.out.2
              have h7 := HK.out.len
              refine ⟨⟨HN.out, by rw [List.length_append]; simp; omega, ?_⟩, by omega⟩
              rw [HK.out.tr, TR_open _ r _ HT.out.1, h1, Option.bind_some, h3]
              cases TR p.2 wi with
              | none => rfl
              | some q => simp [Nd.tn_mk, h2]
            clear HN HK HJ HO HQ HT HB HSL hts
            have HG2 : Hid (R.size < gk) := by rw [HG.out]; exact HR.out.2
            clear HG
            go_wp2_with fail
            go_roundg R.size
            case measure => exact HG2.out
            case rel => exact ⟨R, ts ++ [Nd.mk ⟨#[]⟩ xa xc xs true], _, rfl, rfl, rfl, HR.out.1⟩
        · have hc2 : ((d.toNat : Int) == 40) = false := by
            rw [beq_eq_false_iff_ne]
            intro e
            exact h40 (UInt8.toNat_inj.1 (by show d.toNat = 40; omega))
          have H4 : Hid (d ≠ 41 ∧ d ≠ 40) := ⟨h41, h40⟩
          obtain ⟨M, hM⟩ : ∃ M, (takeW (d :: r)).length = M := ⟨_, rfl⟩
          obtain ⟨Wd, hWd⟩ : ∃ B, bw (takeW (d :: r)) = B := ⟨_, rfl⟩
          obtain ⟨Rs, hRs⟩ : ∃ B, bw (dropW (d :: r)) = B := ⟨_, rfl⟩
          obtain ⟨_, _, hsp, hdl⟩ := word_split d r HD.out.2.1 h41 h40
          have hML : M ≤ S.size := by
            have := congrArg List.length hsp
            rw [List.length_append, List.length_cons] at this
            omega
          have hslT : ∀ w, (Instr.slice 9 (.string S) none (some (.int .i64 (M : Int))) none).run Tryz.prog w = .ok (.string Wd) w := fun w => by
            rw [slice_to S M hML w, HSL.out.1, HD.out.1, ← hWd]
            congr 3
            conv => lhs; rw [← hsp]
            rw [← hM, List.take_left']
            rfl
          have hslD : ∀ w, (Instr.slice 9 (.string S) (some (.int .i64 (M : Int))) none none).run Tryz.prog w = .ok (.string Rs) w := fun w => by
            rw [slice_from S M hML w, HSL.out.1, HD.out.1, ← hRs]
            congr 3
            conv => lhs; rw [← hsp]
            rw [← hM, List.drop_left']
            rfl
          have HW : Hid (Wd.data.toList = takeW (d :: r) ∧ Rs.data.toList = dropW (d :: r) ∧ Rs.size ≤ r.length ∧ Rs.size + 1 ≤ s'.size) := by
            have e : Rs.size = (dropW (d :: r)).length := by rw [← hRs]; show (dropW (d :: r)).toArray.size = _; simp
            have := HD.out.2.2
            exact ⟨by rw [← hWd]; rfl, by rw [← hRs]; rfl, by omega, by omega⟩
          have hq : Lib.indexAny S.data.toList delL = if M < S.size then (M : Int) else -1 := by
            rw [HSL.out.1, HD.out.1, indexAny_take, hM, hSs]
            rfl
          clear hsl hsp hdl hWd hRs hM h40 h41 ih
          go_wp2_with fail
          refine (idxAny_any S _ (by have := HSL.out.2.1; have := HJ.out.len; omega)).mono ?_
          rintro e w3 ⟨rfl, hb3⟩
          have HK : Hid (TI s wi w s' (.slice a ts.length c) ts w3) := HJ.out.below hb3
          clear HJ hb3
          rw [hq]
          by_cases hlt : M < S.size
          · rw [if_pos hlt]
            have hn0 : ¬ ((M : Int) < 0) := by omega
            clear hq hlt
            have hoa : (w3.alloc (.cells #[.string Wd, .slice none 0 0, .bool false] 67)).ownsRow w.heap.size 67 3 (.slice a ts.length c) ts.length (cells3N ts) := ownsRow_below HK.out.row.own ((Below.refl _ _).alloc (Nat.le_refl _) _)
            have hnew := heap_alloc_new w3 (.cells #[.string Wd, .slice none 0 0, .bool false] 67)
            have hts : ts.length ≤ 1000 := by have := HK.out.len; omega
            have hlo : w.heap.size ≤ w3.heap.size := HK.out.row.low.size
            go_wp2_with (at_builtin; refine wpList_append_lies _ rfl _ _ _ rfl w.heap.size 67 i0 _ 3 48 Tryz.underlying62 hi0 hz0 hz1 hz2 rfl (by omega) (.slice a ts.length c) ts.length (cells3N ts) rfl hoa ⟨w3.heap.size, 0, none⟩ 1 1 [.string Wd, .slice none 0 0, .bool false] rfl rfl (World.news_of_block (cs := #[.string Wd, .slice none 0 0, .bool false]) (t := 67) (fr := (0, 0)) hnew) (by simp [Value.oneCell']) (by omega) (by unfold maxLen; omega) (by omega) (by simp; omega) (w3.heap.size + 1) (by simp) ?_; intro gg cap1 w5 hown1 hgrow hat hlt5)
            have HN : Hid (NL w (.slice (some ⟨gg, 0, none⟩) (ts.length + 1) cap1) (ts ++ [Nd.mk Wd none 0 [] false]) w5) := by
              have hba : Below w3.heap.size w3 (w3.alloc (.cells #[.string Wd, .slice none 0 0, .bool false] 67)) := (Below.refl _ _).alloc (Nat.le_refl _) _
              exact HK.out.row.step (t := Nd.mk Wd none 0 [] false) hba (Nd.In_nil _ _ _ _ _) (Nd.Bl_nil _ _ _ _ _) hown1 hgrow (hat.elim .inl fun h => .inr (by rw [h]; simp))
            clear hown1 hgrow hat hlt5 hoa hnew hlo
            have HR : Hid (TI s wi w Rs (.slice (some ⟨gg, 0, none⟩) (ts.length + 1) cap1) (ts ++ [Nd.mk Wd none 0 [] false]) w5 ∧ Rs.size < s'.size) := by
              obtain ⟨h1, h2, h3, h4⟩ := HW.out
              have h7 := HK.out.len
              have h8 := HD.out.2.2
              refine ⟨⟨HN.out, by rw [List.length_append]; simp; omega, ?_⟩, by omega⟩
              rw [HK.out.tr, TR_word _ r d _ HD.out.1 H4.out.1 H4.out.2, h2]
              cases TR (dropW (d :: r)) wi with
              | none => rfl
              | some q => simp [Nd.tn_mk, h1]
            clear HN HK HW HD H4 HSL hts
            have HG2 : Hid (Rs.size < gk) := by rw [HG.out]; exact HR.out.2
            clear HG
            go_wp2_with fail
            go_roundg Rs.size
            case measure => exact HG2.out
            case rel => exact ⟨Rs, ts ++ [Nd.mk Wd none 0 [] false], _, rfl, rfl, rfl, HR.out.1⟩
          · rw [if_neg hlt]
            have hSM : S.size = M := by omega
            have hm1 : ((-1 : Int) < 0) := by omega
            clear hq hlt hSs hML
            have hoa : (w3.alloc (.cells #[.string Wd, .slice none 0 0, .bool false] 67)).ownsRow w.heap.size 67 3 (.slice a ts.length c) ts.length (cells3N ts) := ownsRow_below HK.out.row.own ((Below.refl _ _).alloc (Nat.le_refl _) _)
            have hnew := heap_alloc_new w3 (.cells #[.string Wd, .slice none 0 0, .bool false] 67)
            have hts : ts.length ≤ 1000 := by have := HK.out.len; omega
            have hlo : w.heap.size ≤ w3.heap.size := HK.out.row.low.size
            go_wp2_with (at_builtin; refine wpList_append_lies _ rfl _ _ _ rfl w.heap.size 67 i0 _ 3 48 Tryz.underlying62 hi0 hz0 hz1 hz2 rfl (by omega) (.slice a ts.length c) ts.length (cells3N ts) rfl hoa ⟨w3.heap.size, 0, none⟩ 1 1 [.string Wd, .slice none 0 0, .bool false] rfl rfl (World.news_of_block (cs := #[.string Wd, .slice none 0 0, .bool false]) (t := 67) (fr := (0, 0)) hnew) (by simp [Value.oneCell']) (by omega) (by unfold maxLen; omega) (by omega) (by simp; omega) (w3.heap.size + 1) (by simp) ?_; intro gg cap1 w5 hown1 hgrow hat hlt5)
            have HN : Hid (NL w (.slice (some ⟨gg, 0, none⟩) (ts.length + 1) cap1) (ts ++ [Nd.mk Wd none 0 [] false]) w5) := by
              have hba : Below w3.heap.size w3 (w3.alloc (.cells #[.string Wd, .slice none 0 0, .bool false] 67)) := (Below.refl _ _).alloc (Nat.le_refl _) _
              exact HK.out.row.step (t := Nd.mk Wd none 0 [] false) hba (Nd.In_nil _ _ _ _ _) (Nd.Bl_nil _ _ _ _ _) hown1 hgrow (hat.elim .inl fun h => .inr (by rw [h]; simp))
            clear hown1 hgrow hat hlt5 hoa hnew hlo
            have HR : Hid (TI s wi w Rs (.slice (some ⟨gg, 0, none⟩) (ts.length + 1) cap1) (ts ++ [Nd.mk Wd none 0 [] false]) w5 ∧ Rs.size < s'.size) := by
              obtain ⟨h1, h2, h3, h4⟩ := HW.out
              have h7 := HK.out.len
              have h8 := HD.out.2.2
              refine ⟨⟨HN.out, by rw [List.length_append]; simp; omega, ?_⟩, by omega⟩
              rw [HK.out.tr, TR_word _ r d _ HD.out.1 H4.out.1 H4.out.2, h2]
              cases TR (dropW (d :: r)) wi with
              | none => rfl
              | some q => simp [Nd.tn_mk, h1]
            clear HN HK HW HD H4 HSL hts
            have HG2 : Hid (Rs.size < gk) := by rw [HG.out]; exact HR.out.2
            clear HG
            go_wp2_with fail
            go_roundg Rs.size
            case measure => exact HG2.out
            case rel => exact ⟨Rs, ts ++ [Nd.mk Wd none 0 [] false], _, rfl, rfl, rfl, HR.out.1⟩

theorem trees_any : ∀ (n : Nat) (s : ByteArray) (wi : Bool) (w : World), s.size ≤ n → s.size ≤ 1000 → Calls Tryz.prog 30 #[.string s, .bool wi] w (TsPost s wi w)
  | 0, s, wi, w, h, hs => trees_step s wi w hs fun s2 wi2 W h2 => by omega
  | n + 1, s, wi, w, h, hs => trees_step s wi w hs fun s2 wi2 W h2 => trees_any n s2 wi2 W (by omega) (by omega)
end Go.Proofs.YtnddkmccagiclaaGreatDoor

/-
  Terms out of trees of words, and out of words one behind the other: the same; the plain mathematics, no program in it.
-/
namespace Go.Proofs.YtnddkmccagiclaaGreatDoor

/-- The number of at most seven digits that a word tells. -/
def numT (d : List UInt8) : Option Int := (numOf (bw d)).bind fun v => if -9999999 ≤ v ∧ v ≤ 9999999 then some v else none

/-- The term of a word. -/
def wordT (w : List UInt8) : Option Tm :=
  match atWord (bw w) truthWs 0 with
  | some b => some ⟨3, (b : Int), anyY, anyY, []⟩
  | none =>
    match w with
    | 35 :: d => (numT d).map fun n => ⟨1, n, anyY, anyY, []⟩
    | _ => (numT w).map fun n => ⟨2, n, anyY, anyY, []⟩

/-- The type of a tree. -/
def kindT : Nat → Tn → Option Ty
  | 0, _ => none
  | n + 1, x =>
    if x.o = false then (atWord (bw x.w) typeWs 0).map fun (k : Nat) => Ty.mk (k : Int) []
    else match x.l with
      | [a, b, c] => if a.o = false ∧ a.w = [116, 111] then (kindT n b).bind fun p => (kindT n c).map fun q => ⟨3, [p, q]⟩ else none
      | _ => none

def allO (f : Tn → Option Tm) : List Tn → Option (List Tm)
  | [] => some []
  | x :: l => (f x).bind fun t => (allO f l).map fun ts => t :: ts

/-- The type that a kind's tree tells, and the trees behind it. -/
def headT (n k : Nat) (l : List Tn) : Option (Ty × List Tn) :=
  if tells (k : Int) = true then (match l with | [] => none | z :: r => (kindT n z).map fun t => (t, r)) else some (anyY, l)

theorem headT_yes (n k : Nat) (z : Tn) (r : List Tn) (h : tells (k : Int) = true) : headT n k (z :: r) = (kindT n z).map fun t => (t, r) := by
  unfold headT; rw [if_pos h]
theorem headT_nil (n k : Nat) (h : tells (k : Int) = true) : headT n k [] = none := by
  unfold headT; rw [if_pos h]
theorem headT_no (n k : Nat) (l : List Tn) (h : ¬ tells (k : Int) = true) : headT n k l = some (anyY, l) := by
  unfold headT; rw [if_neg h]

/-- The term of a tree. -/
def termT : Nat → Tn → Option Tm
  | 0, _ => none
  | n + 1, x =>
    if x.o = false then wordT x.w
    else match x.l with
      | [] => none
      | y :: r => if y.o = true then none else (kindAt (bw y.w)).bind fun k => (headT n k r).bind fun p => if p.2.length = partsOf (k : Int) then (allO (termT n) p.2).map fun l => ⟨(k : Int), 0, p.1, anyY, l⟩ else none

/-- All numbers within are of seven digits. -/
def smallM : Tm → Prop
  | ⟨_, n, _, _, l⟩ => (-9999999 ≤ n ∧ n ≤ 9999999) ∧ ∀ y, y ∈ l → smallM y
theorem smallM_mk {k n : Int} {t f : Ty} {l : List Tm} : smallM ⟨k, n, t, f, l⟩ ↔ (-9999999 ≤ n ∧ n ≤ 9999999) ∧ ∀ y, y ∈ l → smallM y := by
  rw [smallM]

def flatB (ws : List (List UInt8)) : List ByteArray := ws.map bw
theorem flatB_append (a b : List (List UInt8)) : flatB (a ++ b) = flatB a ++ flatB b := by simp [flatB]
theorem flatB_cons (a : List UInt8) (b : List (List UInt8)) : flatB (a :: b) = bw a :: flatB b := rfl
theorem flatB_nil : flatB [] = [] := rfl

theorem bw_apart {a b : List UInt8} (h : a ≠ b) : bw a ≠ bw b := fun e => h (bw_inj e)
theorem opB_eq : opB = bw [40] := rfl
theorem clB_eq : clB = bw [41] := rfl
theorem toB_eq : toB = bw [116, 111] := rfl

theorem numT_of {d : List UInt8} {v : Int} (h : numT d = some v) : numOf (bw d) = some v ∧ (-9999999 ≤ v ∧ v ≤ 9999999) := by
  obtain ⟨u, hu, h⟩ := Option.bind_eq_some_iff.1 h
  split at h
  · obtain rfl := Option.some.inj h
    exact ⟨hu, by assumption⟩
  · cases h
theorem numT_to {d : List UInt8} {v : Int} (h : numOf (bw d) = some v) (hs : -9999999 ≤ v ∧ v ≤ 9999999) : numT d = some v := by
  rw [numT, h, Option.bind_some, if_pos hs]

theorem wordT_hash (d : List UInt8) (h : atWord (bw (35 :: d)) truthWs 0 = none) : wordT (35 :: d) = (numT d).map fun n => ⟨1, n, anyY, anyY, []⟩ := by
  unfold wordT; rw [h]; rfl
theorem wordT_num (w : List UInt8) (h : atWord (bw w) truthWs 0 = none) (hw : ∀ d, w ≠ 35 :: d) : wordT w = (numT w).map fun n => ⟨2, n, anyY, anyY, []⟩ := by
  unfold wordT; rw [h]
  simp only
theorem wordT_truth (w : List UInt8) (b : Nat) (h : atWord (bw w) truthWs 0 = some b) : wordT w = some ⟨3, (b : Int), anyY, anyY, []⟩ := by
  unfold wordT; rw [h]
theorem readWord_hash (d : List UInt8) (r : List ByteArray) (h : atWord (bw (35 :: d)) truthWs 0 = none) : readWord (bw (35 :: d)) r = (numOf (bw d)).map fun n => (⟨1, n, anyY, anyY, []⟩, r) := by
  unfold readWord; rw [h]; rfl
theorem readWord_num (w : List UInt8) (r : List ByteArray) (h : atWord (bw w) truthWs 0 = none) (hw : ∀ d, w ≠ 35 :: d) : readWord (bw w) r = (numOf (bw w)).map fun n => (⟨2, n, anyY, anyY, []⟩, r) := by
  unfold readWord; rw [h, bw_data]
  simp only
theorem readWord_truth (w : List UInt8) (b : Nat) (r : List ByteArray) (h : atWord (bw w) truthWs 0 = some b) : readWord (bw w) r = some (⟨3, (b : Int), anyY, anyY, []⟩, r) := by
  unfold readWord; rw [h]

theorem hash_or (w : List UInt8) : (∃ d, w = 35 :: d) ∨ ∀ d, w ≠ 35 :: d := by
  by_cases h : ∃ d, w = 35 :: d
  · exact .inl h
  · exact .inr fun d e => h ⟨d, e⟩

/-- A word's term is what the word tells. -/
theorem word_read {w : List UInt8} {t : Tm} (h : wordT w = some t) (r : List ByteArray) : readWord (bw w) r = some (t, r) := by
  cases ha : atWord (bw w) truthWs 0 with
  | some b => rw [wordT_truth w b ha] at h; rw [readWord_truth w b r ha, Option.some.inj h]
  | none =>
    rcases hash_or w with ⟨d, rfl⟩ | hw
    · rw [wordT_hash d ha] at h
      obtain ⟨n, hn, rfl⟩ := Option.map_eq_some_iff.1 h
      rw [readWord_hash d r ha, (numT_of hn).1]; rfl
    · rw [wordT_num w ha hw] at h
      obtain ⟨n, hn, rfl⟩ := Option.map_eq_some_iff.1 h
      rw [readWord_num w r ha hw, (numT_of hn).1]; rfl

theorem read_word {w : List UInt8} {t : Tm} {r q : List ByteArray} (h : readWord (bw w) r = some (t, q)) (hs : smallM t) : wordT w = some t ∧ q = r := by
  cases ha : atWord (bw w) truthWs 0 with
  | some b =>
    rw [readWord_truth w b r ha] at h
    obtain ⟨rfl, rfl⟩ := Prod.mk.inj (Option.some.inj h)
    exact ⟨wordT_truth w b ha, rfl⟩
  | none =>
    rcases hash_or w with ⟨d, rfl⟩ | hw
    · rw [readWord_hash d r ha] at h
      obtain ⟨n, hn, he⟩ := Option.map_eq_some_iff.1 h
      obtain ⟨rfl, rfl⟩ := Prod.mk.inj he
      rw [wordT_hash d ha, numT_to hn (smallM_mk.1 hs).1]
      exact ⟨rfl, rfl⟩
    · rw [readWord_num w r ha hw] at h
      obtain ⟨n, hn, he⟩ := Option.map_eq_some_iff.1 h
      obtain ⟨rfl, rfl⟩ := Prod.mk.inj he
      rw [wordT_num w ha hw, numT_to hn (smallM_mk.1 hs).1]
      exact ⟨rfl, rfl⟩

/-! ### Types -/

theorem flatL_len_mem {x : Tn} : ∀ {l : List Tn}, x ∈ l → x.flat.length ≤ (flatL l).length
  | y :: l, h => by
    rw [flatL_cons, List.length_append]
    rcases List.mem_cons.1 h with rfl | h
    · omega
    · have := flatL_len_mem h
      omega

theorem kind_read : ∀ (m : Nat) (x : Tn) (t : Ty), x.nice → kindT m x = some t → ∀ (n : Nat) (rest : List ByteArray), x.flat.length ≤ n → readTy n (flatB x.flat ++ rest) = some (t, rest)
  | 0, _, _, _, h, _, _, _ => by simp [kindT] at h
  | m + 1, x, t, hx, h, 0, rest, hn => by have := flat_pos x; omega
  | m + 1, x, t, hx, h, n + 1, rest, hn => by
    rw [kindT] at h
    rcases nice_kind hx with ⟨l, rfl, hl⟩ | ⟨w, rfl, hw⟩
    · simp only [Bool.true_eq_false, if_false] at h
      match l, h with
      | [a, b, c], h =>
        simp only at h
        split at h
        · rename_i ha
          obtain ⟨p, hp, h⟩ := Option.bind_eq_some_iff.1 h
          obtain ⟨q, hq, rfl⟩ := Option.map_eq_some_iff.1 h
          rw [flat_open] at hn ⊢
          simp only [flatL_cons, flatL_nil, List.append_nil, List.length_cons, List.length_append, List.length_nil] at hn ⊢
          have ea : a.flat = [[116, 111]] := by
            obtain ⟨aw, al, ao⟩ := a
            obtain ⟨rfl, rfl⟩ : ao = false ∧ aw = [116, 111] := ha
            exact flat_word _ _
          rw [ea] at hn ⊢
          simp only [List.length_cons, List.length_nil] at hn
          have e : flatB ([40] :: ([[116, 111]] ++ (b.flat ++ c.flat) ++ [[41]])) ++ rest = opB :: toB :: (flatB b.flat ++ (flatB c.flat ++ (clB :: rest))) := by
            simp [flatB, opB_eq, toB_eq, clB_eq]
          rw [e, readTy, if_pos rfl, behind, if_pos rfl, Option.bind_some]
          rw [kind_read m b p (hl b (by simp)) hp n _ (by omega), Option.bind_some]
          simp only
          rw [kind_read m c q (hl c (by simp)) hq n _ (by omega), Option.bind_some]
          simp only [behind, if_true, Option.map_some]
        · cases h
    · simp only [if_true] at h
      rw [flat_word, flatB_cons, flatB_nil, List.cons_append, List.nil_append, readTy, if_neg (by rw [opB_eq]; exact bw_apart (plain_ne hw).1)]
      cases ha : atWord (bw w) typeWs 0 with
      | none => rw [ha] at h; cases h
      | some k =>
        rw [ha] at h
        simp only [Option.map_some, Option.some.injEq] at h ⊢
        rw [h]

theorem atWord_mem {x : ByteArray} : ∀ {l : List ByteArray} {i k : Nat}, atWord x l i = some k → x ∈ l
  | [], _, _, h => by cases h
  | y :: l, i, k, h => by
    rw [atWord] at h
    split at h
    · rename_i e; rw [e]; exact List.mem_cons_self
    · exact List.mem_cons_of_mem _ (atWord_mem h)

def KindW (x : List UInt8) : Prop := x = [40] ∨ x = [41] ∨ plainW x

theorem behind_some {x : ByteArray} {ws r : List ByteArray} (h : behind x ws = some r) : ws = x :: r := by
  cases ws with
  | nil => cases h
  | cons y q =>
    rw [behind] at h
    split at h
    · rename_i e; rw [e, Option.some.inj h]
    · cases h

theorem flatB_eq_cons {ws : List (List UInt8)} {x : ByteArray} {r : List ByteArray} (h : flatB ws = x :: r) : ∃ w ws', ws = w :: ws' ∧ bw w = x ∧ flatB ws' = r := by
  cases ws with
  | nil => cases h
  | cons w ws' =>
    rw [flatB_cons] at h
    obtain ⟨h1, h2⟩ := List.cons.inj h
    exact ⟨w, ws', rfl, h1, h2⟩

theorem read_kind : ∀ (n : Nat) (ws : List (List UInt8)) (t : Ty) (rest : List ByteArray), (∀ x, x ∈ ws → KindW x) → readTy n (flatB ws) = some (t, rest) → ∃ (x : Tn) (ws' : List (List UInt8)), x.nice ∧ ws = x.flat ++ ws' ∧ flatB ws' = rest ∧ kindT n x = some t
  | 0, _, _, _, _, h => by simp [readTy] at h
  | n + 1, [], _, _, _, h => by simp [readTy, flatB] at h
  | n + 1, x :: r, t, rest, hk, h => by
    rw [flatB_cons, readTy] at h
    have hr : ∀ y, y ∈ r → KindW y := fun y hy => hk y (List.mem_cons_of_mem _ hy)
    split at h
    · rename_i hx
      obtain rfl : x = [40] := bw_inj hx
      obtain ⟨r1, h1, g1⟩ := Option.bind_eq_some_iff.1 h
      obtain ⟨w1, ws1, rfl, e1, rfl⟩ := flatB_eq_cons (behind_some h1)
      obtain rfl : w1 = [116, 111] := bw_inj e1
      obtain ⟨p, hp, g2⟩ := Option.bind_eq_some_iff.1 g1
      obtain ⟨q, hq, g3⟩ := Option.bind_eq_some_iff.1 g2
      obtain ⟨r4, h4, he⟩ := Option.map_eq_some_iff.1 g3
      obtain ⟨rfl, rfl⟩ := Prod.mk.inj he
      obtain ⟨b, ws2, hb, rfl, e2, hb'⟩ := read_kind n ws1 p.1 p.2 (fun y hy => hr y (List.mem_cons_of_mem _ hy)) hp
      rw [← e2] at hq
      obtain ⟨c, ws3, hc, rfl, e3, hc'⟩ := read_kind n ws2 q.1 q.2 (fun y hy => hr y (by simp [hy])) hq
      rw [← e3] at h4
      obtain ⟨w4, ws4, rfl, e4, rfl⟩ := flatB_eq_cons (behind_some h4)
      obtain rfl : w4 = [41] := bw_inj e4
      refine ⟨⟨[], [⟨[116, 111], [], false⟩, b, c], true⟩, ws4, nice_open.2 fun y hy => ?_, ?_, rfl, ?_⟩
      · simp only [List.mem_cons, List.not_mem_nil, or_false] at hy
        rcases hy with rfl | rfl | rfl
        · exact nice_word.2 ⟨by simp, by decide⟩
        · exact hb
        · exact hc
      · rw [flat_open]
        simp [flatL_cons, flatL_nil, flat_word]
      · rw [kindT]
        simp [hb', hc']
    · rename_i hx
      obtain ⟨k, hk', he⟩ := Option.map_eq_some_iff.1 h
      obtain ⟨rfl, rfl⟩ := Prod.mk.inj he
      have hp : plainW x := by
        rcases hk x List.mem_cons_self with rfl | rfl | h
        · exact absurd rfl hx
        · exfalso
          have : atWord (bw [41]) typeWs 0 = none := by decide
          rw [this] at hk'
          cases hk'
        · exact h
      refine ⟨⟨x, [], false⟩, r, nice_word.2 hp, by rw [flat_word]; rfl, rfl, ?_⟩
      rw [kindT]
      simp [hk']

/-! ### Terms -/

theorem all_read {f : Tn → Option Tm} {g : List ByteArray → Option (Tm × List ByteArray)} : ∀ (l : List Tn) (ts : List Tm) (rest : List ByteArray), (∀ x, x ∈ l → ∀ t rest, f x = some t → g (flatB x.flat ++ rest) = some (t, rest)) → allO f l = some ts → readN g l.length (flatB (flatL l) ++ rest) = some (ts, rest)
  | [], ts, rest, _, h => by
    simp only [allO, Option.some.injEq] at h
    subst h
    rfl
  | x :: l, ts, rest, hf, h => by
    rw [allO] at h
    obtain ⟨t, ht, h⟩ := Option.bind_eq_some_iff.1 h
    obtain ⟨us, hu, rfl⟩ := Option.map_eq_some_iff.1 h
    rw [flatL_cons, flatB_append, List.append_assoc, List.length_cons, readN, hf x List.mem_cons_self t _ ht, Option.bind_some]
    simp only
    rw [all_read l us rest (fun y hy => hf y (List.mem_cons_of_mem _ hy)) hu]
    rfl

theorem readN_all {f : Tn → Option Tm} {g : List ByteArray → Option (Tm × List ByteArray)} (hfg : ∀ (ws : List (List UInt8)) (t : Tm) (rest : List ByteArray), (∀ x, x ∈ ws → KindW x) → g (flatB ws) = some (t, rest) → smallM t → ∃ (x : Tn) (ws' : List (List UInt8)), x.nice ∧ ws = x.flat ++ ws' ∧ flatB ws' = rest ∧ f x = some t) :
    ∀ (m : Nat) (ws : List (List UInt8)) (ts : List Tm) (rest : List ByteArray), (∀ x, x ∈ ws → KindW x) → readN g m (flatB ws) = some (ts, rest) → (∀ t, t ∈ ts → smallM t) → ∃ (l : List Tn) (ws' : List (List UInt8)), (∀ x, x ∈ l → x.nice) ∧ l.length = m ∧ ws = flatL l ++ ws' ∧ flatB ws' = rest ∧ allO f l = some ts
  | 0, ws, ts, rest, _, h, _ => by
    simp only [readN, Option.some.injEq, Prod.mk.injEq] at h
    obtain ⟨rfl, rfl⟩ := h
    exact ⟨[], ws, (fun x h => by cases h), rfl, rfl, rfl, rfl⟩
  | m + 1, ws, ts, rest, hk, h, hs => by
    rw [readN] at h
    obtain ⟨p, hp, h⟩ := Option.bind_eq_some_iff.1 h
    obtain ⟨q, hq, he⟩ := Option.map_eq_some_iff.1 h
    obtain ⟨rfl, rfl⟩ := Prod.mk.inj he
    obtain ⟨x, ws1, hx, rfl, e1, hf⟩ := hfg ws p.1 p.2 hk hp (hs _ List.mem_cons_self)
    rw [← e1] at hq
    obtain ⟨l, ws2, hl, hlen, rfl, e2, ha⟩ := readN_all hfg m ws1 q.1 q.2 (fun y hy => hk y (by simp [hy])) hq (fun t ht => hs t (List.mem_cons_of_mem _ ht))
    refine ⟨x :: l, ws2, fun y hy => ?_, by simp [hlen], by rw [flatL_cons, List.append_assoc], e2, ?_⟩
    · rcases List.mem_cons.1 hy with rfl | hy
      · exact hx
      · exact hl y hy
    · rw [allO, hf, Option.bind_some, ha]; rfl

theorem kindAt_ne {x : ByteArray} {k : Nat} (h : kindAt x = some k) : x ≠ opB ∧ x ≠ clB := by
  constructor
  · rintro rfl
    rw [show kindAt opB = none by decide] at h
    cases h
  · rintro rfl
    rw [show kindAt clB = none by decide] at h
    cases h

theorem readTm_wd (n : Nat) (x : ByteArray) (r : List ByteArray) (h : x ≠ opB) : readTm (n + 1) (x :: r) = readWord x r := by
  cases r <;> rw [readTm, if_neg h]
theorem readTm_op0 (n : Nat) : readTm (n + 1) [opB] = none := by
  rw [readTm, if_pos rfl]
theorem readTm_op1 (n : Nat) (y : ByteArray) (r : List ByteArray) : readTm (n + 1) (opB :: y :: r) = (kindAt y).bind fun k => (readT n k r).bind fun p => (readN (readTm n) (partsOf (k : Int)) p.2).bind fun q => (behind clB q.2).map fun r4 => (⟨(k : Int), 0, p.1, anyY, q.1⟩, r4) := by
  rw [readTm, if_pos rfl]

theorem term_read : ∀ (m : Nat) (x : Tn) (t : Tm), x.nice → termT m x = some t → ∀ (n : Nat) (rest : List ByteArray), x.flat.length ≤ n → readTm n (flatB x.flat ++ rest) = some (t, rest)
  | 0, _, _, _, h, _, _, _ => by simp [termT] at h
  | m + 1, x, t, hx, h, 0, rest, hn => by have := flat_pos x; omega
  | m + 1, x, t, hx, h, n + 1, rest, hn => by
    rw [termT] at h
    rcases nice_kind hx with ⟨l, rfl, hl⟩ | ⟨w, rfl, hw⟩
    · simp only [Bool.true_eq_false, if_false] at h
      match l, h with
      | y :: r, h =>
        simp only at h
        split at h
        · cases h
        · rename_i hy
          obtain ⟨k, hk, h⟩ := Option.bind_eq_some_iff.1 h
          obtain ⟨p, hp, h⟩ := Option.bind_eq_some_iff.1 h
          split at h
          · rename_i hlen
            obtain ⟨ts, hts, rfl⟩ := Option.map_eq_some_iff.1 h
            have ey : y.flat = [y.w] := by
              obtain ⟨yw, yl, yo⟩ := y
              cases yo
              · exact flat_word _ _
              · exact absurd rfl hy
            rw [flat_open] at hn ⊢
            simp only [flatL_cons, List.length_cons, List.length_append, List.length_nil, ey] at hn ⊢
            have e : flatB ([40] :: ([y.w] ++ flatL r ++ [[41]])) ++ rest = opB :: bw y.w :: (flatB (flatL r) ++ (clB :: rest)) := by
              simp [flatB, opB_eq, clB_eq]
            rw [e, readTm_op1, hk, Option.bind_some]
            have hh : readT n k (flatB (flatL r) ++ (clB :: rest)) = some (p.1, flatB (flatL p.2) ++ (clB :: rest)) ∧ (∀ z, z ∈ p.2 → z ∈ r) := by
              rw [readT]
              by_cases ht : tells (k : Int) = true
              · rw [if_pos ht]
                cases r with
                | nil => rw [headT_nil _ _ ht] at hp; cases hp
                | cons z r =>
                  rw [headT_yes _ _ _ _ ht] at hp
                  obtain ⟨q, hq, rfl⟩ := Option.map_eq_some_iff.1 hp
                  refine ⟨?_, fun z hz => List.mem_cons_of_mem _ hz⟩
                  rw [flatL_cons, flatB_append, List.append_assoc]
                  have := flatL_len_mem (x := z) (l := z :: r) List.mem_cons_self
                  exact kind_read m z q (hl z (by simp)) hq n _ (by omega)
              · rw [if_neg ht]
                rw [headT_no _ _ _ ht] at hp
                obtain rfl := Option.some.inj hp
                exact ⟨rfl, fun z hz => hz⟩
            rw [hh.1, Option.bind_some]
            simp only
            rw [← hlen, all_read (f := termT m) (g := readTm n) p.2 ts (clB :: rest) (fun z hz u rest' hu => term_read m z u (hl z (by simp [hh.2 z hz])) hu n rest' (by
              have := flatL_len_mem (hh.2 z hz)
              omega)) hts, Option.bind_some]
            simp [behind]
          · cases h
    · simp only [if_true] at h
      rw [flat_word, flatB_cons, flatB_nil, List.cons_append, List.nil_append, readTm_wd _ _ _ (by rw [opB_eq]; exact bw_apart (plain_ne hw).1)]
      exact word_read h rest

theorem cl_none : numOf (bw [41]) = none := by decide

theorem read_term : ∀ (n : Nat) (ws : List (List UInt8)) (t : Tm) (rest : List ByteArray), (∀ x, x ∈ ws → KindW x) → readTm n (flatB ws) = some (t, rest) → smallM t → ∃ (x : Tn) (ws' : List (List UInt8)), x.nice ∧ ws = x.flat ++ ws' ∧ flatB ws' = rest ∧ termT n x = some t
  | 0, _, _, _, _, h, _ => by simp [readTm] at h
  | n + 1, [], _, _, _, h, _ => by simp [readTm, flatB] at h
  | n + 1, x :: r, t, rest, hk, h, hs => by
    rw [flatB_cons] at h
    have hr : ∀ y, y ∈ r → KindW y := fun y hy => hk y (List.mem_cons_of_mem _ hy)
    by_cases hx : bw x = opB
    · obtain rfl : x = [40] := bw_inj hx
      cases r with
      | nil => rw [flatB_nil, ← opB_eq, readTm_op0] at h; cases h
      | cons y r =>
        rw [flatB_cons, ← opB_eq, readTm_op1] at h
        obtain ⟨k, hk', g1⟩ := Option.bind_eq_some_iff.1 h
        obtain ⟨p, hp, g2⟩ := Option.bind_eq_some_iff.1 g1
        obtain ⟨q, hq, g3⟩ := Option.bind_eq_some_iff.1 g2
        obtain ⟨r4, h4, he⟩ := Option.map_eq_some_iff.1 g3
        obtain ⟨rfl, rfl⟩ := Prod.mk.inj he
        have hy : plainW y := by
          rcases hr y List.mem_cons_self with rfl | rfl | h
          · exact absurd rfl (kindAt_ne hk').1
          · exact absurd rfl (kindAt_ne hk').2
          · exact h
        have hr' : ∀ z, z ∈ r → KindW z := fun z hz => hr z (List.mem_cons_of_mem _ hz)
        -- the type
        obtain ⟨hd, ws1, hhd, hws1, e1, hT⟩ : ∃ (hd : List Tn) (ws1 : List (List UInt8)), (∀ z, z ∈ hd → z.nice) ∧ r = flatL hd ++ ws1 ∧ flatB ws1 = p.2 ∧ ∀ l, headT n k (hd ++ l) = some (p.1, l) := by
          rw [readT] at hp
          by_cases ht : tells (k : Int) = true
          · rw [if_pos ht] at hp
            obtain ⟨z, ws1, hz, e, e1, hz'⟩ := read_kind n r p.1 p.2 hr' hp
            refine ⟨[z], ws1, fun y hy => ?_, by rw [flatL_cons, flatL_nil, List.append_nil]; exact e, e1, fun l => ?_⟩
            · obtain rfl : y = z := by simpa using hy
              exact hz
            · rw [List.singleton_append, headT_yes _ _ _ _ ht, hz']
              rfl
          · rw [if_neg ht] at hp
            obtain rfl := Option.some.inj hp
            exact ⟨[], r, (fun z h => by cases h), rfl, rfl, fun l => by rw [List.nil_append, headT_no _ _ _ ht]⟩
        rw [← e1] at hq
        obtain ⟨l, ws2, hl, hlen, e2', e2, ha⟩ := readN_all (f := termT n) (fun ws t rest a b c => read_term n ws t rest a b c) _ ws1 q.1 q.2 (fun z hz => hr' z (by rw [hws1]; simp [hz])) hq (smallM_mk.1 hs).2
        rw [← e2] at h4
        obtain ⟨w4, ws4, rfl, e4, rfl⟩ := flatB_eq_cons (behind_some h4)
        obtain rfl : w4 = [41] := bw_inj e4
        refine ⟨⟨[], ⟨y, [], false⟩ :: (hd ++ l), true⟩, ws4, nice_open.2 fun z hz => ?_, ?_, rfl, ?_⟩
        · rcases List.mem_cons.1 hz with rfl | hz
          · exact nice_word.2 hy
          · rcases List.mem_append.1 hz with h | h
            · exact hhd z h
            · exact hl z h
        · rw [flat_open, flatL_cons, flat_word, hws1, e2']
          simp [flatL]
        · rw [termT]
          simp [hk', hT, hlen, ha]
    · rw [readTm_wd _ _ _ hx] at h
      obtain ⟨hw, rfl⟩ := read_word h hs
      have hp : plainW x := by
        rcases hk x List.mem_cons_self with rfl | rfl | h'
        · exact absurd rfl hx
        · exfalso
          rw [wordT_num [41] (by decide) (by simp), numT, cl_none] at hw
          cases hw
        · exact h'
      refine ⟨⟨x, [], false⟩, r, nice_word.2 hp, by rw [flat_word]; rfl, rfl, ?_⟩
      rw [termT]
      simp [hw]

/-- More fuel changes nothing. -/
theorem allO_congr {f g : Tn → Option Tm} : ∀ l : List Tn, (∀ x, x ∈ l → f x = g x) → allO f l = allO g l
  | [], _ => rfl
  | x :: l, h => by
    rw [allO, allO, h x List.mem_cons_self, allO_congr l fun y hy => h y (List.mem_cons_of_mem _ hy)]

theorem kindT_more : ∀ (n m : Nat) (x : Tn), x.flat.length ≤ n → x.flat.length ≤ m → kindT n x = kindT m x
  | 0, _, x, h, _ => by have := flat_pos x; omega
  | n + 1, 0, x, _, h => by have := flat_pos x; omega
  | n + 1, m + 1, ⟨w, l, o⟩, hn, hm => by
    rw [kindT, kindT]
    cases o
    · rfl
    · rw [flat_open] at hn hm
      simp only [List.length_cons, List.length_append, List.length_nil] at hn hm
      have hh : ∀ z, z ∈ l → kindT n z = kindT m z := fun z hz => by
        have := flatL_len_mem hz
        exact kindT_more n m z (by omega) (by omega)
      simp only [Bool.true_eq_false, if_false]
      match l, hh with
      | [], _ => rfl
      | [a], _ => rfl
      | [a, b], _ => rfl
      | [a, b, c], hh => simp only [hh b (by simp), hh c (by simp)]
      | a :: b :: c :: d :: r, _ => rfl

theorem termT_more : ∀ (n m : Nat) (x : Tn), x.flat.length ≤ n → x.flat.length ≤ m → termT n x = termT m x
  | 0, _, x, h, _ => by have := flat_pos x; omega
  | n + 1, 0, x, _, h => by have := flat_pos x; omega
  | n + 1, m + 1, ⟨w, l, o⟩, hn, hm => by
    rw [termT, termT]
    cases o
    · rfl
    · rw [flat_open] at hn hm
      simp only [List.length_cons, List.length_append, List.length_nil] at hn hm
      simp only [Bool.true_eq_false, if_false]
      cases l with
      | nil => rfl
      | cons y r =>
        simp only
        split
        · rfl
        · cases kindAt (bw y.w) with
          | none => rfl
          | some k =>
            simp only [Option.bind_some]
            have e : headT n k r = headT m k r := by
              unfold headT
              split
              · cases r with
                | nil => rfl
                | cons z r =>
                  have := flatL_len_mem (x := z) (l := y :: z :: r) (by simp)
                  simp only [kindT_more n m z (by omega) (by omega)]
              · rfl
            rw [e]
            cases hp : headT m k r with
            | none => rfl
            | some p =>
              have hsub : ∀ z, z ∈ p.2 → z ∈ r := by
                unfold headT at hp
                split at hp
                · cases r with
                  | nil => cases hp
                  | cons z r =>
                    obtain ⟨q, _, rfl⟩ := Option.map_eq_some_iff.1 hp
                    exact fun z hz => List.mem_cons_of_mem _ hz
                · obtain rfl := Option.some.inj hp
                  exact fun z hz => hz
              simp only [Option.bind_some]
              rw [allO_congr p.2 fun z hz => by
                have := flatL_len_mem (x := z) (l := y :: r) (List.mem_cons_of_mem _ (hsub z hz))
                exact termT_more n m z (by omega) (by omega)]
end Go.Proofs.YtnddkmccagiclaaGreatDoor

/-
  What the calls of chaperoneref.fun and chaperoneref.any0 make.
-/
namespace Go.Proofs.YtnddkmccagiclaaGreatDoor
open Go.RowKit

set_option maxHeartbeats 400000 in
/-- chaperoneref.fun. -/
theorem fun_cells (k k' : Int) (a a' : Option Addr) (m m' c c' : Nat) (w : World) :
    Calls Tryz.prog 97 #[.agg #[.int .i64 k, .slice a m c], .agg #[.int .i64 k', .slice a' m' c']] w fun e w' => ∃ g, w.heap.size ≤ g ∧ e = .returned (.agg #[.int .i64 3, .slice (some ⟨g, 0, none⟩) 2 2]) ∧ w'.cell? ⟨g, 0, none⟩ = some (.int .i64 k) ∧ w'.cell? ⟨g, 1, none⟩ = some (.slice a m c) ∧ w'.cell? ⟨g, 2, none⟩ = some (.int .i64 k') ∧ w'.cell? ⟨g, 3, none⟩ = some (.slice a' m' c') ∧ Below w.heap.size w w' := by
  go_enter Tryz.func97, Tryz.ntmps97
  go_wp2_with fail
  refine bodyPost_ret (v := .agg #[.int .i64 3, .slice (some ⟨w.heap.size + 1 + 1 + 1, 0, none⟩) 2 2]) (by simp [results, Tryz.results97, go_sem]) rfl ⟨_, ?_, rfl, by simp [go_sem], by simp [go_sem], by simp [go_sem], by simp [go_sem], ?_⟩
  · omega
  exact ((((Below.refl _ _).alloc (Nat.le_refl _) _).alloc (by simp) _).alloc (by simp; omega) _).alloc (by simp; omega) _

theorem fun_any (x y : Tr) (w : World) (hx : x.In w) (hy : y.In w) :
    Calls Tryz.prog 97 #[.agg #[.int .i64 x.k, .slice x.a x.l.length x.c], .agg #[.int .i64 y.k, .slice y.a y.l.length y.c]] w fun e w' => ∃ g, w.heap.size ≤ g ∧ e = .returned (.agg #[.int .i64 3, .slice (some ⟨g, 0, none⟩) 2 2]) ∧ (Tr.mk 3 (some ⟨g, 0, none⟩) 2 [x, y]).In w' ∧ Below w.heap.size w w' := by
  refine (fun_cells x.k y.k x.a y.a x.l.length y.l.length x.c y.c w).mono ?_
  rintro e w' ⟨g, hg, rfl, c0, c1, c2, c3, hb⟩
  refine ⟨g, hg, rfl, ?_, hb⟩
  exact Tr.In_two c0 c1 c2 c3 (hx.below hb) (hy.below hb)

set_option maxHeartbeats 400000 in
/-- chaperoneref.any0. -/
theorem any0_any (w : World) : Calls Tryz.prog 46 #[] w fun e w' => e = .returned (.agg #[.int .i64 0, .slice none 0 0]) ∧ w' = w.alloc (.cells #[.int .i64 0, .slice none 0 0] 24) := by
  go_enter Tryz.func46, Tryz.ntmps46
  go_wp2_with fail
  exact bodyPost_ret (v := .agg #[.int .i64 0, .slice none 0 0]) (by simp [results, Tryz.results46, go_sem]) rfl ⟨rfl, rfl⟩

end Go.Proofs.YtnddkmccagiclaaGreatDoor
