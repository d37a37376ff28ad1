/-
  What the call of ref's trees answers.
-/
import Derived.Test.YtnddkmccagiclabGreatDoorLota031f7686a
import Derived.Test.YtnddkmccagiclabGreatDoorLot6af9432580
import Derived.Test.YtnddkmccagiclabGreatDoorLotd76c694fc3
import Derived.Test.YtnddkmccagiclabGreatDoorLotfef4768764
import Derived.Lib.ItoaNum
import Derived.Lib.SlBytesRow
import Derived.IntWalk
namespace Go.Proofs.YtnddkmccagiclabGreatDoor
open Go.RowKit
theorem Tryz.info111 : (Tryz.prog.info? 111).map (fun i => (i.zero, i.size, i.bytes)) = some (some (.agg #[.string ⟨#[]⟩, .slice none 0 0, .bool false]), 3, 48) := by kernel_rfl
theorem slice_from (S : ByteArray) (k : Nat) (h : k ≤ S.size) (w : World) : (Instr.slice 9 (.string S) (some (.int .i64 (k : Int))) none none).run Tryz.prog w = .ok (.string (bw (S.data.toList.drop k))) w := by
  rw [run_slice_string_from_if w 9 S .i64 (k : Int) Tryz.underlying9, if_pos ⟨by omega, by omega⟩]
  show Result.ok (Value.string (S.extract k S.size)) w = _
  rw [Lib.extract_from]
  rfl
theorem slice_to (S : ByteArray) (k : Nat) (h : k ≤ S.size) (w : World) : (Instr.slice 9 (.string S) none (some (.int .i64 (k : Int))) none).run Tryz.prog w = .ok (.string (bw (S.data.toList.take k))) w := by
  rw [run_slice_string_to_if w 9 S .i64 (k : Int) Tryz.underlying9, if_pos ⟨by omega, by omega⟩]
  show Result.ok (Value.string (S.extract 0 k)) w = _
  rw [Lib.extract_upto]
  rfl
theorem TI.start (s : ByteArray) (wi : Bool) (w : World) : TI s wi w s (.slice none 0 0) [] w := by
  refine ⟨NL.start w, by simp, ?_⟩
  cases TR s.data.toList wi <;> simp
theorem TI.below {s : ByteArray} {wi : Bool} {w wr w2 : World} {s' : ByteArray} {v : Value} {ts : List Nd} (h : TI s wi w s' v ts wr) (hb : Below wr.heap.size wr w2) : TI s wi w s' v ts w2 := ⟨h.row.below hb, h.len, h.tr⟩
set_option maxRecDepth 20000 in
set_option maxHeartbeats 8000000 in
theorem trees_step (s : ByteArray) (wi : Bool) (w : World) (hs : s.size ≤ 1000)
    (ih : Hid (∀ (s2 : ByteArray) (wi2 : Bool) (W : World), s2.size < s.size → Calls Tryz.prog 62 #[.string s2, .bool wi2] W (TsPost s2 wi2 W))) :
    Calls Tryz.prog 62 #[.string s, .bool wi] w (TsPost s wi w) := by
  obtain ⟨i0, hi0, hz0, hz1, hz2⟩ := info_parts Tryz.info111
  go_enter Tryz.func62, Tryz.ntmps62
  go_wp2_with fail
  go_loopg [0, 7] s.size (fun g v0 v7 wr => ∃ (s' : ByteArray) (ts : List Nd) (v : Value), g = s'.size ∧ v0 = .string s' ∧ v = v7 ∧ Hid (TI s wi w s' v ts wr))
  case atStart => exact ⟨s, [], _, rfl, rfl, rfl, TI.start s wi w⟩
  case round =>
    obtain ⟨s', ts, v, hg, rfl, hv, HI⟩ := hrel
    subst hv
    have HG : Hid (gk = s'.size) := hg
    clear hg
    obtain ⟨a, c, rfl, htree⟩ := HI.out.row.tree
    clear htree
    go_wp2_with fail
    refine (trimLeft_any s' _).mono ?_
    rintro e w2 ⟨rfl, hb2⟩
    have HJ : Hid (TI s wi w s' (.slice a ts.length c) ts w2) := HI.out.below hb2
    clear HI hb2
    obtain ⟨S, hS⟩ : ∃ S, bw (trimS s'.data.toList) = S := ⟨_, rfl⟩
    rw [hS]
    have HSL : Hid (S.data.toList = trimS s'.data.toList ∧ S.size ≤ s'.size ∧ S.size = (trimS s'.data.toList).length) := by
      have h1 := trim_len s'.data.toList
      have h2 : S.size = (trimS s'.data.toList).length := by rw [← hS]; show (trimS s'.data.toList).toArray.size = _; simp
      have h3 : s'.data.toList.length = s'.size := Array.length_toList
      exact ⟨by rw [← hS]; rfl, by omega, h2⟩
    clear hS
    obtain ⟨T, hT⟩ : ∃ T, trimS s'.data.toList = T := ⟨_, rfl⟩
    cases T with
    | nil =>
      have hemp : S.toList.isEmpty = true := by rw [Lib.toList_data, HSL.out.1, hT]; rfl
      have HF : Hid (TsPost s wi w (.returned (.tuple #[.slice a ts.length c, .string ⟨#[]⟩, .bool (!wi)])) w2) := by
        refine ⟨a, c, ts, ⟨#[]⟩, !wi, rfl, ?_, HJ.out.row.low, ?_⟩
        · obtain ⟨a', c', e, h⟩ := HJ.out.row.tree
          obtain ⟨rfl, _, rfl⟩ := Value.slice.inj e
          exact h
        · rw [HJ.out.tr, TR_end _ _ hT]
          cases wi
          · exact .inr ⟨_, rfl, rfl, by simp, rfl⟩
          · exact .inl ⟨rfl, rfl⟩
      clear HJ HSL HG ih
      go_wp2_with fail
      refine bodyPost_ret (v := .tuple #[.slice a ts.length c, .string ⟨#[]⟩, .bool (!wi)]) ?_ rfl HF.out
      simp [results, Tryz.results62, go_sem]
    | cons d r =>
      have hSs : S.size = r.length + 1 := by rw [HSL.out.2.2, hT]; simp
      have hemp : S.toList.isEmpty = false := by rw [Lib.toList_data, HSL.out.1, hT]; rfl
      have h0 : 0 < S.size := by omega
      have hx : S[0]'h0 = d := by
        have h1 : S.data.toList[0]? = some d := by rw [HSL.out.1, hT]; rfl
        have h2 := Lib.data_getElem? S 0 h0
        rw [h1] at h2
        exact (Option.some.inj h2).symm
      have hsl : ∀ w, (Instr.slice 9 (.string S) (some (.int .i64 1)) none none).run Tryz.prog w = .ok (.string (bw r)) w := fun w => by
        have := slice_from S 1 (by omega) w
        rw [HSL.out.1, hT] at this
        exact this
      have HD : Hid (trimS s'.data.toList = d :: r ∧ spB d = false ∧ r.length + 1 ≤ s'.size) := ⟨hT, trim_head _ _ _ hT, by have := HSL.out.2.1; omega⟩
      clear hT
      by_cases h41 : d = 41
      · have hc1 : ((d.toNat : Int) == 41) = true := by rw [h41]; rfl
        have HF : ∀ W, Below w2.heap.size w2 W → TsPost s wi w (.returned (.tuple #[.slice a ts.length c, .string (bw r), .bool wi])) W := fun W hb => by
          refine ⟨a, c, ts, bw r, wi, rfl, ?_, (HJ.out.below hb).row.low, ?_⟩
          · obtain ⟨a', c', e, h⟩ := (HJ.out.below hb).row.tree
            obtain ⟨rfl, _, rfl⟩ := Value.slice.inj e
            exact h
          · have hT := HD.out.1
            rw [h41] at hT
            rw [HJ.out.tr, TR_close _ r _ hT]
            cases wi
            · exact .inl ⟨rfl, rfl⟩
            · exact .inr ⟨_, rfl, rfl, by simp, rfl⟩
        have HFF : Hid (∀ W, Below w2.heap.size w2 W → TsPost s wi w (.returned (.tuple #[.slice a ts.length c, .string (bw r), .bool wi])) W) := HF
        obtain ⟨Br, hBr⟩ : ∃ B, bw r = B := ⟨_, rfl⟩
        rw [hBr] at hsl HFF
        clear HF HJ HD HG ih h41 hBr
        go_wp2_with fail
        go_region_held3 (fun w' => Below w2.heap.size w2 w') (first | exact (Below.refl _ _).drew | go_keep) (fail)
        go_wp2_with fail
        refine bodyPost_ret (v := .tuple #[.slice a ts.length c, .string Br, .bool wi]) ?_ rfl (HFF.out _ (by assumption))
        simp [results, Tryz.results62, go_sem]
      · have hc1 : ((d.toNat : Int) == 41) = false := by
          rw [beq_eq_false_iff_ne]
          intro e
          exact h41 (UInt8.toNat_inj.1 (by show d.toNat = 41; omega))
        by_cases h40 : d = 40
        · have hc2 : ((d.toNat : Int) == 40) = true := by rw [h40]; rfl
          have HT : Hid (trimS s'.data.toList = 40 :: r ∧ r.length + 1 ≤ s'.size) := ⟨by rw [← h40]; exact HD.out.1, HD.out.2.2⟩
          obtain ⟨Br, hBr⟩ : ∃ B, bw r = B := ⟨_, rfl⟩
          have HB : Hid (Br.data.toList = r ∧ Br.size = r.length) := by
            rw [← hBr]
            exact ⟨rfl, by show r.toArray.size = _; simp⟩
          have HC : Hid (Calls Tryz.prog 62 #[.string Br, .bool true] w2 (TsPost Br true w2)) := ih.out Br true w2 (by have := HB.out.2; have := HT.out.2; have := HJ.out.len; omega)
          rw [hBr] at hsl
          clear HD h40 h41 hBr ih
          go_wp2_with fail
          refine HC.out.mono ?_
          rintro e w3 ⟨xa, xc, xs, R, ok, rfl, HP⟩
          clear HC
          have HK : Hid (TI s wi w s' (.slice a ts.length c) ts w3) := HJ.out.below HP.out.2.1
          cases ok
          · have HF : Hid (TsPost s wi w (.returned (.tuple #[.slice none (0 : Nat) 0, .string ⟨#[]⟩, .bool false])) w3) := by
              refine ⟨none, 0, [], ⟨#[]⟩, false, rfl, fun wd o => ⟨Nd.In_nil _ _ _ _ _, Nd.Bl_nil _ _ _ _ _⟩, HK.out.row.low, .inl ⟨?_, rfl⟩⟩
              rw [HK.out.tr, TR_open _ r _ HT.out.1]
              rcases HP.out.2.2 with ⟨h, _⟩ | ⟨p, _, h, _⟩
              · rw [HB.out.1] at h
                rw [h]; rfl
              · cases h
            clear HK HP HJ HT HB HSL HG
            go_wp2_with fail
            refine bodyPost_ret (v := .tuple #[.slice none (0 : Nat) 0, .string ⟨#[]⟩, .bool false]) ?_ rfl HF.out
            simp [results, Tryz.results62, go_sem]
          · have HO : Hid (∃ p, TR r true = some p ∧ xs.map Nd.tn = p.1 ∧ R.data.toList = p.2 ∧ p.2.length + 1 ≤ r.length) := by
              rcases HP.out.2.2 with ⟨_, h⟩ | ⟨p, h1, _, h2, h3⟩
              · cases h
              · rw [HB.out.1] at h1
                exact ⟨p, h1, h2, h3, (TR_less h1).2 rfl⟩
            have HQ : Hid ((Nd.mk ⟨#[]⟩ xa xc xs true).In w3 ∧ (Nd.mk ⟨#[]⟩ xa xc xs true).Bl (w2.heap.size ≤ ·) ∧ Below w2.heap.size w2 w3) := ⟨(HP.out.1 _ _).1, (HP.out.1 _ _).2, HP.out.2.1⟩
            clear HP
            have hoa : (w3.alloc (.cells #[.string ⟨#[]⟩, .slice xa xs.length xc, .bool true] 111)).ownsRow w.heap.size 111 3 (.slice a ts.length c) ts.length (cells3N ts) := ownsRow_below HK.out.row.own ((Below.refl _ _).alloc (Nat.le_refl _) _)
            have hnew := heap_alloc_new w3 (.cells #[.string ⟨#[]⟩, .slice xa xs.length xc, .bool true] 111)
            have hts : ts.length ≤ 1000 := by have := HK.out.len; omega
            have hlo : w.heap.size ≤ w3.heap.size := HK.out.row.low.size
            go_wp2_with (at_builtin; refine wpList_append_lies _ rfl _ _ _ rfl w.heap.size 111 i0 _ 3 48 Tryz.underlying106 hi0 hz0 hz1 hz2 rfl (by omega) (.slice a ts.length c) ts.length (cells3N ts) rfl hoa ⟨w3.heap.size, 0, none⟩ 1 1 [.string ⟨#[]⟩, .slice xa xs.length xc, .bool true] rfl rfl (World.news_of_block (cs := #[.string ⟨#[]⟩, .slice xa xs.length xc, .bool true]) (t := 111) (fr := (0, 0)) hnew) (by simp [Value.oneCell']) (by omega) (by unfold maxLen; omega) (by omega) (by simp; omega) (w3.heap.size + 1) (by simp) ?_; intro gg cap1 w5 hown1 hgrow hat hlt5)
            have HN : Hid (NL w (.slice (some ⟨gg, 0, none⟩) (ts.length + 1) cap1) (ts ++ [Nd.mk ⟨#[]⟩ xa xc xs true]) w5) := by
              have hba : Below w3.heap.size w3 (w3.alloc (.cells #[.string ⟨#[]⟩, .slice xa xs.length xc, .bool true] 111)) := (Below.refl _ _).alloc (Nat.le_refl _) _
              exact HK.out.row.step (t := Nd.mk ⟨#[]⟩ xa xc xs true) hba (HQ.out.1.below hba) (HQ.out.2.1.mono fun b hb => ⟨by have := HJ.out.row.low.size; omega, fun e => by have := (HJ.out.row.own.lt b e.symm).2; omega⟩) hown1 hgrow (hat.elim .inl fun h => .inr (by rw [h]; simp))
            clear hown1 hgrow hat hlt5 hoa hnew hlo
            have HR : Hid (TI s wi w R (.slice (some ⟨gg, 0, none⟩) (ts.length + 1) cap1) (ts ++ [Nd.mk ⟨#[]⟩ xa xc xs true]) w5 ∧ R.size < s'.size) := by
              obtain ⟨p, h1, h2, h3, h4⟩ := HO.out
              have h5 : R.size = p.2.length := by rw [← h3, Array.length_toList]; rfl
              have h6 := HT.out.2
              have h7 := HK.out.len
              refine ⟨⟨HN.out, by rw [List.length_append]; simp; omega, ?_⟩, by omega⟩
              rw [HK.out.tr, TR_open _ r _ HT.out.1, h1, Option.bind_some, h3]
              cases TR p.2 wi with
              | none => rfl
              | some q => simp [Nd.tn_mk, h2]
            clear HN HK HJ HO HQ HT HB HSL hts
            have HG2 : Hid (R.size < gk) := by rw [HG.out]; exact HR.out.2
            clear HG
            go_wp2_with fail
            go_roundg R.size
            case measure => exact HG2.out
            case rel => exact ⟨R, ts ++ [Nd.mk ⟨#[]⟩ xa xc xs true], _, rfl, rfl, rfl, HR.out.1⟩
        · have hc2 : ((d.toNat : Int) == 40) = false := by
            rw [beq_eq_false_iff_ne]
            intro e
            exact h40 (UInt8.toNat_inj.1 (by show d.toNat = 40; omega))
          have H4 : Hid (d ≠ 41 ∧ d ≠ 40) := ⟨h41, h40⟩
          obtain ⟨M, hM⟩ : ∃ M, (takeW (d :: r)).length = M := ⟨_, rfl⟩
          obtain ⟨Wd, hWd⟩ : ∃ B, bw (takeW (d :: r)) = B := ⟨_, rfl⟩
          obtain ⟨Rs, hRs⟩ : ∃ B, bw (dropW (d :: r)) = B := ⟨_, rfl⟩
          obtain ⟨_, _, hsp, hdl⟩ := word_split d r HD.out.2.1 h41 h40
          have hML : M ≤ S.size := by
            have := congrArg List.length hsp
            rw [List.length_append, List.length_cons] at this
            omega
          have hslT : ∀ w, (Instr.slice 9 (.string S) none (some (.int .i64 (M : Int))) none).run Tryz.prog w = .ok (.string Wd) w := fun w => by
            rw [slice_to S M hML w, HSL.out.1, HD.out.1, ← hWd]
            congr 3
            conv => lhs; rw [← hsp]
            rw [← hM, List.take_left']
            rfl
          have hslD : ∀ w, (Instr.slice 9 (.string S) (some (.int .i64 (M : Int))) none none).run Tryz.prog w = .ok (.string Rs) w := fun w => by
            rw [slice_from S M hML w, HSL.out.1, HD.out.1, ← hRs]
            congr 3
            conv => lhs; rw [← hsp]
            rw [← hM, List.drop_left']
            rfl
          have HW : Hid (Wd.data.toList = takeW (d :: r) ∧ Rs.data.toList = dropW (d :: r) ∧ Rs.size ≤ r.length ∧ Rs.size + 1 ≤ s'.size) := by
            have e : Rs.size = (dropW (d :: r)).length := by rw [← hRs]; show (dropW (d :: r)).toArray.size = _; simp
            have := HD.out.2.2
            exact ⟨by rw [← hWd]; rfl, by rw [← hRs]; rfl, by omega, by omega⟩
          have hq : Lib.indexAny S.data.toList delL = if M < S.size then (M : Int) else -1 := by
            rw [HSL.out.1, HD.out.1, indexAny_take, hM, hSs]
            rfl
          clear hsl hsp hdl hWd hRs hM h40 h41 ih
          go_wp2_with fail
          refine (idxAny_any S _ (by have := HSL.out.2.1; have := HJ.out.len; omega)).mono ?_
          rintro e w3 ⟨rfl, hb3⟩
          have HK : Hid (TI s wi w s' (.slice a ts.length c) ts w3) := HJ.out.below hb3
          clear HJ hb3
          rw [hq]
          by_cases hlt : M < S.size
          · rw [if_pos hlt]
            have hn0 : ¬ ((M : Int) < 0) := by omega
            clear hq hlt
            have hoa : (w3.alloc (.cells #[.string Wd, .slice none 0 0, .bool false] 111)).ownsRow w.heap.size 111 3 (.slice a ts.length c) ts.length (cells3N ts) := ownsRow_below HK.out.row.own ((Below.refl _ _).alloc (Nat.le_refl _) _)
            have hnew := heap_alloc_new w3 (.cells #[.string Wd, .slice none 0 0, .bool false] 111)
            have hts : ts.length ≤ 1000 := by have := HK.out.len; omega
            have hlo : w.heap.size ≤ w3.heap.size := HK.out.row.low.size
            go_wp2_with (at_builtin; refine wpList_append_lies _ rfl _ _ _ rfl w.heap.size 111 i0 _ 3 48 Tryz.underlying106 hi0 hz0 hz1 hz2 rfl (by omega) (.slice a ts.length c) ts.length (cells3N ts) rfl hoa ⟨w3.heap.size, 0, none⟩ 1 1 [.string Wd, .slice none 0 0, .bool false] rfl rfl (World.news_of_block (cs := #[.string Wd, .slice none 0 0, .bool false]) (t := 111) (fr := (0, 0)) hnew) (by simp [Value.oneCell']) (by omega) (by unfold maxLen; omega) (by omega) (by simp; omega) (w3.heap.size + 1) (by simp) ?_; intro gg cap1 w5 hown1 hgrow hat hlt5)
            have HN : Hid (NL w (.slice (some ⟨gg, 0, none⟩) (ts.length + 1) cap1) (ts ++ [Nd.mk Wd none 0 [] false]) w5) := by
              have hba : Below w3.heap.size w3 (w3.alloc (.cells #[.string Wd, .slice none 0 0, .bool false] 111)) := (Below.refl _ _).alloc (Nat.le_refl _) _
              exact HK.out.row.step (t := Nd.mk Wd none 0 [] false) hba (Nd.In_nil _ _ _ _ _) (Nd.Bl_nil _ _ _ _ _) hown1 hgrow (hat.elim .inl fun h => .inr (by rw [h]; simp))
            clear hown1 hgrow hat hlt5 hoa hnew hlo
            have HR : Hid (TI s wi w Rs (.slice (some ⟨gg, 0, none⟩) (ts.length + 1) cap1) (ts ++ [Nd.mk Wd none 0 [] false]) w5 ∧ Rs.size < s'.size) := by
              obtain ⟨h1, h2, h3, h4⟩ := HW.out
              have h7 := HK.out.len
              have h8 := HD.out.2.2
              refine ⟨⟨HN.out, by rw [List.length_append]; simp; omega, ?_⟩, by omega⟩
              rw [HK.out.tr, TR_word _ r d _ HD.out.1 H4.out.1 H4.out.2, h2]
              cases TR (dropW (d :: r)) wi with
              | none => rfl
              | some q => simp [Nd.tn_mk, h1]
            clear HN HK HW HD H4 HSL hts
            have HG2 : Hid (Rs.size < gk) := by rw [HG.out]; exact HR.out.2
            clear HG
            go_wp2_with fail
            go_roundg Rs.size
            case measure => exact HG2.out
            case rel => exact ⟨Rs, ts ++ [Nd.mk Wd none 0 [] false], _, rfl, rfl, rfl, HR.out.1⟩
          · rw [if_neg hlt]
            have hSM : S.size = M := by omega
            have hm1 : ((-1 : Int) < 0) := by omega
            clear hq hlt hSs hML
            have hoa : (w3.alloc (.cells #[.string Wd, .slice none 0 0, .bool false] 111)).ownsRow w.heap.size 111 3 (.slice a ts.length c) ts.length (cells3N ts) := ownsRow_below HK.out.row.own ((Below.refl _ _).alloc (Nat.le_refl _) _)
            have hnew := heap_alloc_new w3 (.cells #[.string Wd, .slice none 0 0, .bool false] 111)
            have hts : ts.length ≤ 1000 := by have := HK.out.len; omega
            have hlo : w.heap.size ≤ w3.heap.size := HK.out.row.low.size
            go_wp2_with (at_builtin; refine wpList_append_lies _ rfl _ _ _ rfl w.heap.size 111 i0 _ 3 48 Tryz.underlying106 hi0 hz0 hz1 hz2 rfl (by omega) (.slice a ts.length c) ts.length (cells3N ts) rfl hoa ⟨w3.heap.size, 0, none⟩ 1 1 [.string Wd, .slice none 0 0, .bool false] rfl rfl (World.news_of_block (cs := #[.string Wd, .slice none 0 0, .bool false]) (t := 111) (fr := (0, 0)) hnew) (by simp [Value.oneCell']) (by omega) (by unfold maxLen; omega) (by omega) (by simp; omega) (w3.heap.size + 1) (by simp) ?_; intro gg cap1 w5 hown1 hgrow hat hlt5)
            have HN : Hid (NL w (.slice (some ⟨gg, 0, none⟩) (ts.length + 1) cap1) (ts ++ [Nd.mk Wd none 0 [] false]) w5) := by
              have hba : Below w3.heap.size w3 (w3.alloc (.cells #[.string Wd, .slice none 0 0, .bool false] 111)) := (Below.refl _ _).alloc (Nat.le_refl _) _
              exact HK.out.row.step (t := Nd.mk Wd none 0 [] false) hba (Nd.In_nil _ _ _ _ _) (Nd.Bl_nil _ _ _ _ _) hown1 hgrow (hat.elim .inl fun h => .inr (by rw [h]; simp))
            clear hown1 hgrow hat hlt5 hoa hnew hlo
            have HR : Hid (TI s wi w Rs (.slice (some ⟨gg, 0, none⟩) (ts.length + 1) cap1) (ts ++ [Nd.mk Wd none 0 [] false]) w5 ∧ Rs.size < s'.size) := by
              obtain ⟨h1, h2, h3, h4⟩ := HW.out
              have h7 := HK.out.len
              have h8 := HD.out.2.2
              refine ⟨⟨HN.out, by rw [List.length_append]; simp; omega, ?_⟩, by omega⟩
              rw [HK.out.tr, TR_word _ r d _ HD.out.1 H4.out.1 H4.out.2, h2]
              cases TR (dropW (d :: r)) wi with
              | none => rfl
              | some q => simp [Nd.tn_mk, h1]
            clear HN HK HW HD H4 HSL hts
            have HG2 : Hid (Rs.size < gk) := by rw [HG.out]; exact HR.out.2
            clear HG
            go_wp2_with fail
            go_roundg Rs.size
            case measure => exact HG2.out
            case rel => exact ⟨Rs, ts ++ [Nd.mk Wd none 0 [] false], _, rfl, rfl, rfl, HR.out.1⟩
theorem trees_any : ∀ (n : Nat) (s : ByteArray) (wi : Bool) (w : World), s.size ≤ n → s.size ≤ 1000 → Calls Tryz.prog 62 #[.string s, .bool wi] w (TsPost s wi w)
  | 0, s, wi, w, h, hs => trees_step s wi w hs fun s2 wi2 W h2 => by omega
  | n + 1, s, wi, w, h, hs => trees_step s wi w hs fun s2 wi2 W h2 => trees_any n s2 wi2 W (by omega) (by omega)
end Go.Proofs.YtnddkmccagiclabGreatDoor

/-
  Terms out of trees of words, and out of words one behind the other: the same; the plain mathematics, no program in it.
-/
namespace Go.Proofs.YtnddkmccagiclabGreatDoor
/-- The number of at most seven digits that a word tells. -/
def numT (d : List UInt8) : Option Int := (numOf (bw d)).bind fun v => if -9999999 ≤ v ∧ v ≤ 9999999 then some v else none
/-- The term of a word. -/
def wordT (w : List UInt8) : Option Tm :=
  match atWord (bw w) truthWs 0 with
  | some b => some ⟨3, (b : Int), anyY, anyY, []⟩
  | none =>
    match w with
    | 35 :: d => (numT d).map fun n => ⟨1, n, anyY, anyY, []⟩
    | _ => (numT w).map fun n => ⟨2, n, anyY, anyY, []⟩
/-- The type of a tree. -/
def kindT : Nat → Tn → Option Ty
  | 0, _ => none
  | n + 1, x =>
    if x.o = false then (atWord (bw x.w) typeWs 0).map fun (k : Nat) => Ty.mk (k : Int) []
    else match x.l with
      | [a, b, c] => if a.o = false ∧ a.w = [116, 111] then (kindT n b).bind fun p => (kindT n c).map fun q => ⟨3, [p, q]⟩ else none
      | _ => none
def allO (f : Tn → Option Tm) : List Tn → Option (List Tm)
  | [] => some []
  | x :: l => (f x).bind fun t => (allO f l).map fun ts => t :: ts
/-- The type that a kind's tree tells, and the trees behind it. -/
def headT (n k : Nat) (l : List Tn) : Option (Ty × List Tn) :=
  if tells (k : Int) = true then (match l with | [] => none | z :: r => (kindT n z).map fun t => (t, r)) else some (anyY, l)
theorem headT_yes (n k : Nat) (z : Tn) (r : List Tn) (h : tells (k : Int) = true) : headT n k (z :: r) = (kindT n z).map fun t => (t, r) := by
  unfold headT; rw [if_pos h]
theorem headT_nil (n k : Nat) (h : tells (k : Int) = true) : headT n k [] = none := by
  unfold headT; rw [if_pos h]
theorem headT_no (n k : Nat) (l : List Tn) (h : ¬ tells (k : Int) = true) : headT n k l = some (anyY, l) := by
  unfold headT; rw [if_neg h]
/-- The term of a tree. -/
def termT : Nat → Tn → Option Tm
  | 0, _ => none
  | n + 1, x =>
    if x.o = false then wordT x.w
    else match x.l with
      | [] => none
      | y :: r => if y.o = true then none else (kindAt (bw y.w)).bind fun k => (headT n k r).bind fun p => if p.2.length = partsOf (k : Int) then (allO (termT n) p.2).map fun l => ⟨(k : Int), 0, p.1, anyY, l⟩ else none
/-- All numbers within are of seven digits. -/
def smallM : Tm → Prop
  | ⟨_, n, _, _, l⟩ => (-9999999 ≤ n ∧ n ≤ 9999999) ∧ ∀ y, y ∈ l → smallM y
theorem smallM_mk {k n : Int} {t f : Ty} {l : List Tm} : smallM ⟨k, n, t, f, l⟩ ↔ (-9999999 ≤ n ∧ n ≤ 9999999) ∧ ∀ y, y ∈ l → smallM y := by
  rw [smallM]
def flatB (ws : List (List UInt8)) : List ByteArray := ws.map bw
theorem flatB_append (a b : List (List UInt8)) : flatB (a ++ b) = flatB a ++ flatB b := by simp [flatB]
theorem flatB_cons (a : List UInt8) (b : List (List UInt8)) : flatB (a :: b) = bw a :: flatB b := rfl
theorem flatB_nil : flatB [] = [] := rfl
theorem bw_apart {a b : List UInt8} (h : a ≠ b) : bw a ≠ bw b := fun e => h (bw_inj e)
theorem opB_eq : opB = bw [40] := rfl
theorem clB_eq : clB = bw [41] := rfl
theorem toB_eq : toB = bw [116, 111] := rfl
theorem numT_of {d : List UInt8} {v : Int} (h : numT d = some v) : numOf (bw d) = some v ∧ (-9999999 ≤ v ∧ v ≤ 9999999) := by
  obtain ⟨u, hu, h⟩ := Option.bind_eq_some_iff.1 h
  split at h
  · obtain rfl := Option.some.inj h
    exact ⟨hu, by assumption⟩
  · cases h
theorem numT_to {d : List UInt8} {v : Int} (h : numOf (bw d) = some v) (hs : -9999999 ≤ v ∧ v ≤ 9999999) : numT d = some v := by
  rw [numT, h, Option.bind_some, if_pos hs]
theorem wordT_hash (d : List UInt8) (h : atWord (bw (35 :: d)) truthWs 0 = none) : wordT (35 :: d) = (numT d).map fun n => ⟨1, n, anyY, anyY, []⟩ := by
  unfold wordT; rw [h]; rfl
theorem wordT_num (w : List UInt8) (h : atWord (bw w) truthWs 0 = none) (hw : ∀ d, w ≠ 35 :: d) : wordT w = (numT w).map fun n => ⟨2, n, anyY, anyY, []⟩ := by
  unfold wordT; rw [h]
  simp only
theorem wordT_truth (w : List UInt8) (b : Nat) (h : atWord (bw w) truthWs 0 = some b) : wordT w = some ⟨3, (b : Int), anyY, anyY, []⟩ := by
  unfold wordT; rw [h]
theorem readWord_hash (d : List UInt8) (r : List ByteArray) (h : atWord (bw (35 :: d)) truthWs 0 = none) : readWord (bw (35 :: d)) r = (numOf (bw d)).map fun n => (⟨1, n, anyY, anyY, []⟩, r) := by
  unfold readWord; rw [h]; rfl
theorem readWord_num (w : List UInt8) (r : List ByteArray) (h : atWord (bw w) truthWs 0 = none) (hw : ∀ d, w ≠ 35 :: d) : readWord (bw w) r = (numOf (bw w)).map fun n => (⟨2, n, anyY, anyY, []⟩, r) := by
  unfold readWord; rw [h, bw_data]
  simp only
theorem readWord_truth (w : List UInt8) (b : Nat) (r : List ByteArray) (h : atWord (bw w) truthWs 0 = some b) : readWord (bw w) r = some (⟨3, (b : Int), anyY, anyY, []⟩, r) := by
  unfold readWord; rw [h]
theorem hash_or (w : List UInt8) : (∃ d, w = 35 :: d) ∨ ∀ d, w ≠ 35 :: d := by
  by_cases h : ∃ d, w = 35 :: d
  · exact .inl h
  · exact .inr fun d e => h ⟨d, e⟩
/-- A word's term is what the word tells. -/
theorem word_read {w : List UInt8} {t : Tm} (h : wordT w = some t) (r : List ByteArray) : readWord (bw w) r = some (t, r) := by
  cases ha : atWord (bw w) truthWs 0 with
  | some b => rw [wordT_truth w b ha] at h; rw [readWord_truth w b r ha, Option.some.inj h]
  | none =>
    rcases hash_or w with ⟨d, rfl⟩ | hw
    · rw [wordT_hash d ha] at h
      obtain ⟨n, hn, rfl⟩ := Option.map_eq_some_iff.1 h
      rw [readWord_hash d r ha, (numT_of hn).1]; rfl
    · rw [wordT_num w ha hw] at h
      obtain ⟨n, hn, rfl⟩ := Option.map_eq_some_iff.1 h
      rw [readWord_num w r ha hw, (numT_of hn).1]; rfl
theorem read_word {w : List UInt8} {t : Tm} {r q : List ByteArray} (h : readWord (bw w) r = some (t, q)) (hs : smallM t) : wordT w = some t ∧ q = r := by
  cases ha : atWord (bw w) truthWs 0 with
  | some b =>
    rw [readWord_truth w b r ha] at h
    obtain ⟨rfl, rfl⟩ := Prod.mk.inj (Option.some.inj h)
    exact ⟨wordT_truth w b ha, rfl⟩
  | none =>
    rcases hash_or w with ⟨d, rfl⟩ | hw
    · rw [readWord_hash d r ha] at h
      obtain ⟨n, hn, he⟩ := Option.map_eq_some_iff.1 h
      obtain ⟨rfl, rfl⟩ := Prod.mk.inj he
      rw [wordT_hash d ha, numT_to hn (smallM_mk.1 hs).1]
      exact ⟨rfl, rfl⟩
    · rw [readWord_num w r ha hw] at h
      obtain ⟨n, hn, he⟩ := Option.map_eq_some_iff.1 h
      obtain ⟨rfl, rfl⟩ := Prod.mk.inj he
      rw [wordT_num w ha hw, numT_to hn (smallM_mk.1 hs).1]
      exact ⟨rfl, rfl⟩
/-! ### Types -/
theorem flatL_len_mem {x : Tn} : ∀ {l : List Tn}, x ∈ l → x.flat.length ≤ (flatL l).length
  | y :: l, h => by
    rw [flatL_cons, List.length_append]
    rcases List.mem_cons.1 h with rfl | h
    · omega
    · have := flatL_len_mem h
      omega
theorem kind_read : ∀ (m : Nat) (x : Tn) (t : Ty), x.nice → kindT m x = some t → ∀ (n : Nat) (rest : List ByteArray), x.flat.length ≤ n → readTy n (flatB x.flat ++ rest) = some (t, rest)
  | 0, _, _, _, h, _, _, _ => by simp [kindT] at h
  | m + 1, x, t, hx, h, 0, rest, hn => by have := flat_pos x; omega
  | m + 1, x, t, hx, h, n + 1, rest, hn => by
    rw [kindT] at h
    rcases nice_kind hx with ⟨l, rfl, hl⟩ | ⟨w, rfl, hw⟩
    · simp only [Bool.true_eq_false, if_false] at h
      match l, h with
      | [a, b, c], h =>
        simp only at h
        split at h
        · rename_i ha
          obtain ⟨p, hp, h⟩ := Option.bind_eq_some_iff.1 h
          obtain ⟨q, hq, rfl⟩ := Option.map_eq_some_iff.1 h
          rw [flat_open] at hn ⊢
          simp only [flatL_cons, flatL_nil, List.append_nil, List.length_cons, List.length_append, List.length_nil] at hn ⊢
          have ea : a.flat = [[116, 111]] := by
            obtain ⟨aw, al, ao⟩ := a
            obtain ⟨rfl, rfl⟩ : ao = false ∧ aw = [116, 111] := ha
            exact flat_word _ _
          rw [ea] at hn ⊢
          simp only [List.length_cons, List.length_nil] at hn
          have e : flatB ([40] :: ([[116, 111]] ++ (b.flat ++ c.flat) ++ [[41]])) ++ rest = opB :: toB :: (flatB b.flat ++ (flatB c.flat ++ (clB :: rest))) := by
            simp [flatB, opB_eq, toB_eq, clB_eq]
          rw [e, readTy, if_pos rfl, behind, if_pos rfl, Option.bind_some]
          rw [kind_read m b p (hl b (by simp)) hp n _ (by omega), Option.bind_some]
          simp only
          rw [kind_read m c q (hl c (by simp)) hq n _ (by omega), Option.bind_some]
          simp only [behind, if_true, Option.map_some]
        · cases h
    · simp only [if_true] at h
      rw [flat_word, flatB_cons, flatB_nil, List.cons_append, List.nil_append, readTy, if_neg (by rw [opB_eq]; exact bw_apart (plain_ne hw).1)]
      cases ha : atWord (bw w) typeWs 0 with
      | none => rw [ha] at h; cases h
      | some k =>
        rw [ha] at h
        simp only [Option.map_some, Option.some.injEq] at h ⊢
        rw [h]
def KindW (x : List UInt8) : Prop := x = [40] ∨ x = [41] ∨ plainW x
theorem behind_some {x : ByteArray} {ws r : List ByteArray} (h : behind x ws = some r) : ws = x :: r := by
  cases ws with
  | nil => cases h
  | cons y q =>
    rw [behind] at h
    split at h
    · rename_i e; rw [e, Option.some.inj h]
    · cases h
theorem flatB_eq_cons {ws : List (List UInt8)} {x : ByteArray} {r : List ByteArray} (h : flatB ws = x :: r) : ∃ w ws', ws = w :: ws' ∧ bw w = x ∧ flatB ws' = r := by
  cases ws with
  | nil => cases h
  | cons w ws' =>
    rw [flatB_cons] at h
    obtain ⟨h1, h2⟩ := List.cons.inj h
    exact ⟨w, ws', rfl, h1, h2⟩
theorem read_kind : ∀ (n : Nat) (ws : List (List UInt8)) (t : Ty) (rest : List ByteArray), (∀ x, x ∈ ws → KindW x) → readTy n (flatB ws) = some (t, rest) → ∃ (x : Tn) (ws' : List (List UInt8)), x.nice ∧ ws = x.flat ++ ws' ∧ flatB ws' = rest ∧ kindT n x = some t
  | 0, _, _, _, _, h => by simp [readTy] at h
  | n + 1, [], _, _, _, h => by simp [readTy, flatB] at h
  | n + 1, x :: r, t, rest, hk, h => by
    rw [flatB_cons, readTy] at h
    have hr : ∀ y, y ∈ r → KindW y := fun y hy => hk y (List.mem_cons_of_mem _ hy)
    split at h
    · rename_i hx
      obtain rfl : x = [40] := bw_inj hx
      obtain ⟨r1, h1, g1⟩ := Option.bind_eq_some_iff.1 h
      obtain ⟨w1, ws1, rfl, e1, rfl⟩ := flatB_eq_cons (behind_some h1)
      obtain rfl : w1 = [116, 111] := bw_inj e1
      obtain ⟨p, hp, g2⟩ := Option.bind_eq_some_iff.1 g1
      obtain ⟨q, hq, g3⟩ := Option.bind_eq_some_iff.1 g2
      obtain ⟨r4, h4, he⟩ := Option.map_eq_some_iff.1 g3
      obtain ⟨rfl, rfl⟩ := Prod.mk.inj he
      obtain ⟨b, ws2, hb, rfl, e2, hb'⟩ := read_kind n ws1 p.1 p.2 (fun y hy => hr y (List.mem_cons_of_mem _ hy)) hp
      rw [← e2] at hq
      obtain ⟨c, ws3, hc, rfl, e3, hc'⟩ := read_kind n ws2 q.1 q.2 (fun y hy => hr y (by simp [hy])) hq
      rw [← e3] at h4
      obtain ⟨w4, ws4, rfl, e4, rfl⟩ := flatB_eq_cons (behind_some h4)
      obtain rfl : w4 = [41] := bw_inj e4
      refine ⟨⟨[], [⟨[116, 111], [], false⟩, b, c], true⟩, ws4, nice_open.2 fun y hy => ?_, ?_, rfl, ?_⟩
      · simp only [List.mem_cons, List.not_mem_nil, or_false] at hy
        rcases hy with rfl | rfl | rfl
        · exact nice_word.2 ⟨by simp, by decide⟩
        · exact hb
        · exact hc
      · rw [flat_open]
        simp [flatL_cons, flatL_nil, flat_word]
      · rw [kindT]
        simp [hb', hc']
    · rename_i hx
      obtain ⟨k, hk', he⟩ := Option.map_eq_some_iff.1 h
      obtain ⟨rfl, rfl⟩ := Prod.mk.inj he
      have hp : plainW x := by
        rcases hk x List.mem_cons_self with rfl | rfl | h
        · exact absurd rfl hx
        · exfalso
          have : atWord (bw [41]) typeWs 0 = none := by decide
          rw [this] at hk'
          cases hk'
        · exact h
      refine ⟨⟨x, [], false⟩, r, nice_word.2 hp, by rw [flat_word]; rfl, rfl, ?_⟩
      rw [kindT]
      simp [hk']
/-! ### Terms -/
theorem all_read {f : Tn → Option Tm} {g : List ByteArray → Option (Tm × List ByteArray)} : ∀ (l : List Tn) (ts : List Tm) (rest : List ByteArray), (∀ x, x ∈ l → ∀ t rest, f x = some t → g (flatB x.flat ++ rest) = some (t, rest)) → allO f l = some ts → readN g l.length (flatB (flatL l) ++ rest) = some (ts, rest)
  | [], ts, rest, _, h => by
    simp only [allO, Option.some.injEq] at h
    subst h
    rfl
  | x :: l, ts, rest, hf, h => by
    rw [allO] at h
    obtain ⟨t, ht, h⟩ := Option.bind_eq_some_iff.1 h
    obtain ⟨us, hu, rfl⟩ := Option.map_eq_some_iff.1 h
    rw [flatL_cons, flatB_append, List.append_assoc, List.length_cons, readN, hf x List.mem_cons_self t _ ht, Option.bind_some]
    simp only
    rw [all_read l us rest (fun y hy => hf y (List.mem_cons_of_mem _ hy)) hu]
    rfl
theorem readN_all {f : Tn → Option Tm} {g : List ByteArray → Option (Tm × List ByteArray)} (hfg : ∀ (ws : List (List UInt8)) (t : Tm) (rest : List ByteArray), (∀ x, x ∈ ws → KindW x) → g (flatB ws) = some (t, rest) → smallM t → ∃ (x : Tn) (ws' : List (List UInt8)), x.nice ∧ ws = x.flat ++ ws' ∧ flatB ws' = rest ∧ f x = some t) :
    ∀ (m : Nat) (ws : List (List UInt8)) (ts : List Tm) (rest : List ByteArray), (∀ x, x ∈ ws → KindW x) → readN g m (flatB ws) = some (ts, rest) → (∀ t, t ∈ ts → smallM t) → ∃ (l : List Tn) (ws' : List (List UInt8)), (∀ x, x ∈ l → x.nice) ∧ l.length = m ∧ ws = flatL l ++ ws' ∧ flatB ws' = rest ∧ allO f l = some ts
  | 0, ws, ts, rest, _, h, _ => by
    simp only [readN, Option.some.injEq, Prod.mk.injEq] at h
    obtain ⟨rfl, rfl⟩ := h
    exact ⟨[], ws, (fun x h => by cases h), rfl, rfl, rfl, rfl⟩
  | m + 1, ws, ts, rest, hk, h, hs => by
    rw [readN] at h
    obtain ⟨p, hp, h⟩ := Option.bind_eq_some_iff.1 h
    obtain ⟨q, hq, he⟩ := Option.map_eq_some_iff.1 h
    obtain ⟨rfl, rfl⟩ := Prod.mk.inj he
    obtain ⟨x, ws1, hx, rfl, e1, hf⟩ := hfg ws p.1 p.2 hk hp (hs _ List.mem_cons_self)
    rw [← e1] at hq
    obtain ⟨l, ws2, hl, hlen, rfl, e2, ha⟩ := readN_all hfg m ws1 q.1 q.2 (fun y hy => hk y (by simp [hy])) hq (fun t ht => hs t (List.mem_cons_of_mem _ ht))
    refine ⟨x :: l, ws2, fun y hy => ?_, by simp [hlen], by rw [flatL_cons, List.append_assoc], e2, ?_⟩
    · rcases List.mem_cons.1 hy with rfl | hy
      · exact hx
      · exact hl y hy
    · rw [allO, hf, Option.bind_some, ha]; rfl
theorem kindAt_ne {x : ByteArray} {k : Nat} (h : kindAt x = some k) : x ≠ opB ∧ x ≠ clB := by
  constructor
  · rintro rfl
    rw [show kindAt opB = none by decide] at h
    cases h
  · rintro rfl
    rw [show kindAt clB = none by decide] at h
    cases h
theorem readTm_wd (n : Nat) (x : ByteArray) (r : List ByteArray) (h : x ≠ opB) : readTm (n + 1) (x :: r) = readWord x r := by
  cases r <;> rw [readTm, if_neg h]
theorem readTm_op0 (n : Nat) : readTm (n + 1) [opB] = none := by
  rw [readTm, if_pos rfl]
theorem readTm_op1 (n : Nat) (y : ByteArray) (r : List ByteArray) : readTm (n + 1) (opB :: y :: r) = (kindAt y).bind fun k => (readT n k r).bind fun p => (readN (readTm n) (partsOf (k : Int)) p.2).bind fun q => (behind clB q.2).map fun r4 => (⟨(k : Int), 0, p.1, anyY, q.1⟩, r4) := by
  rw [readTm, if_pos rfl]
theorem term_read : ∀ (m : Nat) (x : Tn) (t : Tm), x.nice → termT m x = some t → ∀ (n : Nat) (rest : List ByteArray), x.flat.length ≤ n → readTm n (flatB x.flat ++ rest) = some (t, rest)
  | 0, _, _, _, h, _, _, _ => by simp [termT] at h
  | m + 1, x, t, hx, h, 0, rest, hn => by have := flat_pos x; omega
  | m + 1, x, t, hx, h, n + 1, rest, hn => by
    rw [termT] at h
    rcases nice_kind hx with ⟨l, rfl, hl⟩ | ⟨w, rfl, hw⟩
    · simp only [Bool.true_eq_false, if_false] at h
      match l, h with
      | y :: r, h =>
        simp only at h
        split at h
        · cases h
        · rename_i hy
          obtain ⟨k, hk, h⟩ := Option.bind_eq_some_iff.1 h
          obtain ⟨p, hp, h⟩ := Option.bind_eq_some_iff.1 h
          split at h
          · rename_i hlen
            obtain ⟨ts, hts, rfl⟩ := Option.map_eq_some_iff.1 h
            have ey : y.flat = [y.w] := by
              obtain ⟨yw, yl, yo⟩ := y
              cases yo
              · exact flat_word _ _
              · exact absurd rfl hy
            rw [flat_open] at hn ⊢
            simp only [flatL_cons, List.length_cons, List.length_append, List.length_nil, ey] at hn ⊢
            have e : flatB ([40] :: ([y.w] ++ flatL r ++ [[41]])) ++ rest = opB :: bw y.w :: (flatB (flatL r) ++ (clB :: rest)) := by
              simp [flatB, opB_eq, clB_eq]
            rw [e, readTm_op1, hk, Option.bind_some]
            have hh : readT n k (flatB (flatL r) ++ (clB :: rest)) = some (p.1, flatB (flatL p.2) ++ (clB :: rest)) ∧ (∀ z, z ∈ p.2 → z ∈ r) := by
              rw [readT]
              by_cases ht : tells (k : Int) = true
              · rw [if_pos ht]
                cases r with
                | nil => rw [headT_nil _ _ ht] at hp; cases hp
                | cons z r =>
                  rw [headT_yes _ _ _ _ ht] at hp
                  obtain ⟨q, hq, rfl⟩ := Option.map_eq_some_iff.1 hp
                  refine ⟨?_, fun z hz => List.mem_cons_of_mem _ hz⟩
                  rw [flatL_cons, flatB_append, List.append_assoc]
                  have := flatL_len_mem (x := z) (l := z :: r) List.mem_cons_self
                  exact kind_read m z q (hl z (by simp)) hq n _ (by omega)
              · rw [if_neg ht]
                rw [headT_no _ _ _ ht] at hp
                obtain rfl := Option.some.inj hp
                exact ⟨rfl, fun z hz => hz⟩
            rw [hh.1, Option.bind_some]
            simp only
            rw [← hlen, all_read (f := termT m) (g := readTm n) p.2 ts (clB :: rest) (fun z hz u rest' hu => term_read m z u (hl z (by simp [hh.2 z hz])) hu n rest' (by
              have := flatL_len_mem (hh.2 z hz)
              omega)) hts, Option.bind_some]
            simp [behind]
          · cases h
    · simp only [if_true] at h
      rw [flat_word, flatB_cons, flatB_nil, List.cons_append, List.nil_append, readTm_wd _ _ _ (by rw [opB_eq]; exact bw_apart (plain_ne hw).1)]
      exact word_read h rest
theorem cl_none : numOf (bw [41]) = none := by decide
theorem read_term : ∀ (n : Nat) (ws : List (List UInt8)) (t : Tm) (rest : List ByteArray), (∀ x, x ∈ ws → KindW x) → readTm n (flatB ws) = some (t, rest) → smallM t → ∃ (x : Tn) (ws' : List (List UInt8)), x.nice ∧ ws = x.flat ++ ws' ∧ flatB ws' = rest ∧ termT n x = some t
  | 0, _, _, _, _, h, _ => by simp [readTm] at h
  | n + 1, [], _, _, _, h, _ => by simp [readTm, flatB] at h
  | n + 1, x :: r, t, rest, hk, h, hs => by
    rw [flatB_cons] at h
    have hr : ∀ y, y ∈ r → KindW y := fun y hy => hk y (List.mem_cons_of_mem _ hy)
    by_cases hx : bw x = opB
    · obtain rfl : x = [40] := bw_inj hx
      cases r with
      | nil => rw [flatB_nil, ← opB_eq, readTm_op0] at h; cases h
      | cons y r =>
        rw [flatB_cons, ← opB_eq, readTm_op1] at h
        obtain ⟨k, hk', g1⟩ := Option.bind_eq_some_iff.1 h
        obtain ⟨p, hp, g2⟩ := Option.bind_eq_some_iff.1 g1
        obtain ⟨q, hq, g3⟩ := Option.bind_eq_some_iff.1 g2
        obtain ⟨r4, h4, he⟩ := Option.map_eq_some_iff.1 g3
        obtain ⟨rfl, rfl⟩ := Prod.mk.inj he
        have hy : plainW y := by
          rcases hr y List.mem_cons_self with rfl | rfl | h
          · exact absurd rfl (kindAt_ne hk').1
          · exact absurd rfl (kindAt_ne hk').2
          · exact h
        have hr' : ∀ z, z ∈ r → KindW z := fun z hz => hr z (List.mem_cons_of_mem _ hz)
        -- the type
        obtain ⟨hd, ws1, hhd, hws1, e1, hT⟩ : ∃ (hd : List Tn) (ws1 : List (List UInt8)), (∀ z, z ∈ hd → z.nice) ∧ r = flatL hd ++ ws1 ∧ flatB ws1 = p.2 ∧ ∀ l, headT n k (hd ++ l) = some (p.1, l) := by
          rw [readT] at hp
          by_cases ht : tells (k : Int) = true
          · rw [if_pos ht] at hp
            obtain ⟨z, ws1, hz, e, e1, hz'⟩ := read_kind n r p.1 p.2 hr' hp
            refine ⟨[z], ws1, fun y hy => ?_, by rw [flatL_cons, flatL_nil, List.append_nil]; exact e, e1, fun l => ?_⟩
            · obtain rfl : y = z := by simpa using hy
              exact hz
            · rw [List.singleton_append, headT_yes _ _ _ _ ht, hz']
              rfl
          · rw [if_neg ht] at hp
            obtain rfl := Option.some.inj hp
            exact ⟨[], r, (fun z h => by cases h), rfl, rfl, fun l => by rw [List.nil_append, headT_no _ _ _ ht]⟩
        rw [← e1] at hq
        obtain ⟨l, ws2, hl, hlen, e2', e2, ha⟩ := readN_all (f := termT n) (fun ws t rest a b c => read_term n ws t rest a b c) _ ws1 q.1 q.2 (fun z hz => hr' z (by rw [hws1]; simp [hz])) hq (smallM_mk.1 hs).2
        rw [← e2] at h4
        obtain ⟨w4, ws4, rfl, e4, rfl⟩ := flatB_eq_cons (behind_some h4)
        obtain rfl : w4 = [41] := bw_inj e4
        refine ⟨⟨[], ⟨y, [], false⟩ :: (hd ++ l), true⟩, ws4, nice_open.2 fun z hz => ?_, ?_, rfl, ?_⟩
        · rcases List.mem_cons.1 hz with rfl | hz
          · exact nice_word.2 hy
          · rcases List.mem_append.1 hz with h | h
            · exact hhd z h
            · exact hl z h
        · rw [flat_open, flatL_cons, flat_word, hws1, e2']
          simp [flatL]
        · rw [termT]
          simp [hk', hT, hlen, ha]
    · rw [readTm_wd _ _ _ hx] at h
      obtain ⟨hw, rfl⟩ := read_word h hs
      have hp : plainW x := by
        rcases hk x List.mem_cons_self with rfl | rfl | h'
        · exact absurd rfl hx
        · exfalso
          rw [wordT_num [41] (by decide) (by simp), numT, cl_none] at hw
          cases hw
        · exact h'
      refine ⟨⟨x, [], false⟩, r, nice_word.2 hp, by rw [flat_word]; rfl, rfl, ?_⟩
      rw [termT]
      simp [hw]
/-- More fuel changes nothing. -/
theorem allO_congr {f g : Tn → Option Tm} : ∀ l : List Tn, (∀ x, x ∈ l → f x = g x) → allO f l = allO g l
  | [], _ => rfl
  | x :: l, h => by
    rw [allO, allO, h x List.mem_cons_self, allO_congr l fun y hy => h y (List.mem_cons_of_mem _ hy)]
theorem kindT_more : ∀ (n m : Nat) (x : Tn), x.flat.length ≤ n → x.flat.length ≤ m → kindT n x = kindT m x
  | 0, _, x, h, _ => by have := flat_pos x; omega
  | n + 1, 0, x, _, h => by have := flat_pos x; omega
  | n + 1, m + 1, ⟨w, l, o⟩, hn, hm => by
    rw [kindT, kindT]
    cases o
    · rfl
    · rw [flat_open] at hn hm
      simp only [List.length_cons, List.length_append, List.length_nil] at hn hm
      have hh : ∀ z, z ∈ l → kindT n z = kindT m z := fun z hz => by
        have := flatL_len_mem hz
        exact kindT_more n m z (by omega) (by omega)
      simp only [Bool.true_eq_false, if_false]
      match l, hh with
      | [], _ => rfl
      | [a], _ => rfl
      | [a, b], _ => rfl
      | [a, b, c], hh => simp only [hh b (by simp), hh c (by simp)]
      | a :: b :: c :: d :: r, _ => rfl
theorem termT_more : ∀ (n m : Nat) (x : Tn), x.flat.length ≤ n → x.flat.length ≤ m → termT n x = termT m x
  | 0, _, x, h, _ => by have := flat_pos x; omega
  | n + 1, 0, x, _, h => by have := flat_pos x; omega
  | n + 1, m + 1, ⟨w, l, o⟩, hn, hm => by
    rw [termT, termT]
    cases o
    · rfl
    · rw [flat_open] at hn hm
      simp only [List.length_cons, List.length_append, List.length_nil] at hn hm
      simp only [Bool.true_eq_false, if_false]
      cases l with
      | nil => rfl
      | cons y r =>
        simp only
        split
        · rfl
        · cases kindAt (bw y.w) with
          | none => rfl
          | some k =>
            simp only [Option.bind_some]
            have e : headT n k r = headT m k r := by
              unfold headT
              split
              · cases r with
                | nil => rfl
                | cons z r =>
                  have := flatL_len_mem (x := z) (l := y :: z :: r) (by simp)
                  simp only [kindT_more n m z (by omega) (by omega)]
              · rfl
            rw [e]
            cases hp : headT m k r with
            | none => rfl
            | some p =>
              have hsub : ∀ z, z ∈ p.2 → z ∈ r := by
                unfold headT at hp
                split at hp
                · cases r with
                  | nil => cases hp
                  | cons z r =>
                    obtain ⟨q, _, rfl⟩ := Option.map_eq_some_iff.1 hp
                    exact fun z hz => List.mem_cons_of_mem _ hz
                · obtain rfl := Option.some.inj hp
                  exact fun z hz => hz
              simp only [Option.bind_some]
              rw [allO_congr p.2 fun z hz => by
                have := flatL_len_mem (x := z) (l := y :: r) (List.mem_cons_of_mem _ (hsub z hz))
                exact termT_more n m z (by omega) (by omega)]
end Go.Proofs.YtnddkmccagiclabGreatDoor

/-
  What the call of ref's tree.kind answers.
-/
namespace Go.Proofs.YtnddkmccagiclabGreatDoor
open Go.RowKit
/-- What a call that tells a type leaves; none: there is none. -/
def KdPost (T : Option Ty) (w : World) (e : Ending) (w' : World) : Prop :=
  ∃ (t : Tr) (b : Bool), e = .returned (.tuple #[.agg #[.int .i64 t.k, .slice t.a t.l.length t.c], .bool b]) ∧ Hid (b = T.isSome ∧ (∀ i, T = some i → t.ty = i) ∧ t.In w' ∧ t.Bl (w.heap.size ≤ ·) ∧ Below w.heap.size w w')
/-- Behind the entry: the tree's box, the answer's. -/
structure KB (x : Nd) (w : World) (W : World) : Prop where
  low : Below w.heap.size w W
  b0 : W.cell? ⟨w.heap.size, 0, none⟩ = some (.string x.w)
  b1 : W.cell? ⟨w.heap.size, 1, none⟩ = some (.slice x.a x.l.length x.c)
  b2 : W.cell? ⟨w.heap.size, 2, none⟩ = some (.bool x.o)
  r0 : W.cell? ⟨w.heap.size + 1, 0, none⟩ = some (.int .i64 0)
  r1 : W.cell? ⟨w.heap.size + 1, 1, none⟩ = some (.slice none 0 0)
  f0 : W.frozen? ⟨w.heap.size + 1, 0, none⟩ = false
  f1 : W.frozen? ⟨w.heap.size + 1, 1, none⟩ = false
theorem KB.lt {x : Nd} {w W : World} (h : KB x w W) : w.heap.size + 1 < W.heap.size := World.block_lt_of_cell? _ _ h.r0
theorem KB.below {x : Nd} {w W V : World} (h : KB x w W) (hb : Below W.heap.size W V) : KB x w V := by
  have hl := h.lt
  have c : ∀ b i, b ≤ w.heap.size + 1 → V.cell? ⟨b, i, none⟩ = W.cell? ⟨b, i, none⟩ := fun b i h => hb.cell (p := ⟨b, i, none⟩) (show b < _ by omega)
  have f : ∀ b i, b ≤ w.heap.size + 1 → V.frozen? ⟨b, i, none⟩ = W.frozen? ⟨b, i, none⟩ := fun b i h => hb.frozen (p := ⟨b, i, none⟩) (show b < _ by omega)
  exact ⟨h.low.trans (hb.mono h.low.size), (c _ _ (by omega)).trans h.b0, (c _ _ (by omega)).trans h.b1, (c _ _ (by omega)).trans h.b2, (c _ _ (by omega)).trans h.r0, (c _ _ (by omega)).trans h.r1, (f _ _ (by omega)).trans h.f0, (f _ _ (by omega)).trans h.f1⟩
theorem KB.start (x : Nd) (w : World) : KB x w ((w.alloc (.cells #[.string x.w, .slice x.a x.l.length x.c, .bool x.o] 111)).alloc (.cells #[.int .i64 0, .slice none 0 0] 24)) := by
  constructor
  · exact ((Below.refl _ _).alloc (Nat.le_refl _) _).alloc (by simp) _
  all_goals simp [go_sem]
/-- The answer's two cells, filled. -/
theorem kd_end {T : Option Ty} {t : Tr} {x : Nd} {w wr : World} {b : Bool} (h : KB x w wr) (hb : b = T.isSome) (ht : ∀ i, T = some i → t.ty = i) (hin : t.In wr) (hbl : t.Bl (fun b => w.heap.size ≤ b ∧ b ≠ w.heap.size + 1)) :
    KdPost T w (.returned (.tuple #[.agg #[.int .i64 t.k, .slice t.a t.l.length t.c], .bool b])) ((wr.setCell ⟨w.heap.size + 1, 0, none⟩ (.int .i64 t.k)).setCell ⟨w.heap.size + 1, 1, none⟩ (.slice t.a t.l.length t.c)) ∧
    ((wr.setCell ⟨w.heap.size + 1, 0, none⟩ (.int .i64 t.k)).setCell ⟨w.heap.size + 1, 1, none⟩ (.slice t.a t.l.length t.c)).cell? ⟨w.heap.size + 1, 0, none⟩ = some (.int .i64 t.k) ∧
    ((wr.setCell ⟨w.heap.size + 1, 0, none⟩ (.int .i64 t.k)).setCell ⟨w.heap.size + 1, 1, none⟩ (.slice t.a t.l.length t.c)).cell? ⟨w.heap.size + 1, 1, none⟩ = some (.slice t.a t.l.length t.c) := by
  have hc := set_cells (u := .int .i64 t.k) (v := .slice t.a t.l.length t.c) h.r0 h.r1
  have hk := set_keeps (ib := w.heap.size + 1) (io := 0) (u := .int .i64 t.k) (v := .slice t.a t.l.length t.c) hin (hbl.mono fun b hb => hb.2)
  simp only [Nat.zero_add] at hc hk
  exact ⟨⟨t, b, rfl, hb, ht, hk, hbl.mono fun b hb => hb.1, (h.low.setCell (by simp) _).setCell (by simp) _⟩, hc.1, hc.2⟩
theorem kd_leaf {T : Option Ty} {z : Int} {x : Nd} {w wr : World} {b : Bool} (h : KB x w wr) (hb : b = T.isSome) (ht : ∀ i, T = some i → Ty.mk z [] = i) :
    KdPost T w (.returned (.tuple #[.agg #[.int .i64 z, .slice none 0 0], .bool b])) ((wr.setCell ⟨w.heap.size + 1, 0, none⟩ (.int .i64 z)).setCell ⟨w.heap.size + 1, 1, none⟩ (.slice none 0 0)) ∧
    ((wr.setCell ⟨w.heap.size + 1, 0, none⟩ (.int .i64 z)).setCell ⟨w.heap.size + 1, 1, none⟩ (.slice none 0 0)).cell? ⟨w.heap.size + 1, 0, none⟩ = some (.int .i64 z) ∧
    ((wr.setCell ⟨w.heap.size + 1, 0, none⟩ (.int .i64 z)).setCell ⟨w.heap.size + 1, 1, none⟩ (.slice none 0 0)).cell? ⟨w.heap.size + 1, 1, none⟩ = some (.slice none 0 0) :=
  kd_end (t := leaf z) h hb (fun i hi => (leaf_ty z).trans (ht i hi)) (leaf_in z wr) (leaf_bl z _)
theorem kindT_word (n : Nat) (x : Nd) (h : x.o = false) : kindT (n + 1) x.tn = (atWord x.w typeWs 0).map fun (k : Nat) => Ty.mk (k : Int) [] := by
  rw [kindT, Nd.tn_o, if_pos h, Nd.tn_w]
  rfl
set_option maxRecDepth 20000 in
set_option maxHeartbeats 4000000 in
theorem kind_word (n : Nat) (x : Nd) (w : World) (ho : x.o = false) : Calls Tryz.prog 104 #[.agg #[.string x.w, .slice x.a x.l.length x.c, .bool x.o]] w (KdPost (kindT (n + 1) x.tn) w) := by
  rw [kindT_word n x ho]
  obtain ⟨b0, h0⟩ : ∃ b, (x.w.toList == (⟨#[97, 110, 121]⟩ : ByteArray).toList) = b := ⟨_, rfl⟩
  obtain ⟨b1, h1⟩ : ∃ b, (x.w.toList == (⟨#[110, 117, 109]⟩ : ByteArray).toList) = b := ⟨_, rfl⟩
  obtain ⟨b2, h2⟩ : ∃ b, (x.w.toList == (⟨#[116, 114, 117, 116, 104]⟩ : ByteArray).toList) = b := ⟨_, rfl⟩
  have H0 : Hid ((x.w.toList == (⟨#[97, 110, 121]⟩ : ByteArray).toList) = b0) := h0
  have k0 : (x.w.toList == [97, 110, 121]) = b0 := by rw [← h0, Lib.toList_data ⟨#[97, 110, 121]⟩]
  have H1 : Hid ((x.w.toList == (⟨#[110, 117, 109]⟩ : ByteArray).toList) = b1) := h1
  have k1 : (x.w.toList == [110, 117, 109]) = b1 := by rw [← h1, Lib.toList_data ⟨#[110, 117, 109]⟩]
  have H2 : Hid ((x.w.toList == (⟨#[116, 114, 117, 116, 104]⟩ : ByteArray).toList) = b2) := h2
  have k2 : (x.w.toList == [116, 114, 117, 116, 104]) = b2 := by rw [← h2, Lib.toList_data ⟨#[116, 114, 117, 116, 104]⟩]
  have HAT : Hid (atWord x.w typeWs 0 = if b0 = true then some 0 else if b1 = true then some 1 else if b2 = true then some 2 else none) := by
    have e : ∀ (y : ByteArray) (b : Bool), (x.w.toList == y.toList) = b → ((y = x.w) ↔ b = true) := fun y b h => by
      rw [← h]
      constructor
      · rintro rfl; simp
      · intro h'; exact ((Lib.bytes_beq_iff _ _).1 h').symm
    show _ = _
    simp only [typeWs, atWord, e _ _ h0, e _ _ h1, e _ _ h2]
  clear h0 h1 h2 H0 H1 H2
  obtain ⟨W1, hW1⟩ : ∃ W, W = (w.alloc (.cells #[.string x.w, .slice x.a x.l.length x.c, .bool x.o] 111)).alloc (.cells #[.int .i64 0, .slice none 0 0] 24) := ⟨_, rfl⟩
  have HK : Hid (KB x w W1) := by rw [hW1]; exact KB.start x w
  obtain ⟨T, hT⟩ : ∃ T, atWord x.w typeWs 0 = T := ⟨_, rfl⟩
  rw [hT] at HAT ⊢
  clear hT
  obtain ⟨W2, hW2⟩ : ∃ W, W = W1.alloc (.cells #[.string ⟨#[97, 110, 121]⟩, .string ⟨#[110, 117, 109]⟩, .string ⟨#[116, 114, 117, 116, 104]⟩] 9) := ⟨_, rfl⟩
  have hb2 : Below W1.heap.size W1 W2 := by rw [hW2]; exact (Below.refl _ _).alloc (Nat.le_refl _) _
  have HK2 : Hid (KB x w W2) := HK.out.below hb2
  have g0 : W2.cell? ⟨W1.heap.size, 0, none⟩ = some (.string ⟨#[97, 110, 121]⟩) := by rw [hW2]; simp
  have g1 : W2.cell? ⟨W1.heap.size, 1, none⟩ = some (.string ⟨#[110, 117, 109]⟩) := by rw [hW2]; simp
  have g2 : W2.cell? ⟨W1.heap.size, 2, none⟩ = some (.string ⟨#[116, 114, 117, 116, 104]⟩) := by rw [hW2]; simp
  obtain ⟨p0, p1, p2⟩ : W2.cell? ⟨w.heap.size, 0, none⟩ = some (.string x.w) ∧ W2.frozen? ⟨w.heap.size + 1, 0, none⟩ = false ∧ W2.frozen? ⟨w.heap.size + 1, 1, none⟩ = false := ⟨HK2.out.b0, HK2.out.f0, HK2.out.f1⟩
  obtain ⟨q0, q1⟩ : W2.cell? ⟨w.heap.size + 1, 0, none⟩ = some (.int .i64 0) ∧ W2.cell? ⟨w.heap.size + 1, 1, none⟩ = some (.slice none 0 0) := ⟨HK2.out.r0, HK2.out.r1⟩
  have hob := HK.out.b2
  rw [ho] at hob
  clear hb2 ho HK
  go_enter Tryz.func104, Tryz.ntmps104
  go_upto_region 1 with fail
  rw [← hW1]
  clear hW1
  go_upto_region 3 with fail
  rw [← hW2]
  clear hW2
  go_loopg [15] 3 (fun g i wr => ∃ j : Nat, g + j = 3 ∧ i = .int .i64 (j : Int) ∧ wr = W2 ∧ Hid ((1 ≤ j → b0 = false) ∧ (2 ≤ j → b1 = false) ∧ (3 ≤ j → b2 = false)))
  case atStart => exact ⟨0, rfl, rfl, rfl, fun h => absurd h (by omega), fun h => absurd h (by omega), fun h => absurd h (by omega)⟩
  case round =>
    obtain ⟨j, hj, rfl, rfl, HJ⟩ := hrel
    obtain rfl | rfl | rfl | rfl : j = 0 ∨ j = 1 ∨ j = 2 ∨ j = 3 := by omega
    · cases b0
      · clear HAT HK2
        go_wp2_with fail
        go_roundg 2
        case measure => omega
        case rel => exact ⟨1, rfl, rfl, rfl, fun _ => trivial, fun h => absurd h (by omega), fun h => absurd h (by omega)⟩
      · obtain ⟨hE1, hE2, hE3⟩ := kd_leaf (T := T.map fun (k : Nat) => Ty.mk (k : Int) []) (z := 0) (b := true) HK2.out (by rw [HAT.out]; rfl) (fun i hi => by rw [HAT.out] at hi; exact Option.some.inj hi)
        have HE1 : Hid (KdPost (T.map fun (k : Nat) => Ty.mk (k : Int) []) w (.returned (.tuple #[.agg #[.int .i64 0, .slice none 0 0], .bool true])) ((wr.setCell ⟨w.heap.size + 1, 0, none⟩ (.int .i64 0)).setCell ⟨w.heap.size + 1, 1, none⟩ (.slice none 0 0))) := hE1
        clear HAT HK2 hE1
        go_wp2_with fail
        refine bodyPost_ret (v := .tuple #[.agg #[.int .i64 0, .slice none 0 0], .bool true]) ?_ rfl HE1.out
        simp [results, Tryz.results104, go_sem, hE2, hE3]
    · obtain rfl := HJ.out.1 (by omega)
      cases b1
      · clear HAT HK2
        go_wp2_with fail
        go_roundg 1
        case measure => omega
        case rel => exact ⟨2, rfl, rfl, rfl, fun _ => trivial, fun _ => trivial, fun h => absurd h (by omega)⟩
      · obtain ⟨hE1, hE2, hE3⟩ := kd_leaf (T := T.map fun (k : Nat) => Ty.mk (k : Int) []) (z := 1) (b := true) HK2.out (by rw [HAT.out]; rfl) (fun i hi => by rw [HAT.out] at hi; exact Option.some.inj hi)
        have HE1 : Hid (KdPost (T.map fun (k : Nat) => Ty.mk (k : Int) []) w (.returned (.tuple #[.agg #[.int .i64 1, .slice none 0 0], .bool true])) ((wr.setCell ⟨w.heap.size + 1, 0, none⟩ (.int .i64 1)).setCell ⟨w.heap.size + 1, 1, none⟩ (.slice none 0 0))) := hE1
        clear HAT HK2 hE1
        go_wp2_with fail
        refine bodyPost_ret (v := .tuple #[.agg #[.int .i64 1, .slice none 0 0], .bool true]) ?_ rfl HE1.out
        simp [results, Tryz.results104, go_sem, hE2, hE3]
    · obtain rfl := HJ.out.1 (by omega)
      obtain rfl := HJ.out.2.1 (by omega)
      cases b2
      · clear HAT HK2
        go_wp2_with fail
        go_roundg 0
        case measure => omega
        case rel => exact ⟨3, rfl, rfl, rfl, fun _ => trivial, fun _ => trivial, fun _ => trivial⟩
      · obtain ⟨hE1, hE2, hE3⟩ := kd_leaf (T := T.map fun (k : Nat) => Ty.mk (k : Int) []) (z := 2) (b := true) HK2.out (by rw [HAT.out]; rfl) (fun i hi => by rw [HAT.out] at hi; exact Option.some.inj hi)
        have HE1 : Hid (KdPost (T.map fun (k : Nat) => Ty.mk (k : Int) []) w (.returned (.tuple #[.agg #[.int .i64 2, .slice none 0 0], .bool true])) ((wr.setCell ⟨w.heap.size + 1, 0, none⟩ (.int .i64 2)).setCell ⟨w.heap.size + 1, 1, none⟩ (.slice none 0 0))) := hE1
        clear HAT HK2 hE1
        go_wp2_with fail
        refine bodyPost_ret (v := .tuple #[.agg #[.int .i64 2, .slice none 0 0], .bool true]) ?_ rfl HE1.out
        simp [results, Tryz.results104, go_sem, hE2, hE3]
    · obtain rfl := HJ.out.1 (by omega)
      obtain rfl := HJ.out.2.1 (by omega)
      obtain rfl := HJ.out.2.2 (by omega)
      have HEN : Hid (∀ V, Below wr.heap.size wr V → KdPost (T.map fun (k : Nat) => Ty.mk (k : Int) []) w (.returned (.tuple #[.agg #[.int .i64 0, .slice none 0 0], .bool false])) ((V.setCell ⟨w.heap.size + 1, 0, none⟩ (.int .i64 0)).setCell ⟨w.heap.size + 1, 1, none⟩ (.slice none 0 0)) ∧
          ((V.setCell ⟨w.heap.size + 1, 0, none⟩ (.int .i64 0)).setCell ⟨w.heap.size + 1, 1, none⟩ (.slice none 0 0)).cell? ⟨w.heap.size + 1, 0, none⟩ = some (.int .i64 0) ∧
          ((V.setCell ⟨w.heap.size + 1, 0, none⟩ (.int .i64 0)).setCell ⟨w.heap.size + 1, 1, none⟩ (.slice none 0 0)).cell? ⟨w.heap.size + 1, 1, none⟩ = some (.slice none 0 0)) := fun V hV =>
        kd_leaf (T := T.map fun (k : Nat) => Ty.mk (k : Int) []) (z := 0) (b := false) (HK2.out.below hV) (by rw [HAT.out]; rfl) (fun i hi => by rw [HAT.out] at hi; cases hi)
      have HV : Hid (KB x w (wr.alloc (.cells #[.int .i64 0, .slice none 0 0] 24))) := HK2.out.below ((Below.refl _ _).alloc (Nat.le_refl _) _)
      clear HAT HK2
      obtain ⟨V, hV⟩ : ∃ V, V = wr.alloc (.cells #[.int .i64 0, .slice none 0 0] 24) := ⟨_, rfl⟩
      have HBV : Hid (Below wr.heap.size wr V) := by rw [hV]; exact (Below.refl _ _).alloc (Nat.le_refl _) _
      rw [← hV] at HV
      have s0 := HV.out.f0
      have s1 := HV.out.f1
      have s2 := HV.out.r0
      have s3 := HV.out.r1
      go_wp2_with fail
      refine (any0_any _).mono ?_
      rintro e w3 ⟨rfl, hw3⟩
      rw [hw3, ← hV]
      obtain ⟨hE1, hE2, hE3⟩ := HEN.out V HBV.out
      have HE1 : Hid (KdPost (T.map fun (k : Nat) => Ty.mk (k : Int) []) w (.returned (.tuple #[.agg #[.int .i64 0, .slice none 0 0], .bool false])) ((V.setCell ⟨w.heap.size + 1, 0, none⟩ (.int .i64 0)).setCell ⟨w.heap.size + 1, 1, none⟩ (.slice none 0 0))) := hE1
      clear hV hw3 w3 HV HEN HBV hE1
      go_wp2_with fail
      refine bodyPost_ret (v := .tuple #[.agg #[.int .i64 0, .slice none 0 0], .bool false]) ?_ rfl HE1.out
      simp [results, Tryz.results104, go_sem, hE2, hE3]
end Go.Proofs.YtnddkmccagiclabGreatDoor

/-
  What the call of ref's tree.kind answers, at a tree with brackets.
-/
namespace Go.Proofs.YtnddkmccagiclabGreatDoor
open Go.RowKit
theorem flat_of (t : Tn) (h : t.o = true) : t.flat = [40] :: (flatL t.l ++ [[41]]) := by
  obtain ⟨w, l, o⟩ := t
  obtain rfl : o = true := h
  exact flat_open w l
theorem kindT_len (n : Nat) (x : Nd) (ho : x.o = true) (hl : x.l.length ≠ 3) : kindT (n + 1) x.tn = none := by
  rw [kindT, Nd.tn_o, if_neg (by rw [ho]; simp), Nd.tn_l]
  split
  · rename_i a b c h
    have := congrArg List.length h
    simp at this
    omega
  · rfl
theorem kindT_three (n : Nat) (x A B C : Nd) (ho : x.o = true) (hl : x.l = [A, B, C]) : kindT (n + 1) x.tn = if A.o = false ∧ A.w.data.toList = [116, 111] then (kindT n B.tn).bind fun p => (kindT n C.tn).map fun q => ⟨3, [p, q]⟩ else none := by
  rw [kindT, Nd.tn_o, if_neg (by rw [ho]; simp), Nd.tn_l, hl]
  simp only [List.map_cons, List.map_nil, Nd.tn_o, Nd.tn_w]
set_option maxRecDepth 20000 in
set_option maxHeartbeats 8000000 in
theorem kind_open (n : Nat) (x : Nd) (w : World) (hx : x.In w) (ho : x.o = true)
    (ih : Hid (∀ (y : Nd) (W : World), y ∈ x.l → y.In W → Calls Tryz.prog 104 #[.agg #[.string y.w, .slice y.a y.l.length y.c, .bool y.o]] W (KdPost (kindT n y.tn) W))) :
    Calls Tryz.prog 104 #[.agg #[.string x.w, .slice x.a x.l.length x.c, .bool x.o]] w (KdPost (kindT (n + 1) x.tn) w) := by
  obtain ⟨W1, hW1⟩ : ∃ W, W = (w.alloc (.cells #[.string x.w, .slice x.a x.l.length x.c, .bool x.o] 111)).alloc (.cells #[.int .i64 0, .slice none 0 0] 24) := ⟨_, rfl⟩
  have HK : Hid (KB x w W1) := by rw [hW1]; exact KB.start x w
  by_cases hl : x.l.length = 3
  · obtain ⟨A, B, C, hABC⟩ : ∃ A B C, x.l = [A, B, C] := by
      match h : x.l, hl with
      | [A, B, C], _ => exact ⟨A, B, C, rfl⟩
    have hlz : (((x.l.length : Nat) : Int) != 3) = false := by rw [hl]; rfl
    obtain ⟨b, f, ea, e0, e1, e2, hA0⟩ := hx.part 0 (by omega)
    clear hA0
    obtain ⟨b', f', ea', e3, e4, e5, hB⟩ := hx.part 1 (by omega)
    obtain ⟨b'', f'', ea'', e6, e7, e8, hC⟩ := hx.part 2 (by omega)
    obtain ⟨rfl, rfl⟩ : b = b' ∧ f = f' := by rw [ea] at ea'; simpa using ea'
    obtain ⟨rfl, rfl⟩ : b = b'' ∧ f = f'' := by rw [ea] at ea''; simpa using ea''
    have HM : Hid (A ∈ x.l ∧ B ∈ x.l ∧ C ∈ x.l) := by show _ ∧ _; rw [hABC]; simp
    simp only [hABC, List.getElem_cons_zero, List.getElem_cons_succ, Nat.zero_mul, Nat.add_zero, Nat.one_mul, Nat.reduceMul] at e0 e1 e2 e3 e4 e5 e6 e7 e8 hB hC
    have HT3 := kindT_three n x A B C ho hABC
    have HIN : Hid (B.In w ∧ C.In w) := ⟨hB, hC⟩
    clear hB hC ea' ea''
    have HX : Hid (∀ V, Below W1.heap.size W1 V → (V.cell? ⟨b, f, none⟩ = some (.string A.w) ∧ V.cell? ⟨b, f + 2, none⟩ = some (.bool A.o)) ∧ (V.cell? ⟨b, f + 3, none⟩ = some (.string B.w) ∧ V.cell? ⟨b, f + 3 + 1, none⟩ = some (.slice B.a B.l.length B.c) ∧ V.cell? ⟨b, f + 3 + 2, none⟩ = some (.bool B.o)) ∧ (V.cell? ⟨b, f + 6, none⟩ = some (.string C.w) ∧ V.cell? ⟨b, f + 6 + 1, none⟩ = some (.slice C.a C.l.length C.c) ∧ V.cell? ⟨b, f + 6 + 2, none⟩ = some (.bool C.o))) := fun V hV => by
      have hb : Below w.heap.size w V := HK.out.low.trans (hV.mono HK.out.low.size)
      exact ⟨⟨cell_later hb e0, cell_later hb e2⟩, ⟨cell_later hb e3, cell_later hb e4, cell_later hb e5⟩, cell_later hb e6, cell_later hb e7, cell_later hb e8⟩
    clear e0 e1 e2 e3 e4 e5 e6 e7 e8
    obtain ⟨a0, a2⟩ := (HX.out W1 (Below.refl _ _)).1
    by_cases hA : A.o = true
    · have HT : Hid (kindT (n + 1) x.tn = none) := by
        show _ = _
        rw [HT3, if_neg (by rw [hA]; simp)]
      rw [hA] at a2
      clear HT3 hA hx hABC HM HIN ih HX
      have HEN : Hid (∀ V, Below W1.heap.size W1 V → KdPost (kindT (n + 1) x.tn) w (.returned (.tuple #[.agg #[.int .i64 0, .slice none 0 0], .bool false])) ((V.setCell ⟨w.heap.size + 1, 0, none⟩ (.int .i64 0)).setCell ⟨w.heap.size + 1, 1, none⟩ (.slice none 0 0)) ∧
          ((V.setCell ⟨w.heap.size + 1, 0, none⟩ (.int .i64 0)).setCell ⟨w.heap.size + 1, 1, none⟩ (.slice none 0 0)).cell? ⟨w.heap.size + 1, 0, none⟩ = some (.int .i64 0) ∧
          ((V.setCell ⟨w.heap.size + 1, 0, none⟩ (.int .i64 0)).setCell ⟨w.heap.size + 1, 1, none⟩ (.slice none 0 0)).cell? ⟨w.heap.size + 1, 1, none⟩ = some (.slice none 0 0)) := fun V hV =>
        kd_leaf (T := kindT (n + 1) x.tn) (z := 0) (b := false) (HK.out.below hV) (by rw [HT.out]; rfl) (fun i hi => by rw [HT.out] at hi; cases hi)
      obtain ⟨V, hV⟩ : ∃ V, V = W1.alloc (.cells #[.int .i64 0, .slice none 0 0] 24) := ⟨_, rfl⟩
      have HBV : Hid (Below W1.heap.size W1 V) := by rw [hV]; exact (Below.refl _ _).alloc (Nat.le_refl _) _
      obtain ⟨s0, s1, s2, s3⟩ : V.frozen? ⟨w.heap.size + 1, 0, none⟩ = false ∧ V.frozen? ⟨w.heap.size + 1, 1, none⟩ = false ∧ V.cell? ⟨w.heap.size + 1, 0, none⟩ = some (.int .i64 0) ∧ V.cell? ⟨w.heap.size + 1, 1, none⟩ = some (.slice none 0 0) := ⟨(HK.out.below HBV.out).f0, (HK.out.below HBV.out).f1, (HK.out.below HBV.out).r0, (HK.out.below HBV.out).r1⟩
      obtain ⟨p1, p2⟩ : W1.cell? ⟨w.heap.size, 1, none⟩ = some (.slice x.a x.l.length x.c) ∧ W1.cell? ⟨w.heap.size, 2, none⟩ = some (.bool x.o) := ⟨HK.out.b1, HK.out.b2⟩
      rw [ho] at p2
      rw [ea, hl] at p1
      clear ea hl hlz
      clear HK HT ho
      go_enter Tryz.func104, Tryz.ntmps104
      go_upto_region 1 with fail
      rw [← hW1]
      clear hW1
      go_wp2_with fail
      refine (any0_any _).mono ?_
      rintro e w3 ⟨rfl, hw3⟩
      rw [hw3, ← hV]
      obtain ⟨hE1, hE2, hE3⟩ := HEN.out V HBV.out
      have HE1 : Hid (KdPost (kindT (n + 1) x.tn) w (.returned (.tuple #[.agg #[.int .i64 0, .slice none 0 0], .bool false])) ((V.setCell ⟨w.heap.size + 1, 0, none⟩ (.int .i64 0)).setCell ⟨w.heap.size + 1, 1, none⟩ (.slice none 0 0))) := hE1
      clear hV hw3 w3 HEN HBV hE1
      go_wp2_with fail
      refine bodyPost_ret (v := .tuple #[.agg #[.int .i64 0, .slice none 0 0], .bool false]) ?_ rfl HE1.out
      simp [results, Tryz.results104, go_sem, hE2, hE3]

    · have hAo : A.o = false := by simpa using hA
      rw [hAo] at a2
      obtain ⟨bt, hbt⟩ : ∃ bt, (A.w.toList == (⟨#[116, 111]⟩ : ByteArray).toList) = bt := ⟨_, rfl⟩
      have hbt2 : (A.w.toList == [116, 111]) = bt := by rw [← hbt, Lib.toList_data ⟨#[116, 111]⟩]
      have HAW : Hid (A.w.data.toList = [116, 111] ↔ bt = true) := by
        show _ ↔ _
        rw [← hbt2, Lib.toList_data, beq_iff_eq]
      clear hbt
      cases bt
      · have HT : Hid (kindT (n + 1) x.tn = none) := by
          show _ = _
          rw [HT3, if_neg (fun h => by have := HAW.out.1 h.2; cases this)]
        clear HT3 hA hx hABC HM HIN ih HX HAW hAo
        have HEN : Hid (∀ V, Below W1.heap.size W1 V → KdPost (kindT (n + 1) x.tn) w (.returned (.tuple #[.agg #[.int .i64 0, .slice none 0 0], .bool false])) ((V.setCell ⟨w.heap.size + 1, 0, none⟩ (.int .i64 0)).setCell ⟨w.heap.size + 1, 1, none⟩ (.slice none 0 0)) ∧
            ((V.setCell ⟨w.heap.size + 1, 0, none⟩ (.int .i64 0)).setCell ⟨w.heap.size + 1, 1, none⟩ (.slice none 0 0)).cell? ⟨w.heap.size + 1, 0, none⟩ = some (.int .i64 0) ∧
            ((V.setCell ⟨w.heap.size + 1, 0, none⟩ (.int .i64 0)).setCell ⟨w.heap.size + 1, 1, none⟩ (.slice none 0 0)).cell? ⟨w.heap.size + 1, 1, none⟩ = some (.slice none 0 0)) := fun V hV =>
          kd_leaf (T := kindT (n + 1) x.tn) (z := 0) (b := false) (HK.out.below hV) (by rw [HT.out]; rfl) (fun i hi => by rw [HT.out] at hi; cases hi)
        obtain ⟨V, hV⟩ : ∃ V, V = W1.alloc (.cells #[.int .i64 0, .slice none 0 0] 24) := ⟨_, rfl⟩
        have HBV : Hid (Below W1.heap.size W1 V) := by rw [hV]; exact (Below.refl _ _).alloc (Nat.le_refl _) _
        obtain ⟨s0, s1, s2, s3⟩ : V.frozen? ⟨w.heap.size + 1, 0, none⟩ = false ∧ V.frozen? ⟨w.heap.size + 1, 1, none⟩ = false ∧ V.cell? ⟨w.heap.size + 1, 0, none⟩ = some (.int .i64 0) ∧ V.cell? ⟨w.heap.size + 1, 1, none⟩ = some (.slice none 0 0) := ⟨(HK.out.below HBV.out).f0, (HK.out.below HBV.out).f1, (HK.out.below HBV.out).r0, (HK.out.below HBV.out).r1⟩
        obtain ⟨p1, p2⟩ : W1.cell? ⟨w.heap.size, 1, none⟩ = some (.slice x.a x.l.length x.c) ∧ W1.cell? ⟨w.heap.size, 2, none⟩ = some (.bool x.o) := ⟨HK.out.b1, HK.out.b2⟩
        rw [ho] at p2
        rw [ea, hl] at p1
        clear ea hl hlz
        clear HK HT ho
        go_enter Tryz.func104, Tryz.ntmps104
        go_upto_region 1 with fail
        rw [← hW1]
        clear hW1
        go_wp2_with fail
        refine (any0_any _).mono ?_
        rintro e w3 ⟨rfl, hw3⟩
        rw [hw3, ← hV]
        obtain ⟨hE1, hE2, hE3⟩ := HEN.out V HBV.out
        have HE1 : Hid (KdPost (kindT (n + 1) x.tn) w (.returned (.tuple #[.agg #[.int .i64 0, .slice none 0 0], .bool false])) ((V.setCell ⟨w.heap.size + 1, 0, none⟩ (.int .i64 0)).setCell ⟨w.heap.size + 1, 1, none⟩ (.slice none 0 0))) := hE1
        clear hV hw3 w3 HEN HBV hE1
        go_wp2_with fail
        refine bodyPost_ret (v := .tuple #[.agg #[.int .i64 0, .slice none 0 0], .bool false]) ?_ rfl HE1.out
        simp [results, Tryz.results104, go_sem, hE2, hE3]

      · have HT : Hid (kindT (n + 1) x.tn = (kindT n B.tn).bind fun p => (kindT n C.tn).map fun q => ⟨3, [p, q]⟩) := by
          show _ = _
          rw [HT3, if_pos ⟨hAo, HAW.out.2 rfl⟩]
        obtain ⟨p1, p2⟩ : W1.cell? ⟨w.heap.size, 1, none⟩ = some (.slice x.a x.l.length x.c) ∧ W1.cell? ⟨w.heap.size, 2, none⟩ = some (.bool x.o) := ⟨HK.out.b1, HK.out.b2⟩
        have HP1 : Hid (∀ V, Below W1.heap.size W1 V → V.cell? ⟨w.heap.size, 1, none⟩ = some (.slice (some ⟨b, f, none⟩) 3 x.c)) := fun V hV => by
          have := (HK.out.below hV).b1
          rw [ea, hl] at this
          exact this
        rw [ho] at p2
        rw [ea, hl] at p1
        obtain ⟨d0, d1, d2⟩ := (HX.out W1 (Below.refl _ _)).2.1
        have HCB : Hid (Calls Tryz.prog 104 #[.agg #[.string B.w, .slice B.a B.l.length B.c, .bool B.o]] W1 (KdPost (kindT n B.tn) W1)) := ih.out B W1 HM.out.2.1 (HIN.out.1.below HK.out.low)
        clear HT3 hA hx hABC HAW hAo hlz ho ea hl
        go_enter Tryz.func104, Tryz.ntmps104
        go_upto_region 1 with fail
        rw [← hW1]
        clear hW1
        go_wp2_with fail
        refine HCB.out.mono ?_
        rintro e w3 ⟨tB, bB, rfl, HB⟩
        clear HCB a0 a2 d0 d1 d2 p1 p2 hbt2
        obtain ⟨W4, hW4⟩ : ∃ W, W = w3.alloc (.cells #[.int .i64 tB.k, .slice tB.a tB.l.length tB.c] 24) := ⟨_, rfl⟩
        have hb34 : Below w3.heap.size w3 W4 := by rw [hW4]; exact (Below.refl _ _).alloc (Nat.le_refl _) _
        have hb14 : Below W1.heap.size W1 W4 := HB.out.2.2.2.2.trans (hb34.mono HB.out.2.2.2.2.size)
        have HB4 : Hid (Below W1.heap.size W1 W4 ∧ tB.In W4 ∧ W4.cell? ⟨w3.heap.size, 0, none⟩ = some (.int .i64 tB.k) ∧ W4.cell? ⟨w3.heap.size, 1, none⟩ = some (.slice tB.a tB.l.length tB.c) ∧ W1.heap.size ≤ w3.heap.size) := ⟨hb14, HB.out.2.2.1.below hb34, by rw [hW4]; simp, by rw [hW4]; simp, HB.out.2.2.2.2.size⟩
        have p1 := HP1.out W4 hb14
        obtain ⟨d0, d1, d2⟩ := (HX.out W4 hb14).2.2
        have HCC : Hid (Calls Tryz.prog 104 #[.agg #[.string C.w, .slice C.a C.l.length C.c, .bool C.o]] W4 (KdPost (kindT n C.tn) W4)) := ih.out C W4 HM.out.2.2 ((HIN.out.2.below HK.out.low).below hb14)
        clear hb34 hb14
        go_upto_region 12 with fail
        rw [← hW4]
        clear hW4
        go_wp2_with fail
        refine HCC.out.mono ?_
        rintro e w5 ⟨tC, bC, rfl, HC⟩
        clear HCC p1 d0 d1 d2 HP1 HX ih
        obtain ⟨W6, hW6⟩ : ∃ W, W = w5.alloc (.cells #[.int .i64 tC.k, .slice tC.a tC.l.length tC.c] 24) := ⟨_, rfl⟩
        have hb56 : Below w5.heap.size w5 W6 := by rw [hW6]; exact (Below.refl _ _).alloc (Nat.le_refl _) _
        have hb46 : Below W4.heap.size W4 W6 := HC.out.2.2.2.2.trans (hb56.mono HC.out.2.2.2.2.size)
        have hb16 : Below W1.heap.size W1 W6 := HB4.out.1.trans (hb46.mono HB4.out.1.size)
        have l4 : w3.heap.size < W4.heap.size := World.block_lt_of_cell? _ _ HB4.out.2.2.1
        have r0 : W6.cell? ⟨w3.heap.size, 0, none⟩ = some (.int .i64 tB.k) := (hb46.cell (p := ⟨w3.heap.size, 0, none⟩) l4).trans HB4.out.2.2.1
        have r1 : W6.cell? ⟨w3.heap.size, 1, none⟩ = some (.slice tB.a tB.l.length tB.c) := (hb46.cell (p := ⟨w3.heap.size, 1, none⟩) l4).trans HB4.out.2.2.2.1
        have r2 : W6.cell? ⟨w5.heap.size, 0, none⟩ = some (.int .i64 tC.k) := by rw [hW6]; simp
        have r3 : W6.cell? ⟨w5.heap.size, 1, none⟩ = some (.slice tC.a tC.l.length tC.c) := by rw [hW6]; simp
        have HCF : Hid (Calls Tryz.prog 93 #[.agg #[.int .i64 tB.k, .slice tB.a tB.l.length tB.c], .agg #[.int .i64 tC.k, .slice tC.a tC.l.length tC.c]] W6 fun e w' => ∃ g, W6.heap.size ≤ g ∧ e = .returned (.agg #[.int .i64 3, .slice (some ⟨g, 0, none⟩) 2 2]) ∧ Hid ((Tr.mk 3 (some ⟨g, 0, none⟩) 2 [tB, tC]).In w' ∧ Below W6.heap.size W6 w')) := by
          refine (fun_any tB tC W6 (HB4.out.2.1.below hb46) (HC.out.2.2.1.below hb56)).mono ?_
          rintro e w' ⟨g, hg, rfl, h1, h2⟩
          exact ⟨g, hg, rfl, h1, h2⟩
        have HBB : Hid (bB = (kindT n B.tn).isSome ∧ (∀ i, kindT n B.tn = some i → tB.ty = i) ∧ tB.Bl (W1.heap.size ≤ ·)) := ⟨HB.out.1, HB.out.2.1, HB.out.2.2.2.1⟩
        have HCC2 : Hid (bC = (kindT n C.tn).isSome ∧ (∀ i, kindT n C.tn = some i → tC.ty = i) ∧ tC.Bl (W1.heap.size ≤ ·)) := ⟨HC.out.1, HC.out.2.1, HC.out.2.2.2.1.mono fun b hb => by have := HB4.out.1.size; omega⟩
        have H16 : Hid (Below W1.heap.size W1 W6) := hb16
        clear HB HC hb56 hb46 hb16 l4 HB4
        go_upto_region 13 with fail
        rw [← hW6]
        clear hW6
        go_wp2_with fail
        refine HCF.out.mono ?_
        rintro e w7 ⟨g, hg, rfl, HG⟩
        have H17 : Hid (Below W1.heap.size W1 w7) := H16.out.trans (HG.out.2.mono H16.out.size)
        have HKR := HK.out.below H17.out
        have s0 := HKR.f0
        have s1 := HKR.f1
        have s2 := HKR.r0
        have s3 := HKR.r1
        have hlt := HK.out.lt
        have HEN : Hid (KdPost (kindT (n + 1) x.tn) w (.returned (.tuple #[.agg #[.int .i64 3, .slice (some ⟨g, 0, none⟩) 2 2], .bool (bB && bC)])) ((w7.setCell ⟨w.heap.size + 1, 0, none⟩ (.int .i64 3)).setCell ⟨w.heap.size + 1, 1, none⟩ (.slice (some ⟨g, 0, none⟩) 2 2)) ∧
            ((w7.setCell ⟨w.heap.size + 1, 0, none⟩ (.int .i64 3)).setCell ⟨w.heap.size + 1, 1, none⟩ (.slice (some ⟨g, 0, none⟩) 2 2)).cell? ⟨w.heap.size + 1, 0, none⟩ = some (.int .i64 3) ∧
            ((w7.setCell ⟨w.heap.size + 1, 0, none⟩ (.int .i64 3)).setCell ⟨w.heap.size + 1, 1, none⟩ (.slice (some ⟨g, 0, none⟩) 2 2)).cell? ⟨w.heap.size + 1, 1, none⟩ = some (.slice (some ⟨g, 0, none⟩) 2 2)) := by
          have hs := H16.out.size
          refine kd_end (t := Tr.mk 3 (some ⟨g, 0, none⟩) 2 [tB, tC]) HKR ?_ (fun i hi => ?_) HG.out.1 (Tr.Bl_two ⟨by omega, by omega⟩ (HBB.out.2.2.mono fun b hb => ⟨by omega, by omega⟩) (HCC2.out.2.2.mono fun b hb => ⟨by omega, by omega⟩))
          · rw [HT.out, HBB.out.1, HCC2.out.1]
            cases kindT n B.tn with
            | none => rfl
            | some p => cases kindT n C.tn <;> rfl
          · rw [HT.out] at hi
            obtain ⟨p, hp, hi⟩ := Option.bind_eq_some_iff.1 hi
            obtain ⟨q, hq, rfl⟩ := Option.map_eq_some_iff.1 hi
            rw [Tr.ty_mk]
            simp [HBB.out.2.1 p hp, HCC2.out.2.1 q hq]
        clear HCF HG H16 H17 HKR HBB HCC2 HT HK hlt hg r0 r1 r2 r3 HM HIN
        obtain ⟨bb, hbb⟩ : ∃ bb, (bB && bC) = bb := ⟨_, rfl⟩
        rw [hbb] at HEN
        cases bB
        · obtain rfl : false = bb := hbb
          obtain ⟨_, hE2, hE3⟩ := HEN.out
          go_wp2_with fail
          refine bodyPost_ret (v := .tuple #[.agg #[.int .i64 3, .slice (some ⟨g, 0, none⟩) 2 2], .bool false]) ?_ rfl HEN.out.1
          simp [results, Tryz.results104, go_sem, hE2, hE3]
        · obtain rfl : bC = bb := by simpa using hbb
          obtain ⟨_, hE2, hE3⟩ := HEN.out
          clear hbb
          go_wp2_with fail
          refine bodyPost_ret (v := .tuple #[.agg #[.int .i64 3, .slice (some ⟨g, 0, none⟩) 2 2], .bool bC]) ?_ rfl HEN.out.1
          simp [results, Tryz.results104, go_sem, hE2, hE3]
  · have HT : Hid (kindT (n + 1) x.tn = none) := kindT_len n x ho hl
    have hlz : (((x.l.length : Nat) : Int) != 3) = true := by
      rw [bne_iff_ne]
      omega
    clear hx ih hl
    have HEN : Hid (∀ V, Below W1.heap.size W1 V → KdPost (kindT (n + 1) x.tn) w (.returned (.tuple #[.agg #[.int .i64 0, .slice none 0 0], .bool false])) ((V.setCell ⟨w.heap.size + 1, 0, none⟩ (.int .i64 0)).setCell ⟨w.heap.size + 1, 1, none⟩ (.slice none 0 0)) ∧
        ((V.setCell ⟨w.heap.size + 1, 0, none⟩ (.int .i64 0)).setCell ⟨w.heap.size + 1, 1, none⟩ (.slice none 0 0)).cell? ⟨w.heap.size + 1, 0, none⟩ = some (.int .i64 0) ∧
        ((V.setCell ⟨w.heap.size + 1, 0, none⟩ (.int .i64 0)).setCell ⟨w.heap.size + 1, 1, none⟩ (.slice none 0 0)).cell? ⟨w.heap.size + 1, 1, none⟩ = some (.slice none 0 0)) := fun V hV =>
      kd_leaf (T := kindT (n + 1) x.tn) (z := 0) (b := false) (HK.out.below hV) (by rw [HT.out]; rfl) (fun i hi => by rw [HT.out] at hi; cases hi)
    obtain ⟨V, hV⟩ : ∃ V, V = W1.alloc (.cells #[.int .i64 0, .slice none 0 0] 24) := ⟨_, rfl⟩
    have HBV : Hid (Below W1.heap.size W1 V) := by rw [hV]; exact (Below.refl _ _).alloc (Nat.le_refl _) _
    obtain ⟨s0, s1, s2, s3⟩ : V.frozen? ⟨w.heap.size + 1, 0, none⟩ = false ∧ V.frozen? ⟨w.heap.size + 1, 1, none⟩ = false ∧ V.cell? ⟨w.heap.size + 1, 0, none⟩ = some (.int .i64 0) ∧ V.cell? ⟨w.heap.size + 1, 1, none⟩ = some (.slice none 0 0) := ⟨(HK.out.below HBV.out).f0, (HK.out.below HBV.out).f1, (HK.out.below HBV.out).r0, (HK.out.below HBV.out).r1⟩
    obtain ⟨p1, p2⟩ : W1.cell? ⟨w.heap.size, 1, none⟩ = some (.slice x.a x.l.length x.c) ∧ W1.cell? ⟨w.heap.size, 2, none⟩ = some (.bool x.o) := ⟨HK.out.b1, HK.out.b2⟩
    rw [ho] at p2
    clear HK HT ho
    go_enter Tryz.func104, Tryz.ntmps104
    go_upto_region 1 with fail
    rw [← hW1]
    clear hW1
    go_wp2_with fail
    refine (any0_any _).mono ?_
    rintro e w3 ⟨rfl, hw3⟩
    rw [hw3, ← hV]
    obtain ⟨hE1, hE2, hE3⟩ := HEN.out V HBV.out
    have HE1 : Hid (KdPost (kindT (n + 1) x.tn) w (.returned (.tuple #[.agg #[.int .i64 0, .slice none 0 0], .bool false])) ((V.setCell ⟨w.heap.size + 1, 0, none⟩ (.int .i64 0)).setCell ⟨w.heap.size + 1, 1, none⟩ (.slice none 0 0))) := hE1
    clear hV hw3 w3 HEN HBV hE1
    go_wp2_with fail
    refine bodyPost_ret (v := .tuple #[.agg #[.int .i64 0, .slice none 0 0], .bool false]) ?_ rfl HE1.out
    simp [results, Tryz.results104, go_sem, hE2, hE3]
theorem kind_any : ∀ (n : Nat) (x : Nd) (w : World), x.In w → x.tn.flat.length ≤ n → Calls Tryz.prog 104 #[.agg #[.string x.w, .slice x.a x.l.length x.c, .bool x.o]] w (KdPost (kindT n x.tn) w)
  | 0, x, w, _, h => by have := flat_pos x.tn; omega
  | n + 1, x, w, hx, h => by
    by_cases ho : x.o = true
    · refine kind_open n x w hx ho fun y W hy hW => kind_any n y W hW ?_
      rw [flat_of x.tn (by rw [Nd.tn_o]; exact ho)] at h
      simp only [List.length_cons, List.length_append, List.length_nil] at h
      have := flatL_len_mem (x := y.tn) (l := x.tn.l) (by rw [Nd.tn_l]; exact List.mem_map.2 ⟨y, hy, rfl⟩)
      omega
    · exact kind_word n x w (by simpa using ho)
end Go.Proofs.YtnddkmccagiclabGreatDoor

/-
  What the call of chaperoneref.decimal answers.
-/
namespace Go.Proofs.YtnddkmccagiclabGreatDoor
open Go.RowKit
theorem Tryz.underlying174 : Tryz.prog.underlying 174 = some (.slice 5) := by kernel_rfl
theorem Tryz.underlying5 : Tryz.prog.underlying 5 = some (.int .u8) := by kernel_rfl
theorem Tryz.underlying9 : Tryz.prog.underlying 9 = some .string := by kernel_rfl
theorem rcat_run (a b : List UInt8) (h : a.length + b.length ≤ 1000000000) (w : World) : (Op.stringOp .add (bw a) (bw b)).run Tryz.prog w = .ok (.string (bw (a ++ b))) w := by
  have e : bw a ++ bw b = bw (a ++ b) := by
    apply ByteArray.ext
    show (bw a ++ bw b).data = (a ++ b).toArray
    rw [ByteArray.data_append]
    simp [bw]
  rw [run_string_add_sum, e]
  show a.toArray.size + b.toArray.size ≤ 9223372036854775807
  simp; omega
/-- A string of one byte. -/
theorem one_byte (u : Nat) (hu : u < 10) (w : World) : (convert 174 9 (.slice (some ⟨w.heap.size, 0, none⟩) 1 1)).run Tryz.prog (w.alloc (.cells #[.int .u8 (48 + (u : Int))] 5)) = .ok (.string (bw (Lib.decDigits u))) (w.alloc (.cells #[.int .u8 (48 + (u : Int))] 5)) := by
  rw [Lib.decDigits_one hu]
  refine Lib.run_convert_whole (P := Tryz.prog) _ 174 5 9 Tryz.underlying174 Tryz.underlying5 Tryz.underlying9 w.heap.size 0 (bw [UInt8.ofNat (48 + u)]) (fun i hi => ?_) 1
  have h0 : i = 0 := by
    have : (bw [UInt8.ofNat (48 + u)]).size = 1 := rfl
    omega
  subst h0
  have e : (bw [UInt8.ofNat (48 + u)])[0].toNat = 48 + u := by
    show (UInt8.ofNat (48 + u)).toNat = _
    simp; omega
  rw [e]
  simp [go_sem]
theorem nDigits_le : ∀ (k v : Nat), v < 10 ^ (k + 1) → Lib.nDigits v ≤ k + 1
  | 0, v, h => by rw [Lib.nDigits_small (by simpa using h)]; omega
  | k + 1, v, h => by
    by_cases hs : v < 10
    · rw [Lib.nDigits_small hs]; omega
    · rw [Lib.nDigits_big hs]
      rw [Nat.pow_succ] at h
      have := nDigits_le k (v / 10) (by omega)
      omega
theorem decDigits_seven (u : Nat) (hu : u ≤ 9999999) : (Lib.decDigits u).length ≤ 7 := by
  rw [Lib.decDigits_length]
  exact nDigits_le 6 u (by omega)
theorem decDigits_len (u : Nat) (hu : u ≤ 9999999) : (Lib.decDigits u).length ≤ 30 := by
  have := decDigits_seven u hu
  omega
theorem decDigits_more (u : Nat) (h : ¬ u < 10) : Lib.decDigits (u / 10) ++ Lib.decDigits (u % 10) = Lib.decDigits u := by
  rw [Lib.decDigits_one (i := u % 10) (by omega)]
  conv => rhs; rw [Lib.decDigits, dif_neg h]
set_option maxRecDepth 20000 in
set_option maxHeartbeats 1000000 in
theorem decimal_nat (u : Nat) : u ≤ 9999999 → ∀ w : World, Calls Tryz.prog 144 #[.int .i64 (u : Int)] w fun e w' => e = .returned (.string (bw (Lib.decDigits u))) ∧ Below w.heap.size w w' := by
  induction u using Nat.strongRecOn with
  | _ u ih =>
    intro hu w
    have h0 : ¬ (u : Int) < 0 := by omega
    by_cases h9 : u < 10
    · have h1 : ¬ (u : Int) > 9 := by omega
      have hbw : ∀ o, Below w.heap.size w (w.alloc o) := fun o => (Below.refl _ _).alloc (Nat.le_refl _) _
      have hcv := one_byte u h9 w
      clear ih
      go_enter Tryz.func144, Tryz.ntmps144
      go_wp2_with fail
      refine bodyPost_ret (v := .string (bw (Lib.decDigits u))) ?_ rfl ⟨rfl, hbw _⟩
      simp [results, Tryz.results144, go_sem]
    · have h1 : (9 : Int) < (u : Int) := by omega
      have HA : Hid (∀ w : World, Calls Tryz.prog 144 #[.int .i64 ((u : Int) / 10)] w fun e w' => e = .returned (.string (bw (Lib.decDigits (u / 10)))) ∧ Below w.heap.size w w') := by
        intro w
        rw [show (u : Int) / 10 = ((u / 10 : Nat) : Int) by omega]
        exact ih (u / 10) (by omega) (by omega) w
      have HC : Hid (∀ w : World, Calls Tryz.prog 144 #[.int .i64 ((u : Int) % 10)] w fun e w' => e = .returned (.string (bw (Lib.decDigits (u % 10)))) ∧ Below w.heap.size w w') := by
        intro w
        rw [show (u : Int) % 10 = ((u % 10 : Nat) : Int) by omega]
        exact ih (u % 10) (by omega) (by omega) w
      have hcat : ∀ W, (Op.stringOp .add (bw (Lib.decDigits (u / 10))) (bw (Lib.decDigits (u % 10)))).run Tryz.prog W = .ok (.string (bw (Lib.decDigits u))) W := fun W => by
        have l1 := decDigits_len (u / 10) (by omega)
        have l2 := decDigits_len (u % 10) (by omega)
        rw [rcat_run _ _ (by omega) W, decDigits_more u h9]
      clear ih
      go_enter Tryz.func144, Tryz.ntmps144
      go_wp2_with fail
      refine (HA.out _).mono ?_
      rintro e w1 ⟨rfl, hb1⟩
      go_wp2_with fail
      refine (HC.out _).mono ?_
      rintro e w2 ⟨rfl, hb2⟩
      go_wp2_with fail
      refine bodyPost_ret (v := .string (bw (Lib.decDigits u))) ?_ rfl ⟨rfl, hb1.trans (hb2.mono hb1.size)⟩
      simp [results, Tryz.results144, go_sem]
set_option maxRecDepth 20000 in
set_option maxHeartbeats 1000000 in
/-- decimal. -/
theorem decimal_any (n : Int) (h0 : -9999999 ≤ n) (h1 : n ≤ 9999999) (w : World) : Calls Tryz.prog 144 #[.int .i64 n] w fun e w' => e = .returned (.string (bw (Lib.itoa n))) ∧ Below w.heap.size w w' := by
  by_cases hn : n < 0
  · have HA : Hid (∀ w : World, Calls Tryz.prog 144 #[.int .i64 (-n)] w fun e w' => e = .returned (.string (bw (Lib.decDigits n.natAbs))) ∧ Below w.heap.size w w') := by
      intro w
      rw [show -n = ((n.natAbs : Nat) : Int) by omega]
      exact decimal_nat n.natAbs (by omega) w
    have hcat : ∀ W, (Op.stringOp .add { data := #[45] } (bw (Lib.decDigits n.natAbs))).run Tryz.prog W = .ok (.string (bw (Lib.itoa n))) W := fun W => by
      have l1 := decDigits_len n.natAbs (by omega)
      have := rcat_run [45] (Lib.decDigits n.natAbs) (by simp; omega) W
      have e : Lib.itoa n = [45] ++ Lib.decDigits n.natAbs := by unfold Lib.itoa; rw [if_pos hn]; rfl
      rw [e]
      exact this
    go_enter Tryz.func144, Tryz.ntmps144
    go_wp2_with fail
    refine (HA.out _).mono ?_
    rintro e w1 ⟨rfl, hb1⟩
    go_wp2_with fail
    refine bodyPost_ret (v := .string (bw (Lib.itoa n))) ?_ rfl ⟨rfl, hb1⟩
    simp [results, Tryz.results144, go_sem]
  · obtain ⟨u, rfl⟩ : ∃ u : Nat, n = (u : Int) := ⟨n.toNat, by omega⟩
    have e : Lib.itoa (u : Int) = Lib.decDigits u := by unfold Lib.itoa; rw [if_neg (by omega)]; simp
    rw [e]
    exact decimal_nat u (by omega) w
end Go.Proofs.YtnddkmccagiclabGreatDoor
